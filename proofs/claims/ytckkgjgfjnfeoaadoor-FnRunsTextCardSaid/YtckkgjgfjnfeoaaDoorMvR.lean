/- The runs of moves as a text, as the program writes them. -/
import Derived.Test.YtckkgjgfjnfeoaaDoorTrM
import Derived.Test.YtckkgjgfjnfeoaaDoorMovS
import Derived.Test.YtckkgjgfjnfeoaaDoorRdM
import Derived.Test.YtckkgjgfjnfeoaaDoorItoa
set_option linter.unusedVariables false
namespace Go.Proofs.YtckkgjgfjnfeoaaDoor
set_option maxRecDepth 4000

set_option maxRecDepth 4000
open Go.ChangeShapes Go.WideShapes Go.ChangeAt Go.RowKit Go.Joins

theorem tailM (y : Bool) (r : List Bool) : (txtM (y :: r)).extract 1 (txtM (y :: r)).size = txtM r := by
  rw [txtM_extract, txtM_size, List.drop_one, List.tail_cons, List.take_of_length_le (by simp)]

theorem headM (y : Bool) (r : List Bool) : (txtM (y :: r)).extract 0 1 = txtM [y] := by
  rw [txtM_extract]; rfl

set_option maxHeartbeats 2000000 in
theorem trimLeftByte_any (x : Bool) (v : List Bool) (w : World) (hv : v.length ≤ 58) :
    Calls Tryd.prog 61 #[.string (txtM v), .int .u8 (if x = true then 82 else 76)] w fun e w' => e = .returned (.string (txtM (v.dropWhile (· == x)))) ∧ w = w' := by
  obtain ⟨D, hD⟩ : ∃ D, v.dropWhile (· == x) = D := ⟨_, rfl⟩
  have HD := Lib.hid hD
  rw [hD]
  clear hD
  obtain ⟨Z, hZ⟩ : ∃ Z : Int, (if x = true then (82 : Int) else 76) = Z := ⟨_, rfl⟩
  rw [hZ]
  have HZ := Lib.hid hZ
  clear hZ
  go_enter Tryd.func61, Tryd.ntmps61
  go_wp2_with fail
  go_loop [0] (fun a => ∃ r : List Bool, a = .string (txtM r) ∧ r.length ≤ 58 ∧ Hid (r.dropWhile (· == x) = D)) (fun a => strSzM a)
  case atStart => exact ⟨v, rfl, hv, HD.out⟩
  case round =>
    obtain ⟨r, rfl, hr, hd⟩ := hrel
    cases r with
    | nil =>
      have hsz : (txtM []).size = 0 := rfl
      have hE : Hid (D = []) := by rw [← hd.out]; rfl
      have h0' : ¬ (0 : Int) < ((txtM []).size : Int) := by omega
      go_wp2
      go_ret
      exact ⟨by rw [hE.out]; rfl, rfl⟩
    | cons y r =>
      have hsz := txtM_size (y :: r)
      rw [List.length_cons] at hsz hr
      have hb := mv_bytes (y :: r) (k := 0) (by omega)
      have hE := tailM y r
      rw [hsz] at hE
      have hd' := hd.out
      rw [List.dropWhile_cons] at hd'
      by_cases e : y = x
      · subst e
        have hd2 : Hid (r.dropWhile (· == y) = D) := by show _ = _; simpa using hd'
        have hb2 : ((txtM (y :: r))[0].toNat : Int) = Z := by rw [hb, ← HZ.out]; rfl
        have hT := txtM_size r
        clear hd hd' hb
        have h0' : (0 : Int) < (txtM (y :: r)).size := by omega
        have h1' : (1 : Int) ≤ (txtM (y :: r)).size := by omega
        go_wp2_with fail
        go_round
        case rel => exact ⟨r, rfl, by omega, hd2.out⟩
        case measure => show (txtM r).size < (txtM (y :: r)).size; omega
      · have hd2 : Hid (D = y :: r) := by
          have : (y == x) = false := by simpa using e
          rw [this] at hd'
          exact hd'.symm
        have hb2 : ¬ ((txtM (y :: r))[0].toNat : Int) = Z := by
          rw [hb, ← HZ.out]
          show ¬ (if y = true then (82 : Int) else 76) = _
          cases x <;> cases y <;> first | (exact absurd rfl e) | decide
        clear hd hd' hb
        have h0' : (0 : Int) < (txtM (y :: r)).size := by omega
        go_wp2
        go_ret
        exact ⟨by rw [hd2.out]; rfl, rfl⟩

set_option maxHeartbeats 2000000 in
theorem trimLeftM_any (x : Bool) (v : List Bool) (w : World) (hv : v.length ≤ 58) (h0 : v ≠ []) :
    Calls Tryd.prog 47 #[.string (txtM v), .string (txtM [x])] w fun e w' => e = .returned (.string (txtM (v.dropWhile (· == x)))) ∧ w = w' := by
  have hT := Lib.hid (fun w => trimLeftByte_any x v w hv)
  have hemp : (txtM v).toList.isEmpty = false := toList_emptyM (by rw [txtM_size]; exact fun e => h0 (List.length_eq_zero_iff.1 e))
  generalize txtM (v.dropWhile (· == x)) = R at *
  generalize txtM v = U at *
  cases x with
  | false =>
    rw [show (if false = true then (82 : Int) else 76) = 76 from rfl] at hT
    rw [show txtM [false] = ⟨#[76]⟩ from rfl]
    go_enter Tryd.func47, Tryd.ntmps47
    go_wp2_with fail
    refine (hT.out _).mono ?_; rintro e w2 ⟨rfl, rfl⟩
    go_wp2
    go_ret
    exact ⟨rfl, rfl⟩
  | true =>
    rw [show (if true = true then (82 : Int) else 76) = 82 from rfl] at hT
    rw [show txtM [true] = ⟨#[82]⟩ from rfl]
    go_enter Tryd.func47, Tryd.ntmps47
    go_wp2_with fail
    refine (hT.out _).mono ?_; rintro e w2 ⟨rfl, rfl⟩
    go_wp2
    go_ret
    exact ⟨rfl, rfl⟩

theorem drop_run (x : Bool) (c : Nat) (q : List Bool) (hq : q = [] ∨ q.head? = some (!x)) : (List.replicate c x ++ q).dropWhile (· == x) = q := by
  induction c with
  | zero =>
    rcases hq with rfl | hq
    · rfl
    · cases q with
      | nil => cases hq
      | cons y r =>
        obtain rfl := Option.some.inj hq
        show ((!x) :: r).dropWhile (· == x) = _
        rw [List.dropWhile_cons, if_neg (by simp)]
  | succ c ih => rw [List.replicate_succ, List.cons_append, List.dropWhile_cons, if_pos (by simp)]; exact ih

set_option maxHeartbeats 4000000 in
theorem runsText_any (u : ByteArray) (w : World) (hu : u.size ≤ 2000000) :
    Calls Tryd.prog 26 #[.string u] w fun e w' => e = .returned (.string (rtF u)) ∧ Below w.heap.size w w' := by
  have hmo := Lib.hid (fun w => movesOk_any u w hu)
  rcases mvOk_cases u with ⟨v, hv, rfl, hok⟩ | ⟨hno, hok⟩
  · rw [hok] at hmo
    have hX : rtF (txtM v) = runsTxt v := onM_yes hv
    rw [hX]
    clear hX hok
    by_cases h0 : v = []
    · subst h0
      rw [show runsTxt [] = ⟨#[46]⟩ from rfl]
      rw [show txtM [] = ⟨#[]⟩ from rfl] at hmo ⊢
      go_enter Tryd.func26, Tryd.ntmps26
      go_wp2_with fail
      refine (hmo.out _).mono ?_; rintro e w1 ⟨rfl, hb1⟩
      go_wp2
      go_ret
      exact ⟨rfl, hb1⟩
    · rw [runsTxt_cons h0]
      have hemp : (txtM v).toList.isEmpty = false := toList_emptyM (by rw [txtM_size]; exact fun e => h0 (List.length_eq_zero_iff.1 e))
      obtain ⟨R, hR⟩ : ∃ R, runsM v = R := ⟨_, rfl⟩
      have HR := Lib.hid hR
      rw [hR]
      clear hR
      go_enter Tryd.func26, Tryd.ntmps26
      go_wp2_with fail
      refine (hmo.out _).mono ?_; rintro e w1 ⟨rfl, hb1⟩
      go_wp2_with fail
      go_loopw [0, 3] (fun a b wr => ∃ (r : List Bool) (rs : List (Bool × Nat)) (A : ByteArray), a = .string (txtM r) ∧ b = .string A ∧ Hid (A = txtL (runsB rs)) ∧ A.size + 3 * r.length ≤ 174 ∧ r.length ≤ 58 ∧ Hid (rs ++ runsM r = R) ∧ Below w.heap.size w wr) (fun a _ _ => strSzM a)
      case atStart => exact ⟨v, [], _, rfl, rfl, rfl, by show 0 + 3 * v.length ≤ 174; omega, hv, HR.out, hb1⟩
      case round =>
        obtain ⟨r, rs, A, rfl, rfl, HA, hA, hr, HD, hB⟩ := hrel
        clear hmo hb1 hemp HR
        cases r with
        | nil =>
          have hE : Hid (R = rs) := by show _ = _; rw [← HD.out]; show rs ++ [] = rs; simp
          rw [show txtM [] = ⟨#[]⟩ from rfl]
          go_wp2
          go_ret
          exact ⟨by rw [hE.out, ← HA.out]; rfl, hB⟩
        | cons x r =>
          obtain ⟨c, q, he, hq⟩ := span_run x r
          have hD2 : Hid ((rs ++ [(x, c + 1)]) ++ runsM q = R) := by show _ = _; rw [← HD.out, he, runsM_run x q hq c, List.append_assoc]; rfl
          have hTr := Lib.hid (fun w => trimLeftM_any x (x :: r) w hr (by simp))
          rw [show (x :: r).dropWhile (· == x) = q by rw [he]; exact drop_run x (c + 1) q hq] at hTr
          have hz1 := txtM_size (x :: r)
          have hz2 := txtM_size q
          have hlen : (x :: r).length = (c + 1) + q.length := by rw [he, List.length_append, List.length_replicate]
          rw [hlen] at hr hz1 hA
          have hI := Lib.hid (fun w => itoa_any (c + 1) (by omega) w)
          have hemp : (txtM (x :: r)).toList.isEmpty = false := toList_emptyM (by omega)
          have hhd := headM x r
          have hg1 : (1 : Int) ≤ ((txtM (x :: r)).size : Int) := by omega
          have hw1 : IntKind.i64.wrap (((txtM (x :: r)).size : Int) - ((txtM q).size : Int)) = ((c + 1 : Nat) : Int) := by rw [show ((txtM (x :: r)).size : Int) - ((txtM q).size : Int) = ((c + 1 : Nat) : Int) by omega]; exact IntWalk.i64_in _ (by omega)
          have E : Hid (A ++ (txtM [x] ++ txtL (decN (c + 1))) = txtL (runsB (rs ++ [(x, c + 1)]))) := by
            show _ = _
            rw [HA.out, runsB_snoc, ← txtL_append]
            rfl
          have hDz : (txtL (decN (c + 1))).size ≤ 2 := by rw [txtL_size]; exact decN_len 1 (by omega) (by omega)
          have hLz : (txtM [x]).size = 1 := rfl
          generalize txtM (x :: r) = U at *
          generalize txtL (decN (c + 1)) = DT at *
          generalize txtM [x] = LT at *
          have hz3 : (LT ++ DT).size = LT.size + DT.size := by simp
          have hz4 : (A ++ (LT ++ DT)).size = A.size + (LT.size + DT.size) := by simp
          clear HD he hlen HA
          go_wp2_with fail
          refine (hTr.out _).mono ?_; rintro e w2 ⟨rfl, rfl⟩
          clear hTr
          go_wp2_with fail
          refine (hI.out _).mono ?_; rintro e w3 ⟨rfl, rfl⟩
          clear hI
          go_wp2_with fail
          go_roundw
          case rel => exact ⟨q, rs ++ [(x, c + 1)], _, rfl, rfl, E.out, by omega, by omega, hD2.out, hB⟩
          case measure => show (txtM q).size < U.size; omega
  · rw [hok] at hmo
    have hX : rtF u = ⟨#[]⟩ := onM_no hno
    rw [hX]
    go_enter Tryd.func26, Tryd.ntmps26
    go_wp2_with fail
    refine (hmo.out _).mono ?_; rintro e w1 ⟨rfl, hb1⟩
    go_wp2
    go_ret
    exact ⟨rfl, hb1⟩
end Go.Proofs.YtckkgjgfjnfeoaaDoor
