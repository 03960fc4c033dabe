/- Contracts of chapter 13's functions of the model: words of moves. -/
import Derived.Test.YtckkgjgfjnfeoaaGreatDoorGMov
import Derived.Test.YtckkgjgfjnfeoaaGreatDoorGKit
import Derived.BigQuiet
import Derived.Test.YtckkgjgfjnfeoaaGreatDoorOne
import Derived.Laws.Concat
set_option linter.unusedVariables false
namespace Go.Proofs.YtckkgjgfjnfeoaaGreatDoor
set_option maxRecDepth 4000

set_option maxRecDepth 4000
open Go.ChangeShapes Go.WideShapes Go.ChangeAt Go.RowKit Go.Joins

theorem u8_is {c : UInt8} {n : Nat} (h : (c.toNat : Int) = n) (hn : n < 256) : c = UInt8.ofNat n := by
  apply UInt8.toNat_inj.1
  rw [UInt8.toNat_ofNat']
  omega

theorem u8_76 {c : UInt8} (h : (c.toNat : Int) = 76) : c = 76 := u8_is (n := 76) h (by omega)

theorem u8_82 {c : UInt8} (h : (c.toNat : Int) = 82) : c = 82 := u8_is (n := 82) h (by omega)

theorem byteM_int (b : Bool) : ((byteM b).toNat : Int) = if b then 82 else 76 := by cases b <;> rfl

set_option maxHeartbeats 1000000 in
theorem specMovesOk_any (u : ByteArray) (w : World) (hu : u.size ≤ 2000000) :
    Calls Tryz.prog 18 #[.string u] w fun e w' => e = .returned (.bool (mvOkF u)) ∧ w = w' := by
  obtain ⟨R, hR⟩ : ∃ R, mvOkF u = R := ⟨_, rfl⟩
  have HY := Lib.hid (fun h : mvP u => (mvOk_yes h).symm.trans hR)
  have HN := Lib.hid (fun h : ¬ mvP u => (mvOk_no h).symm.trans hR)
  rw [hR]
  clear hR
  go_enter Tryz.func18, Tryz.ntmps18
  go_wp2_with fail
  go_loop [3] (fun i => ∃ k : Nat, i = .int .i64 k ∧ k ≤ u.size ∧ Hid (AllM u k)) (fun i => u.size - (intOf i).toNat)
  case atStart => exact ⟨0, rfl, by omega, fun i _ hi => by omega⟩
  case round =>
    obtain ⟨k, rfl, hk, ha⟩ := hrel
    by_cases hlt : k < u.size
    · have hlt' : (k : Int) < u.size := by omega
      by_cases c48 : (u[k].toNat : Int) = 76
      · have h2 := Lib.hid (AllM.next ha.out hlt (.inl (u8_76 c48)))
        go_wp2_with fail
        go_round
        case rel => exact ⟨k + 1, by go_num, by omega, h2.out⟩
        case measure => simp only [intOf]; omega
      · by_cases c49 : (u[k].toNat : Int) = 82
        · have h2 := Lib.hid (AllM.next ha.out hlt (.inr (u8_82 c49)))
          go_wp2_with fail
          go_round
          case rel => exact ⟨k + 1, by go_num, by omega, h2.out⟩
          case measure => simp only [intOf]; omega
        · have n48 : ((u[k].toNat : Int) != 76) = true := by simpa using c48
          have n49 : ((u[k].toNat : Int) != 82) = true := by simpa using c49
          have hN := Lib.hid (HN.out (fun h => by
            rcases h.2 k hlt hlt with e | e
            · exact c48 (by rw [e]; rfl)
            · exact c49 (by rw [e]; rfl)))
          clear ha
          go_wp2
          go_ret
          exact ⟨ret_bool hN.out, rfl⟩
    · have hkn : k = u.size := by omega
      have hlt' : decide ((k : Int) < u.size) = false := by simp; omega
      have HA := Lib.hid (show AllM u u.size by rw [← hkn]; exact ha.out)
      clear ha
      by_cases c : u.size ≤ 58
      · have c' : (u.size : Int) ≤ 58 := by omega
        have hP := Lib.hid (HY.out ⟨c, HA.out⟩)
        go_wp2
        go_ret
        exact ⟨ret_bool hP.out, rfl⟩
      · have c' : decide ((u.size : Int) ≤ 58) = false := by simp; omega
        have hP := Lib.hid (HN.out (fun h => c h.1))
        go_wp2
        go_ret
        exact ⟨ret_bool hP.out, rfl⟩

theorem tok_eq (n s : Nat) : tok (n : Int) (s : Int) = tokN n s := by
  rw [Bool.eq_iff_iff]
  constructor
  · intro h
    obtain ⟨N, S, h1, h2, h3⟩ := tokN_of h
    have e1 : n = N := by omega
    have e2 : s = S := by omega
    rw [e1, e2]; exact h3
  · exact tok_of_tokN

theorem mv_tokI (u : List Bool) : tok (mvN u : Int) (mvS u : Int) = decide (mvN u ≤ 60) := by rw [tok_eq, mv_tok]

theorem mvS_le (u : List Bool) : 1 ≤ mvS u ∧ mvS u < mvN u := by
  have := mvVal_pos u
  unfold mvS mvN
  omega

/-- the bytes of a word, as numbers -/
theorem mv_bytes (v : List Bool) {k : Nat} (h : k < (txtM v).size) : ((txtM v)[k].toNat : Int) = if v.getD k false = true then 82 else 76 := by
  rw [txtM_get h]
  cases v.getD k false <;> rfl

theorem take_more {v : List Bool} {k : Nat} (h : k < v.length) : v.take (k + 1) = v.take k ++ [v.getD k false] := by
  rw [List.take_add_one, List.getElem?_eq_getElem h, Option.toList_some, List.getD_eq_getElem?_getD, List.getElem?_eq_getElem h]
  rfl

theorem take_letter {v : List Bool} {k : Nat} (h : k < v.length) : (txtM v).extract k (k + 1) = txtM [v.getD k false] := by
  rw [txtM_extract, show k + 1 - k = 1 by omega, List.take_one, List.head?_drop, List.getElem?_eq_getElem h, List.getD_eq_getElem?_getD, List.getElem?_eq_getElem h]
  rfl

/-- the state of both fractions after so many moves -/
theorem frac_facts (v : List Bool) (k : Nat) : (fracs Frac.first (v.take k)).b + (fracs Frac.first (v.take k)).d = mvN (v.take k) ∧ (fracs Frac.first (v.take k)).a + (fracs Frac.first (v.take k)).c = mvS (v.take k) ∧ mvS (v.take k) < mvN (v.take k) ∧ mvN (v.take k) ≤ mvN v := by
  refine ⟨(frac_step _).2, (frac_step _).1, (mvS_le _).2, ?_⟩
  have := mvN_mono (v.take k) (v.drop k)
  rwa [List.take_append_drop] at this

theorem frac_next {v : List Bool} {k : Nat} (h : k < v.length) : fracs Frac.first (v.take (k + 1)) = (fracs Frac.first (v.take k)).go (v.getD k false) := by rw [take_more h, fracs_snoc]

set_option maxHeartbeats 4000000 in
theorem specMoveTurn_any (u : ByteArray) (w : World) (hu : u.size ≤ 2000000) :
    Calls Tryz.prog 8 #[.string u] w fun e w' => e = .returned (.tuple #[(.agg #[.int .i64 ((mtF u).1), .int .i64 ((mtF u).2)]), .bool (mtP u)]) ∧ Below w.heap.size w w' := by
  have z0 : Two (w.alloc (.cells #[.int .i64 0, .int .i64 0] 25)) w.heap.size (.int .i64 0) (.int .i64 0) 25 := Two.new _ _ _ _
  have hB0 : Below w.heap.size w (w.alloc (.cells #[.int .i64 0, .int .i64 0] 25)) := (by repeat (first | exact Below.refl _ _ | assumption | (refine Below.trans ?_ (Below.mono (by assumption) (by first | omega | (simp <;> omega)))) | (refine Below.alloc ?_ (by first | omega | (simp <;> omega)) _) | (refine below_drewN ?_ _) | (refine Below.drew ?_) | (refine Below.setCell ?_ (by first | omega | (simp <;> omega)) _)))
  have c0 := z0.cell0
  have c1 := z0.cell1
  have f0 := z0.free 0
  have f1 := z0.free 1
  rcases mvOk_cases u with ⟨v, hv, rfl, hok⟩ | ⟨hno, hok⟩
  · have hsz := txtM_size v
    have HG := Lib.hid (fun k (h : k < (txtM v).size) => mv_bytes v h)
    have HN := Lib.hid (fun k (h : k < v.length) => frac_next (v := v) h)
    have HFS := Lib.hid (frac_facts v)
    have HFL := frac_facts v v.length
    rw [List.take_length] at HFL
    have hmo := Lib.hid (fun w => specMovesOk_any (txtM v) w (by rw [hsz]; omega))
    rw [hok] at hmo
    have HT := Lib.hid (fun (k : Nat) w => specTurnOk_any (mvN (v.take k) : Int) (mvS (v.take k) : Int) w)
    have HTV : Hid (∀ k, tok (mvN (v.take k) : Int) (mvS (v.take k) : Int) = decide (mvN (v.take k) ≤ 60)) := fun k => mv_tokI _
    obtain ⟨R1, hR1⟩ : ∃ R1, mtF (txtM v) = R1 := ⟨_, rfl⟩
    obtain ⟨R2, hR2⟩ : ∃ R2, mtP (txtM v) = R2 := ⟨_, rfl⟩
    have HY : Hid (mvN v ≤ 60 → R1 = ((mvN v : Int), (mvS v : Int)) ∧ R2 = true) := fun h => ⟨by rw [← hR1]; exact mtF_yes hv h, by rw [← hR2]; exact mtP_yes hv h⟩
    have HNo : Hid (¬ mvN v ≤ 60 → R1 = (0, 0) ∧ R2 = false) := fun h => ⟨by rw [← hR1]; exact mtF_no (mtP_big h), by rw [← hR2]; exact mtP_big h⟩
    have HV : Hid (v.take v.length = v) := List.take_length
    rw [hR1, hR2]
    obtain ⟨U, hU⟩ : ∃ U, txtM v = U := ⟨_, rfl⟩
    rw [hU] at hsz HG hmo ⊢
    obtain ⟨L, hL⟩ : ∃ L, v.length = L := ⟨_, rfl⟩
    rw [hL] at hv hsz HN HV
    have H0 : Hid (fracs Frac.first (v.take 0) = ⟨0, 1, 1, 1⟩) := rfl
    clear hR1 hR2 hU hL HFL hok
    go_enter Tryz.func8, Tryz.ntmps8
    go_wp2_with fail
    generalize w.alloc (.cells #[.int .i64 0, .int .i64 0] 25) = W at *
    refine (hmo.out _).mono ?_; rintro e w1 ⟨rfl, rfl⟩
    go_wp2_with fail
    go_loopw [4, 5, 6, 7, 8] (fun xa xb xc xd xk wr => ∃ k : Nat, xa = .int .i64 ((fracs Frac.first (v.take k)).a : Nat) ∧ xb = .int .i64 ((fracs Frac.first (v.take k)).b : Nat) ∧ xc = .int .i64 ((fracs Frac.first (v.take k)).c : Nat) ∧ xd = .int .i64 ((fracs Frac.first (v.take k)).d : Nat) ∧ xk = .int .i64 k ∧ k ≤ L ∧ mvN (v.take k) ≤ 120 ∧ Two wr w.heap.size (.int .i64 0) (.int .i64 0) 25 ∧ Below w.heap.size w wr) (fun _ _ _ _ xk _ => L - (intOf xk).toNat)
    case atStart => exact ⟨0, by rw [H0.out]; rfl, by rw [H0.out]; rfl, by rw [H0.out]; rfl, by rw [H0.out]; rfl, rfl, by omega, by rw [List.take_zero]; decide, z0, hB0⟩
    case round =>
      obtain ⟨k, rfl, rfl, rfl, rfl, rfl, hk, h120, zr, hBr⟩ := hrel
      clear H0 z0 hB0 c0 c1 f0 f1
      obtain ⟨s1, s2, s3, s4⟩ := HFS.out k
      by_cases hkl : k < L
      · have hkl' : (k : Int) < L := by omega
        have hku : k < U.size := by omega
        have hb := HG.out k hku
        have hn := Lib.hid (HN.out k hkl)
        obtain ⟨s1', _, _, _⟩ := HFS.out (k + 1)
        rw [hn.out] at s1'
        have hkU : (k : Int) < (U.size : Int) := by omega
        generalize fracs Frac.first (v.take k) = G at *
        by_cases h60 : G.b + G.d ≤ 60
        · have h60' : (G.b : Int) + (G.d : Int) ≤ 60 := by omega
          have wbd : IntKind.i64.wrap ((G.b : Int) + (G.d : Int)) = (G.b : Int) + (G.d : Int) := IntWalk.i64_in _ (by omega)
          have wac : IntKind.i64.wrap ((G.a : Int) + (G.c : Int)) = (G.a : Int) + (G.c : Int) := IntWalk.i64_in _ (by omega)
          cases hx : v.getD k false with
          | false =>
            rw [hx] at hb hn s1'
            have hb' : (U[k].toNat : Int) = 76 := hb
            have hn' : Hid (fracs Frac.first (v.take (k + 1)) = ⟨G.a, G.b, G.a + G.c, G.b + G.d⟩) := hn.out
            have s1'' : G.b + (G.b + G.d) = mvN (v.take (k + 1)) := s1'
            clear hb hn s1'
            go_wp2_with fail
            go_roundw
            case rel => exact ⟨k + 1, by rw [hn'.out], by rw [hn'.out], by rw [hn'.out]; go_num, by rw [hn'.out]; go_num, by go_num, by omega, by omega, zr, hBr⟩
            case measure => simp only [intOf]; omega
          | true =>
            rw [hx] at hb hn s1'
            have hb' : (U[k].toNat : Int) = 82 := hb
            have hn' : Hid (fracs Frac.first (v.take (k + 1)) = ⟨G.a + G.c, G.b + G.d, G.c, G.d⟩) := hn.out
            have s1'' : G.b + G.d + G.d = mvN (v.take (k + 1)) := s1'
            clear hb hn s1'
            go_wp2_with fail
            go_roundw
            case rel => exact ⟨k + 1, by rw [hn'.out]; go_num, by rw [hn'.out]; go_num, by rw [hn'.out], by rw [hn'.out], by go_num, by omega, by omega, zr, hBr⟩
            case measure => simp only [intOf]; omega
        · have h60' : decide ((G.b : Int) + (G.d : Int) ≤ 60) = false := decide_eq_false (by omega)
          have wbd : IntKind.i64.wrap ((G.b : Int) + (G.d : Int)) = ((mvN (v.take k) : Nat) : Int) := by rw [show (G.b : Int) + (G.d : Int) = ((mvN (v.take k) : Nat) : Int) by omega]; exact IntWalk.i64_in _ (by omega)
          have wac : IntKind.i64.wrap ((G.a : Int) + (G.c : Int)) = ((mvS (v.take k) : Nat) : Int) := by rw [show (G.a : Int) + (G.c : Int) = ((mvS (v.take k) : Nat) : Int) by omega]; exact IntWalk.i64_in _ (by omega)
          have hY := Lib.hid (HNo.out (by omega))
          have hnn : ¬ ((mvN (v.take k) : Nat) : Int) ≤ 60 := by omega
          have hnn' : decide (((mvN (v.take k) : Nat) : Int) ≤ 60) = false := decide_eq_false hnn
          have HTk := Lib.hid (HT.out k)
          rw [HTV.out k, decide_eq_false (show ¬ mvN (v.take k) ≤ 60 by omega)] at HTk
          have t9 := Two.new wr (.int .i64 ((mvN (v.take k) : Nat) : Int)) (.int .i64 ((mvS (v.take k) : Nat) : Int)) 25
          generalize ((mvN (v.take k) : Nat) : Int) = nn at *
          generalize ((mvS (v.take k) : Nat) : Int) = ss at *
          have t9c := t9.cell0
          have t9d := t9.cell1
          have z9 := zr.alloc (.cells #[.int .i64 nn, .int .i64 ss] 25)
          have hB9 := hBr.alloc hBr.size (.cells #[.int .i64 nn, .int .i64 ss] 25)
          go_wp2_with fail
          refine (HTk.out _).mono ?_; rintro e w10 ⟨rfl, hb10⟩
          have z10 := z9.below hb10 z9.lt
          have hB10 := hB9.trans (hb10.mono hB9.size)
          have d0 := z10.cell0
          have d1 := z10.cell1
          have g0 := z10.free 0
          have g1 := z10.free 1
          have z11 := (z10.set0 (.int .i64 0)).set1 (.int .i64 0)
          have e0 := z11.cell0
          have e1 := z11.cell1
          go_wp2
          refine bodyPost_ret (v := .tuple #[(.agg #[.int .i64 (0), .int .i64 (0)]), .bool false]) (by simp [results, Tryz.results8, go_sem, e0, e1]) rfl ?_
          exact ⟨by rw [hY.out.1, hY.out.2], (hB10.setCell (Nat.le_refl _) _).setCell (Nat.le_refl _) _⟩
      · obtain rfl : k = L := by omega
        have hkl' : decide ((k : Int) < k) = false := by simp
        have wbd : IntKind.i64.wrap (((fracs Frac.first (v.take k)).b : Int) + ((fracs Frac.first (v.take k)).d : Int)) = ((mvN (v.take k) : Nat) : Int) := by rw [show ((fracs Frac.first (v.take k)).b : Int) + ((fracs Frac.first (v.take k)).d : Int) = ((mvN (v.take k) : Nat) : Int) by omega]; exact IntWalk.i64_in _ (by omega)
        have wac : IntKind.i64.wrap (((fracs Frac.first (v.take k)).a : Int) + ((fracs Frac.first (v.take k)).c : Int)) = ((mvS (v.take k) : Nat) : Int) := by rw [show ((fracs Frac.first (v.take k)).a : Int) + ((fracs Frac.first (v.take k)).c : Int) = ((mvS (v.take k) : Nat) : Int) by omega]; exact IntWalk.i64_in _ (by omega)
        have HTk := Lib.hid (HT.out k)
        rw [HTV.out k] at HTk
        generalize fracs Frac.first (v.take k) = G at *
        have hkU : ¬ (k : Int) < (U.size : Int) := by omega
        have t9 := Two.new wr (.int .i64 ((mvN (v.take k) : Nat) : Int)) (.int .i64 ((mvS (v.take k) : Nat) : Int)) 25
        by_cases h60 : mvN (v.take k) ≤ 60
        · rw [decide_eq_true h60] at HTk
          rw [HV.out] at h60
          have hY := Lib.hid (HY.out h60)
          have HVV := HV.out
          rw [HVV] at wbd wac HTk t9
          generalize ((mvN v : Nat) : Int) = nn at *
          generalize ((mvS v : Nat) : Int) = ss at *
          have t9c := t9.cell0
          have t9d := t9.cell1
          have z9 := zr.alloc (.cells #[.int .i64 nn, .int .i64 ss] 25)
          have hB9 := hBr.alloc hBr.size (.cells #[.int .i64 nn, .int .i64 ss] 25)
          go_wp2_with fail
          refine (HTk.out _).mono ?_; rintro e w10 ⟨rfl, hb10⟩
          have z10 := z9.below hb10 z9.lt
          have t10 := t9.below hb10 t9.lt
          have hB10 := hB9.trans (hb10.mono hB9.size)
          have t10c := t10.cell0
          have t10d := t10.cell1
          have d0 := z10.cell0
          have d1 := z10.cell1
          have g0 := z10.free 0
          have g1 := z10.free 1
          have z11 := (z10.set0 (.int .i64 nn)).set1 (.int .i64 ss)
          have e0 := z11.cell0
          have e1 := z11.cell1
          go_wp2
          refine bodyPost_ret (v := .tuple #[(.agg #[.int .i64 (nn), .int .i64 (ss)]), .bool true]) (by simp [results, Tryz.results8, go_sem, e0, e1]) rfl ?_
          exact ⟨by rw [hY.out.1, hY.out.2], (hB10.setCell (Nat.le_refl _) _).setCell (Nat.le_refl _) _⟩
        · rw [decide_eq_false h60] at HTk
          rw [HV.out] at h60
          have hY := Lib.hid (HNo.out h60)
          generalize ((mvN (v.take k) : Nat) : Int) = nn at *
          generalize ((mvS (v.take k) : Nat) : Int) = ss at *
          have t9c := t9.cell0
          have t9d := t9.cell1
          have z9 := zr.alloc (.cells #[.int .i64 nn, .int .i64 ss] 25)
          have hB9 := hBr.alloc hBr.size (.cells #[.int .i64 nn, .int .i64 ss] 25)
          go_wp2_with fail
          refine (HTk.out _).mono ?_; rintro e w10 ⟨rfl, hb10⟩
          have z10 := z9.below hb10 z9.lt
          have hB10 := hB9.trans (hb10.mono hB9.size)
          have d0 := z10.cell0
          have d1 := z10.cell1
          have g0 := z10.free 0
          have g1 := z10.free 1
          have z11 := (z10.set0 (.int .i64 0)).set1 (.int .i64 0)
          have e0 := z11.cell0
          have e1 := z11.cell1
          go_wp2
          refine bodyPost_ret (v := .tuple #[(.agg #[.int .i64 (0), .int .i64 (0)]), .bool false]) (by simp [results, Tryz.results8, go_sem, e0, e1]) rfl ?_
          exact ⟨by rw [hY.out.1, hY.out.2], (hB10.setCell (Nat.le_refl _) _).setCell (Nat.le_refl _) _⟩
  · rw [mtF_no (mtP_no hno), mtP_no hno]
    have hmo := Lib.hid (fun w => specMovesOk_any u w hu)
    rw [hok] at hmo
    go_enter Tryz.func8, Tryz.ntmps8
    go_wp2_with fail
    refine (hmo.out _).mono ?_; rintro e w1 ⟨rfl, rfl⟩
    go_wp2
    refine bodyPost_ret (v := .tuple #[(.agg #[.int .i64 (0), .int .i64 (0)]), .bool false]) (by simp [results, Tryz.results8, go_sem, c0, c1]) rfl ?_
    exact ⟨rfl, hB0⟩

set_option maxHeartbeats 2000000 in
theorem specBackMoves_any (u : ByteArray) (w : World) (hu : u.size ≤ 2000000) :
    Calls Tryz.prog 17 #[.string u] w fun e w' => e = .returned (.string (backM u)) ∧ Below w.heap.size w w' := by
  have hB0 := Below.refl w.heap.size w
  rcases mvOk_cases u with ⟨v, hv, rfl, hok⟩ | ⟨hno, hok⟩
  · have hsz := txtM_size v
    have hR : backM (txtM v) = txtM v.reverse := onM_yes hv
    have hmo := Lib.hid (fun w => specMovesOk_any (txtM v) w (by rw [hsz]; omega))
    rw [hok] at hmo
    rw [hR]
    have HTk := Lib.hid (fun k (h : k < v.length) => take_letter (v := v) h)
    have HD : Hid (∀ k, k < v.length → (v.drop k).reverse = (v.drop (k + 1)).reverse ++ [v.getD k false]) := fun k hk => by
      rw [List.drop_eq_getElem_cons hk, List.reverse_cons, List.getD_eq_getElem?_getD, List.getElem?_eq_getElem hk]
      rfl
    have HE : Hid (v.drop v.length = []) := List.drop_length
    have H0 : Hid (v.drop 0 = v) := rfl
    have HZ : Hid (∀ k, (txtM (v.drop k).reverse).size = v.length - k) := fun k => by rw [txtM_size, List.length_reverse, List.length_drop]
    have HZ1 : Hid (∀ b, (txtM [b]).size = 1) := fun b => txtM_size _
    obtain ⟨U, hU⟩ : ∃ U, txtM v = U := ⟨_, rfl⟩
    rw [hU] at hsz hmo HTk ⊢
    obtain ⟨L, hL⟩ : ∃ L, v.length = L := ⟨_, rfl⟩
    rw [hL] at hv hsz HTk HD HE HZ
    clear hU hL hR hok
    go_enter Tryz.func17, Tryz.ntmps17
    go_wp2_with fail
    go_loopw [3, 4] (fun xo xk wr => ∃ k : Nat, xo = .string (txtM (v.drop k).reverse) ∧ xk = .int .i64 ((k : Int) - 1) ∧ k ≤ L ∧ Below w.heap.size w wr) (fun _ xk _ => (intOf xk + 1).toNat)
    case atStart => exact ⟨L, by rw [HE.out]; rfl, by first | rfl | rw [hsz], by omega, hB0⟩
    case round =>
      obtain ⟨k, rfl, rfl, hk, hBr⟩ := hrel
      by_cases hk0 : 1 ≤ k
      · obtain ⟨j, rfl⟩ : ∃ j, k = j + 1 := ⟨k - 1, by omega⟩
        have ej : ((j + 1 : Nat) : Int) - 1 = (j : Int) := by omega
        rw [ej]
        have h0 : (0 : Int) ≤ (j : Int) := by omega
        have hd := Lib.hid (HD.out j (by omega))
        have ht := Lib.hid (HTk.out j (by omega))
        have hz := HZ.out (j + 1)
        have hz1 := HZ1.out (v.getD j false)
        have wj : IntKind.i64.wrap ((j : Int) + 1) = (j : Int) + 1 := IntWalk.i64_in _ (by omega)
        have wj2 : IntKind.i64.wrap ((j : Int) - 1) = (j : Int) - 1 := IntWalk.i64_in _ (by omega)
        have b1 : (j : Int) + 1 ≤ (L : Int) := by omega
        have b2 : (j : Int) ≤ (j : Int) + 1 := by omega
        have b3 : (0 : Int) ≤ (j : Int) + 1 := by omega
        have n1 : ((j : Int) + 1).toNat = j + 1 := by omega
        have E : Hid (txtM (v.drop (j + 1)).reverse ++ U.extract j (j + 1) = txtM (v.drop j).reverse) := by show _ = _; rw [ht.out, txtM_append, hd.out]
        have hze : (U.extract j (j + 1)).size = 1 := by rw [ht.out]; exact hz1
        clear ej
        go_wp2_with fail
        refine (hmo.out _).mono ?_; rintro e w1 ⟨rfl, rfl⟩
        go_wp2_with fail
        go_roundw
        case rel => exact ⟨j, by rw [E.out], by go_num, by omega, hBr⟩
        case measure => simp only [intOf]; omega
      · obtain rfl : k = 0 := by omega
        have h0 : decide ((0 : Int) ≤ ((0 : Nat) : Int) - 1) = false := rfl
        have h1 : ¬ (0 : Int) ≤ ((0 : Nat) : Int) - 1 := by omega
        rw [H0.out]
        go_wp2
        go_ret
        exact ⟨rfl, hBr⟩
  · rw [show backM u = ⟨#[]⟩ from onM_no hno]
    have hmo := Lib.hid (fun w => specMovesOk_any u w hu)
    rw [hok] at hmo
    have wu : IntKind.i64.wrap ((u.size : Int) - 1) = (u.size : Int) - 1 := IntWalk.i64_in _ (by omega)
    go_enter Tryz.func17, Tryz.ntmps17
    go_wp2_with fail
    go_loopw [3, 4] (fun xo xk wr => xo = .string ⟨#[]⟩ ∧ xk = .int .i64 ((u.size : Int) - 1) ∧ Below w.heap.size w wr) (fun _ xk _ => 0)
    case atStart => exact ⟨rfl, rfl, hB0⟩
    case round =>
      obtain ⟨rfl, rfl, hBr⟩ := hrel
      by_cases hs0 : u.size = 0
      · rw [hs0]
        go_wp2
        go_ret
        exact ⟨rfl, hBr⟩
      · have h1 : (0 : Int) ≤ (u.size : Int) - 1 := by omega
        go_wp2_with fail
        refine (hmo.out _).mono ?_; rintro e w1 ⟨rfl, rfl⟩
        go_wp2
        go_ret
        exact ⟨rfl, hBr⟩

set_option maxHeartbeats 2000000 in
theorem specOtherMoves_any (u : ByteArray) (w : World) (hu : u.size ≤ 2000000) :
    Calls Tryz.prog 20 #[.string u] w fun e w' => e = .returned (.string (otherM u)) ∧ Below w.heap.size w w' := by
  have hB0 := Below.refl w.heap.size w
  rcases mvOk_cases u with ⟨v, hv, rfl, hok⟩ | ⟨hno, hok⟩
  · have hsz := txtM_size v
    have hR : otherM (txtM v) = txtM (v.map (!·)) := onM_yes hv
    have hmo := Lib.hid (fun w => specMovesOk_any (txtM v) w (by rw [hsz]; omega))
    rw [hok] at hmo
    rw [hR]
    have HG := Lib.hid (fun k (h : k < (txtM v).size) => mv_bytes v h)
    obtain ⟨V, hV⟩ : ∃ V, v.map (!·) = V := ⟨_, rfl⟩
    rw [hV]
    have hVl : V.length = v.length := by rw [← hV, List.length_map]
    have HD : Hid (∀ k, k < v.length → V.take (k + 1) = V.take k ++ [!(v.getD k false)]) := fun k hk => by
      rw [← hV, ← List.map_take, take_more hk, List.map_append, List.map_take]; rfl
    have HE : Hid (V.take v.length = V) := by rw [← hVl]; exact List.take_length
    have HZ : Hid (∀ k, k ≤ v.length → (txtM (V.take k)).size = k) := fun k hk => by rw [txtM_size, List.length_take]; omega
    obtain ⟨U, hU⟩ : ∃ U, txtM v = U := ⟨_, rfl⟩
    rw [hU] at hsz hmo HG ⊢
    obtain ⟨L, hL⟩ : ∃ L, v.length = L := ⟨_, rfl⟩
    rw [hL] at hv hsz HD HE HZ
    clear hU hL hR hok hV hVl
    go_enter Tryz.func20, Tryz.ntmps20
    go_wp2_with fail
    go_loopw [3, 4] (fun xo xk wr => ∃ k : Nat, xo = .string (txtM (V.take k)) ∧ xk = .int .i64 k ∧ k ≤ L ∧ Below w.heap.size w wr) (fun _ xk _ => L - (intOf xk).toNat)
    case atStart => exact ⟨0, rfl, rfl, by omega, hB0⟩
    case round =>
      obtain ⟨k, rfl, rfl, hk, hBr⟩ := hrel
      by_cases hkl : k < L
      · have hkl' : (k : Int) < (U.size : Int) := by omega
        have hkl2 : (k : Int) < (L : Int) := by omega
        have hku : k < U.size := by omega
        have wk : IntKind.i64.wrap ((k : Int) + 1) = (k : Int) + 1 := IntWalk.i64_in _ (by omega)
        have hb := HG.out k hku
        have hd := Lib.hid (HD.out k hkl)
        have hz := HZ.out k hk
        cases hx : v.getD k false with
        | false =>
          rw [hx] at hb hd
          have hb' : (U[k].toNat : Int) = 76 := hb
          have E : Hid (txtM (V.take k) ++ ⟨#[82]⟩ = txtM (V.take (k + 1))) := by
            show _ = _
            rw [show (⟨#[82]⟩ : ByteArray) = txtM [true] from rfl, txtM_append, hd.out]; rfl
          clear hb hd
          go_wp2_with fail
          refine (hmo.out _).mono ?_; rintro e w1 ⟨rfl, rfl⟩
          go_wp2_with fail
          go_roundw
          case rel => exact ⟨k + 1, by rw [E.out], by go_num, by omega, hBr⟩
          case measure => simp only [intOf]; omega
        | true =>
          rw [hx] at hb hd
          have hb' : (U[k].toNat : Int) = 82 := hb
          have E : Hid (txtM (V.take k) ++ ⟨#[76]⟩ = txtM (V.take (k + 1))) := by
            show _ = _
            rw [show (⟨#[76]⟩ : ByteArray) = txtM [false] from rfl, txtM_append, hd.out]; rfl
          clear hb hd
          go_wp2_with fail
          refine (hmo.out _).mono ?_; rintro e w1 ⟨rfl, rfl⟩
          go_wp2_with fail
          go_roundw
          case rel => exact ⟨k + 1, by rw [E.out], by go_num, by omega, hBr⟩
          case measure => simp only [intOf]; omega
      · obtain rfl : k = L := by omega
        have hkl' : ¬ (k : Int) < (U.size : Int) := by omega
        rw [HE.out]
        go_wp2
        go_ret
        exact ⟨rfl, hBr⟩
  · rw [show otherM u = ⟨#[]⟩ from onM_no hno]
    have hmo := Lib.hid (fun w => specMovesOk_any u w hu)
    rw [hok] at hmo
    go_enter Tryz.func20, Tryz.ntmps20
    go_wp2_with fail
    go_loopw [3, 4] (fun xo xk wr => xo = .string ⟨#[]⟩ ∧ xk = .int .i64 0 ∧ Below w.heap.size w wr) (fun _ xk _ => 0)
    case atStart => exact ⟨rfl, rfl, hB0⟩
    case round =>
      obtain ⟨rfl, rfl, hBr⟩ := hrel
      by_cases hs0 : u.size = 0
      · have h1 : ¬ (0 : Int) < (u.size : Int) := by omega
        go_wp2
        go_ret
        exact ⟨rfl, hBr⟩
      · have h1 : (0 : Int) < (u.size : Int) := by omega
        go_wp2_with fail
        refine (hmo.out _).mono ?_; rintro e w1 ⟨rfl, rfl⟩
        go_wp2
        go_ret
        exact ⟨rfl, hBr⟩
end Go.Proofs.YtckkgjgfjnfeoaaGreatDoor
