/- Proves that FnSpacesOf returns true for every code, and leaves the code as it was; the tables of package utf8 that its row lists are tied to the program's text. No conditions. -/
import Derived.Test.YtppahekbgbbidacDoorHead
import Derived.Test.YtppahekbgbbidacDoorBalI
import Derived.Test.YtppahekbgbbidacDoorPlaceS
import Derived.Test.YtppahekbgbbidacDoorInn
import Derived.Test.YtppahekbgbbidacDoorDrawN
import Derived.Test.YtppahekbgbbidacDoorGFun2
import Derived.Test.YtppahekbgbbidacDoorCards
import Derived.Test.YtppahekbgbbidacDoorTie
import Derived.LaidMore
import Derived.Lay
import Derived.SevenTiedAt
import Derived.Stop.Joined
set_option linter.unusedVariables false
namespace Go.Proofs.YtppahekbgbbidacDoor.lawSpacesOf

set_option maxRecDepth 4000
open Go.ChangeShapes Go.WideShapes Go.ChangeAt Go.RowKit Go.Joins

/-- the letters of the first k distances -/
def wbL (N S k : Nat) : List Bool := (List.range k).map fun i => letN S (N % S) (S - 1 - i)

theorem wbL_succ (N S k : Nat) : wbL N S (k + 1) = wbL N S k ++ [letN S (N % S) (S - 1 - k)] := by simp [wbL, List.range_succ]

theorem wbL_len (N S k : Nat) : (wbL N S k).length = k := by simp [wbL]

theorem wbL_all {N S : Nat} (hs : 0 < S) : wbL N S S = (wordL S (N % S) 0 S).reverse := (space_word (n := N) hs).symm

theorem oneAt_more {N S k : Nat} (hs : 0 < S) (hk : k < S) : oneAt N S (k + 1) = oneAt N S k + spaceN N S k := by
  have a := oneAt_sum (n := N) hs k (by omega)
  have b := oneAt_sum (n := N) hs (k + 1) (by omega)
  rw [← b, ← a]
  rfl

theorem balancedOk_is {v : List Bool} (hv : v.length ≤ 60) (h : Bal v) (w : World) : Calls Tryd.prog 12 #[.string (txtB v)] w fun e w' => e = .returned (.bool true) ∧ Below w.heap.size w w' :=
  (balancedOk_any (txtB v) w (by rw [txtB_size]; omega)).mono fun e w' ⟨⟨d, h1, h2⟩, h3⟩ => ⟨by
    have e : d = true := h2.2 ((balP_txt hv).2 h)
    rw [h1, e], h3⟩

theorem one_letter {v : List Bool} {k : Nat} (h : k < v.length) : (txtB v).extract k (k + 1) = txtB [v.getD k false] := by
  rw [txtB_extract, show k + 1 - k = 1 by omega, List.take_one, List.head?_drop, List.getElem?_eq_getElem h, List.getD_eq_getElem?_getD, List.getElem?_eq_getElem h]
  rfl

theorem take_more {v : List Bool} {k : Nat} (h : k < v.length) : v.take (k + 1) = v.take k ++ [v.getD k false] := by
  rw [List.take_add_one, List.getElem?_eq_getElem h, List.getD_eq_getElem?_getD, List.getElem?_eq_getElem h]
  rfl

set_option maxHeartbeats 8000000 in
theorem walk (a : Option Addr) (len cap : Nat) (z : List Int) (w : World) (row : IsRow .u8 w a len cap z) :
    Calls Tryd.prog 3 #[.slice a len cap] w fun e w' => e = .returned (.bool true) ∧ Below w.heap.size w w' := by
  have hc := CodeIn.of row
  clear row
  by_cases hl : 1048576 < len
  · have hl' : (1048576 : Int) < len := by omega
    go_enter Tryd.func3, Tryd.ntmps3
    go_wp2
    go_ret
    exact ⟨rfl, (by repeat (first | exact Below.refl _ _ | assumption | (refine Below.trans ?_ (Below.mono (by assumption) (by first | omega | (simp <;> omega)))) | (refine Below.alloc ?_ (by first | omega | (simp <;> omega)) _) | (refine below_drewN ?_ _) | (refine Below.drew ?_) | (refine Below.setCell ?_ (by first | omega | (simp <;> omega)) _)))⟩
  · have hl' : ¬ (1048576 : Int) < len := by omega
    
    go_enter Tryd.func3, Tryd.ntmps3
    go_wp2_with fail
    refine (drawSpacesOf_any a len cap _ hc (by omega)).mono ?_; rintro e w1 ⟨n, s, rfl, n0, n1, s0, s1, hb1⟩
    have hz1 := hb1.size
    try simp at hz1
    go_wp2_with fail
    refine (spacesOf_any _ _ _).mono ?_; rintro e w2 ⟨v1, rfl, hp2, hb2⟩
    have hz2 := hb2.size
    try simp at hz2
    have t2 : Two w2 (w1.heap.size) (.int .i64 n) (.int .i64 s) 24 := Two.below (by repeat (first | assumption | exact Two.new' _ _ _ _ _ (by simp) | refine Two.alloc ?_ _ | refine Two.drewN ?_ _)) hb2 (by first | omega | (simp <;> omega))
    have hlt2 : (w1.heap.size) < w2.heap.size := t2.lt
    have hnt2 : ¬ (w1.heap.size) = w2.heap.size := Nat.ne_of_lt hlt2
    have t2c := t2.cell0
    have t2d := t2.cell1
    go_wp2_with fail
    refine (specSpacesOf_any _ _ _).mono ?_; rintro e w3 ⟨v2, rfl, hq3, hb3⟩
    have hz3 := hb3.size
    try simp at hz3
    have t3 : Two w3 (w1.heap.size) (.int .i64 n) (.int .i64 s) 24 := Two.below (by repeat (first | assumption | exact Two.new' _ _ _ _ _ (by simp) | refine Two.alloc ?_ _ | refine Two.drewN ?_ _)) hb3 (by first | omega | (simp <;> omega))
    have hlt3 : (w1.heap.size) < w3.heap.size := t3.lt
    have hnt3 : ¬ (w1.heap.size) = w3.heap.size := Nat.ne_of_lt hlt3
    have t3c := t3.cell0
    have t3d := t3.cell1
    have hp3 := hp2.below hb3
    have hB3 : Below w.heap.size w w3 := (by repeat (first | exact Below.refl _ _ | assumption | (refine Below.trans ?_ (Below.mono (by assumption) (by first | omega | (simp <;> omega)))) | (refine Below.alloc ?_ (by first | omega | (simp <;> omega)) _) | (refine below_drewN ?_ _) | (refine Below.drew ?_) | (refine Below.setCell ?_ (by first | omega | (simp <;> omega)) _)))
    have hz3' : w1.heap.size < w3.heap.size := hlt3
    have hlen := spacesF_len n s
    clear hb1 hb2 hb3 hp2 hc t2 t2c t2d
    go_wp2_with fail
    refine (sameInts_any v1 v2 _ _ _ hp3.reads hq3.reads (by omega) (by omega)).mono ?_; rintro e w4 ⟨rfl, nq, rfl⟩
    rw [decide_eq_true rfl]
    clear hq3
    have t4 : Two (w3.drewN nq) w1.heap.size (.int .i64 n) (.int .i64 s) 24 := t3
    have hp4 : OwnL (w3.drewN nq) w1.heap.size v1 (spacesF n s) := OwnL.mono (b := (w1.alloc (.cells #[.int .i64 n, .int .i64 s] 24)).heap.size) hp3 (by simp)
    have hB4 := below_drewN hB3 nq
    have lt4 : w1.heap.size < (w3.drewN nq).heap.size := t4.lt
    clear hp3 t3 t3c t3d hB3 hz3'
    generalize w3.drewN nq = w4 at *
    have t4c := t4.cell0
    have t4d := t4.cell1
    by_cases ht : tok n s = true
    · have hb := tok_bd ht
      rw [spacesF_yes ht] at hp4
      have hN0 : (0 : Int) ≤ n := by omega
      have hS0 : (0 : Int) ≤ s := by omega
      obtain ⟨N, hNn⟩ := Int.eq_ofNat_of_zero_le hN0
      obtain ⟨S, hSn⟩ := Int.eq_ofNat_of_zero_le hS0
      have hq1 : n.tdiv s = ((N / S : Nat) : Int) := by rw [hNn, hSn, Int.tdiv_eq_ediv_of_nonneg (by omega)]; simp
      have hq2 : N / S ≤ 60 := Nat.le_trans (Nat.div_le_self _ _) (by omega)
      have hmod : n % s = ((N % S : Nat) : Int) := by rw [hNn, hSn]; simp
      have hNt : n.toNat = N := by omega
      have hSt : s.toNat = S := by omega
      rw [hNt, hSt] at hp4
      have hS1 : 1 ≤ S := by omega
      have HSp : Hid (∀ k, k < S → spaceN N S k = N / S + (letN S (N % S) (S - 1 - k)).toNat ∧ oneAt N S (k + 1) = oneAt N S k + spaceN N S k ∧ oneAt N S (k + 1) ≤ N) := fun k hk => ⟨space_letter (by omega) hk, oneAt_more (by omega) hk, oneAt_le (by omega) (by omega)⟩
      have HAll : Hid (oneAt N S S = N) := oneAt_all (by omega)
      have HZ : Hid (oneAt N S 0 = 0) := oneAt_zero (by omega)
      have HWa : Hid (wbL N S S = (wordL S (N % S) 0 S).reverse) := wbL_all (by omega)
      have HT := Lib.hid ht
      obtain ⟨g, cap1, cur, rfl, hbg, hr4, _, hnc, _, hcu⟩ := hp4.rowI (N := S) (by simp) (by omega)
      have HC : Hid (∀ j, j < S → w4.cell? ⟨g, j, none⟩ = some (.int .i64 ((spaceN N S j : Nat) : Int))) := fun j hj => by
        rw [hr4.cell, hcu j hj, ← spL_getD N S S j hj]
        rfl
      have lg := hr4.lt
      have hs0 : ¬ s = 0 := by omega
      have hSz : ((S : Int) == 0) = false := by simp; omega
      have hSz2 : ¬ (S : Int) = 0 := by omega
      have hS60 : S ≤ 60 := by omega
      have hN60 : N ≤ 60 := by omega
      have HNn := Lib.hid hNn
      have HSn := Lib.hid hSn
      have HMod := Lib.hid hmod
      clear hp4 hr4 hcu hNn hSn hmod hNt hSt hlen ht n0 n1 s0 s1 hN0 hS0
      generalize N / S = Q at *
      have hwQ : IntKind.i64.wrap ((Q : Nat) : Int) = Q := IntWalk.i64_in _ (by omega)
      go_wp2_with fail
      go_loopw [5, 6, 7] (fun x y u wr => ∃ (k : Nat) (A : ByteArray), x = .int .i64 ((oneAt N S k : Nat) : Int) ∧ y = .string A ∧ u = .int .i64 k ∧ k ≤ S ∧ oneAt N S k ≤ 60 ∧ A.size ≤ 60 ∧ Hid (A = txtB (wbL N S k)) ∧ Below w4.heap.size w4 wr) (fun _ _ u _ => S - (intOf u).toNat)
      case atStart => exact ⟨0, ⟨#[]⟩, by rw [HZ.out]; rfl, rfl, rfl, by omega, by rw [HZ.out]; omega, by decide, rfl, Below.refl _ _⟩
      case round =>
        obtain ⟨k, A, rfl, rfl, rfl, hk, ho60, hA, HA, hB⟩ := hrel
        have t5 := t4.below hB lt4
        have hB5 := hB4.trans (hB.mono hB4.size)
        have lz5 := hB.size
        have c0 := t5.cell0
        have c1 := t5.cell1
        by_cases hkS : k < S
        · have hkS' : (k : Int) < S := by omega
          have ck := (hB.cell (p := ⟨g, k, none⟩) lg).trans (HC.out k hkS)
          obtain ⟨p1, p2, p3⟩ := HSp.out k hkS
          have hwb := wbL_succ N S k
          have hsz : (txtB (wbL N S (k + 1))).size ≤ 60 := by rw [txtB_size, wbL_len]; omega
          rw [p1] at p2 ck
          clear t4 t4c t4d
          cases hb2 : letN S (N % S) (S - 1 - k) with
          | false =>
            rw [hb2] at p2 ck hwb
            have p2' : oneAt N S (k + 1) = oneAt N S k + Q := p2
            have ck' : wr.cell? ⟨g, k, none⟩ = some (.int .i64 ((Q : Nat) : Int)) := ck
            have hA2 : Hid (A ++ ⟨#[48]⟩ = txtB (wbL N S (k + 1))) := by
              show _ = _
              rw [HA.out, hwb, ← txtB_append]; rfl
            have hA3 : (A ++ ⟨#[48]⟩).size ≤ 60 := by rw [hA2.out]; exact hsz
            have HP2 := Lib.hid p2'
            have p4 : oneAt N S (k + 1) ≤ 60 := by omega
            have hwo : IntKind.i64.wrap (((oneAt N S k : Nat) : Int) + (Q : Int)) = ((oneAt N S k : Nat) : Int) + (Q : Int) := IntWalk.i64_in _ (by omega)
            clear hb2 p1 p2 p2' p3 ck hwb hsz t5
            go_wp2_with fail
            go_quiet (fail)
            have hB6 : Below w4.heap.size w4 (wr.drewN nq) := below_drewN hB nq
            have ck6 : (wr.drewN nq).cell? ⟨g, k, none⟩ = some (.int .i64 ((Q : Nat) : Int)) := ck'
            clear ck' hB hB5 lz5 c0 c1
            generalize wr.drewN nq = wq at *
            have hz6 := hB6.size
            have x0 := (Two.new wq (.string ⟨#[48]⟩) (.string ⟨#[49]⟩) 9).cell0
            have hB7 := hB6.alloc hz6 (.cells #[.string ⟨#[48]⟩, .string ⟨#[49]⟩] 9)
            go_wp2_with fail
            go_roundw
            case rel => exact ⟨k + 1, _, by rw [HP2.out]; go_num, rfl, by go_num, by omega, p4, hA3, hA2.out, hB7⟩
            case measure => simp only [intOf]; omega
          | true =>
            rw [hb2] at p2 ck hwb
            have p2' : oneAt N S (k + 1) = oneAt N S k + (Q + 1) := p2
            have ck' : wr.cell? ⟨g, k, none⟩ = some (.int .i64 (((Q : Nat) : Int) + 1)) := ck
            have hA2 : Hid (A ++ ⟨#[49]⟩ = txtB (wbL N S (k + 1))) := by
              show _ = _
              rw [HA.out, hwb, ← txtB_append]; rfl
            have hA3 : (A ++ ⟨#[49]⟩).size ≤ 60 := by rw [hA2.out]; exact hsz
            have HP2 := Lib.hid p2'
            have p4 : oneAt N S (k + 1) ≤ 60 := by omega
            have hwo : IntKind.i64.wrap (((oneAt N S k : Nat) : Int) + ((Q : Int) + 1)) = ((oneAt N S k : Nat) : Int) + ((Q : Int) + 1) := IntWalk.i64_in _ (by omega)
            have hmw : IntKind.i64.wrap ((Q : Int) + 1 - Q) = 1 := by rw [show (Q : Int) + 1 - Q = 1 by omega]; rfl
            have hmw2 : (Q : Int) + 1 - Q = 1 := by omega
            clear hb2 p1 p2 p2' p3 ck hwb hsz t5
            go_wp2_with fail
            go_quiet (fail)
            have hB6 : Below w4.heap.size w4 (wr.drewN nq) := below_drewN hB nq
            have ck6 : (wr.drewN nq).cell? ⟨g, k, none⟩ = some (.int .i64 (((Q : Nat) : Int) + 1)) := ck'
            clear ck' hB hB5 lz5 c0 c1
            generalize wr.drewN nq = wq at *
            have hz6 := hB6.size
            have x0 := (Two.new wq (.string ⟨#[48]⟩) (.string ⟨#[49]⟩) 9).cell1
            have hB7 := hB6.alloc hz6 (.cells #[.string ⟨#[48]⟩, .string ⟨#[49]⟩] 9)
            go_wp2_with fail
            go_roundw
            case rel => exact ⟨k + 1, _, by rw [HP2.out]; go_num, rfl, by go_num, by omega, p4, hA3, hA2.out, hB7⟩
            case measure => simp only [intOf]; omega
        · have hkS' : ¬ (k : Int) < S := by omega
          have hkE : k = S := by omega
          subst hkE
          have hsum : ((oneAt N k k : Nat) : Int) = n := by rw [HAll.out, HNn.out]
          rw [hsum]
          have hword : A = txtB (wordL k (N % k) 0 k).reverse := by rw [HA.out, HWa.out]
          have hAw := Lib.hid hword
          have hk1 : 1 ≤ k := hS1
          clear hword HA HWa HSp HC hsum HAll HZ t4 t4c t4d ho60
          have hit := innerTurn_any n s
          unfold InnPost at hit
          by_cases h2 : 2 ≤ s
          · rw [innF_yes HT.out h2, innP_yes HT.out h2] at hit
            have HM := HMod.out
            obtain ⟨R, hR⟩ : ∃ R, N % k = R := ⟨_, rfl⟩
            rw [hR] at HM hAw
            rw [HM] at hit
            have htx : tok (k : Int) (R : Int) = true := by
              have := tok_inn HT.out h2
              rwa [HM, HSn.out] at this
            have hbx := tok_bd htx
            have hcode : codeF (k : Int) (R : Int) 0 (k : Int) = wordL k R 0 k := by rw [codeF_yes htx (by omega) (by omega) (by omega) (by omega)]; rfl
            have HCo := Lib.hid hcode
            have hHS := HSn.out
            have hcall : Calls Tryd.prog 10 #[(.agg #[.int .i64 (n), .int .i64 (s)])] wr fun e w' => e = .returned (.tuple #[(.agg #[.int .i64 ((k : Int)), .int .i64 ((R : Int))]), .bool true]) ∧ Below wr.heap.size wr w' := (hit wr).mono fun e w' h => ⟨by rw [h.1, hHS], h.2⟩
            have hbal : Bal (wordL k R 0 k).reverse := bal_rev_iff.2 (bal_word (by omega) (by omega) _ _)
            obtain ⟨v, hv⟩ : ∃ v, wordL k R 0 k = v := ⟨_, rfl⟩
            have hvl : v.length = k := by rw [← hv]; exact wordL_length _ _ _ _
            rw [hv] at HCo hAw hbal
            have HVL := Lib.hid hvl
            have HBal : Hid (∀ w, Calls Tryd.prog 12 #[.string A] w fun e w' => e = .returned (.bool true) ∧ Below w.heap.size w w') := fun w => by
              rw [hAw.out]
              exact balancedOk_is (by rw [List.length_reverse, hvl]; omega) hbal w
            have HU : Hid (∀ j, j < k → (txtB v).extract j (j + 1) = txtB [v.getD j false]) := fun j hj => one_letter (by omega)
            have hzn : ((txtB v).size : Int) = k := by rw [txtB_size, hvl]
            have hks := Lib.hid (show ((k : Int) == s) = true by simp; omega)
            have hbx' : 2 ≤ k := by omega
            clear hit HMod HM hR htx hbx hcode hHS hbal hv hvl hq1
            go_wp2_with fail
            refine hcall.mono ?_; rintro e w5 ⟨rfl, hb5⟩
            have t6 := t5.below hb5 t5.lt
            have hB6 := hB5.trans (hb5.mono hB5.size)
            have x7 : Two (w5.alloc (.cells #[.int .i64 k, .int .i64 R] 24)) w5.heap.size (.int .i64 k) (.int .i64 R) 24 := Two.new _ _ _ _
            have t7 := t6.alloc (.cells #[.int .i64 k, .int .i64 R] 24)
            have hB7 := hB6.alloc hB6.size (.cells #[.int .i64 k, .int .i64 R] 24)
            clear hcall hb5 t5 t6 hB5 hB6 hB c0 c1
            have c0 := x7.cell0
            have c1 := x7.cell1
            go_wp2_with fail
            refine (codeOf_any _ _ _ _ _).mono ?_; rintro e w8 ⟨rfl, hb8⟩
            rw [HCo.out]
            have t8 := t7.below hb8 t7.lt
            have hB8 := hB7.trans (hb8.mono hB7.size)
            clear hb8 t7 x7 hB7 c0 c1
            obtain ⟨U, hU⟩ : ∃ U, txtB v = U := ⟨_, rfl⟩
            rw [hU] at hzn HU ⊢
            clear hU HCo
            have c0 := t8.cell0
            have c1 := t8.cell1
            go_wp2_with fail
            go_loop [12, 13] (fun a b => ∃ (j : Nat) (B : ByteArray), a = .string B ∧ b = .int .i64 j ∧ j ≤ k ∧ B.size ≤ 60 ∧ Hid (B = txtB (v.take j).reverse)) (fun _ b => k - (intOf b).toNat)
            case atStart => exact ⟨0, ⟨#[]⟩, rfl, rfl, by omega, by decide, rfl⟩
            case round =>
              obtain ⟨j, B, rfl, rfl, hj, hBs, HB⟩ := hrel
              by_cases hjk : j < k
              · have hjk' : (j : Int) < k := by omega
                have hT := take_more (v := v) (k := j) (by rw [HVL.out]; exact hjk)
                have hE := HU.out j hjk
                have hs1 : (U.extract j (j + 1)).size = 1 := by rw [hE]; exact txtB_size _
                have hlt : (v.take (j + 1)).length ≤ 60 := by rw [List.length_take]; omega
                have hA2 : Hid (U.extract j (j + 1) ++ B = txtB (v.take (j + 1)).reverse) := by
                  show _ = _
                  rw [HB.out, hE, txtB_append, hT, List.reverse_append]; rfl
                have hA3 : (U.extract j (j + 1) ++ B).size ≤ 60 := by rw [hA2.out, txtB_size, List.length_reverse]; exact hlt
                have hw1 : IntKind.i64.wrap ((j : Int) + 1) = (j : Int) + 1 := IntWalk.i64_in _ (by omega)
                have q0 : (0 : Int) ≤ j := by omega
                have q1 : (j : Int) ≤ (j : Int) + 1 := by omega
                have q2 : (j : Int) + 1 ≤ k := by omega
                have q3 : ((j : Int) + 1).toNat = j + 1 := by omega
                have q4 : (0 : Int) ≤ (j : Int) + 1 := by omega
                clear hT hE hlt
                go_wp2_with fail
                go_round
                case rel => exact ⟨j + 1, _, rfl, by go_num, by omega, hA3, hA2.out⟩
                case measure => simp only [intOf]; omega
              · have hjk' : ¬ (j : Int) < k := by omega
                have hjE : j = k := by omega
                have hall : v.take j = v := List.take_of_length_le (by rw [HVL.out]; omega)
                have eB : B = A := by rw [HB.out, hall, hAw.out]
                subst eB
                have hkk := hks.out
                clear HB hall hAw HU
                go_wp2_with fail
                refine (HBal.out _).mono ?_; rintro e w9 ⟨rfl, hb9⟩
                have hB9 := hB8.trans (hb9.mono hB8.size)
                go_wp2
                go_ret
                exact ⟨rfl, hB9⟩
          · rw [innF_no (fun h => h2 h.2), innP_no (fun h => h2 h.2)] at hit
            have hcall := hit wr
            have hs1 := HSn.out
            have hk1' : ((k : Int) == 1) = true := by simp; omega
            clear hit HMod hq1 hs1
            go_wp2_with fail
            refine hcall.mono ?_; rintro e w5 ⟨rfl, hb5⟩
            have t6 := t5.below hb5 t5.lt
            have hB6 := hB5.trans (hb5.mono hB5.size)
            have t7 := t6.alloc (.cells #[.int .i64 0, .int .i64 0] 24)
            have hB7 := hB6.alloc hB6.size (.cells #[.int .i64 0, .int .i64 0] 24)
            clear hcall hb5 t5 t6 hB5 hB6 hB c0 c1
            have c0 := t7.cell0
            have c1 := t7.cell1
            go_wp2
            go_ret
            exact ⟨rfl, hB7⟩
    · rw [spacesF_no ht] at hp4
      have ht' : tok n s = false := by simpa using ht
      obtain ⟨ga, cap1, rfl, _⟩ := hp4.reads.cells (N := 0) rfl
      clear hp4 hlen
      go_wp2_with fail
      refine (turnOk_any _ _ _).mono ?_; rintro e w5 ⟨rfl, hb5⟩
      rw [ht']
      have hB5 := hB4.trans (hb5.mono hB4.size)
      go_wp2_with fail
      refine (alive_any _).mono ?_; rintro e w6 ⟨rfl, hb6⟩
      have hB6 := hB5.trans (hb6.mono hB5.size)
      go_wp2
      go_ret
      exact ⟨rfl, hB6⟩

set_option maxRecDepth 100000 in
theorem lifted (os : Os) (started : os.Started) (H : Type) (enc : TypeId × Value → H) :
    ReturnsInHanded {} Tryd.checked os 3 .any (fun w args => (Rows.fnSpacesOfSpec.pre enc Tryd.prog Tryd.f3 Rows.fnSpacesOfRow.domain false w args ∧ laidMetH Tryd.prog Rows.fnSpacesOfRow.laid w) ∧ sizedMet enc Tryd.prog Tryd.f3 (OpenSpec.ofChange Rows.fnSpacesOfSpec) false w args) (Rows.fnSpacesOfSpec.post enc Tryd.prog Tryd.f3 false true false false) := by
  refine returnsInHanded_of_change_and (C := Tryd.checked) (X := fun w _ => laidMetH Tryd.prog Rows.fnSpacesOfRow.laid w) (fun _ _ _ hh h => h.of_heap hh) own started (by kernel_rfl) Tryd.func3
    (ChangeSpec.witness_shaped (enc := enc) (C := Tryd.checked) (os := os) (X := fun w _ => laidMetH Tryd.prog Rows.fnSpacesOfRow.laid w) false (World.laidAll Tryd.prog os Rows.fnSpacesOfRow.laid) #[.slice none 0 0] 8 (World.laidAll_os _ _ _)
      (World.shaped_of_ZipB (by kernel_rfl) (by kernel_rfl)) (by kernel_rfl) (by kernel_rfl) (by kernel_rfl)
      (by rw [MakeChecks.laidMetH_plain _ _ _ (by kernel_rfl)]; exact laidMet_laidAll _ (by kernel_rfl) (by kernel_rfl))) ?_
  intro W base args ds gs before hval0 hW hcnd _ hL _
  have hval : ∀ (j : Nat) t v, Tryd.f3.params[j]? = some t → args[j]? = some v → Value.okWide Tryd.prog W .any base t v := hval0
  have hW' := hW
  obtain ⟨p, q, hA0, hV, rfl, hfz, hnd⟩ := hW
  have hA : DataW.TrodAll enc Tryd.prog W 0 (fun _ => true) true Tryd.f3.params.toList args.toList ds p := hA0
  rw [Tryd.params3] at hA hval
  obtain ⟨v0, vs0, d0, ds0, p0, q0, hargs, rfl, rfl, h0, r0⟩ := trodAll_cons hA
  obtain ⟨rfl, rfl, rfl⟩ := trodAll_nil r0
  obtain rfl : args = #[v0] := by cases args; simp_all
  obtain ⟨rfl, rfl⟩ := trodVars_none hV
  obtain ⟨acode, lencode, capcode, rfl⟩ := okWide_slice Tryd.underlying22 (hval 0 22 v0 rfl rfl)
  have k0 := h0
  have lt0 : ∀ x ∈ p0, x.block < W.heap.size := by obtain ⟨m, hm⟩ := k0; exact DataW.trod_lt m _ _ _ hm
  obtain ⟨zcode, rowcode⟩ : ∃ zs, IsRow .u8 W acode lencode capcode zs := by
    obtain ⟨fuel, hf⟩ := h0
    rcases open_ints Tryd.underlying22 Tryd.underlying5 (by kernel_rfl) hf with ⟨hcs, _⟩ | ⟨x, l, c, zs, hcs, _, hl, hm, hz, _, hcell, hwz⟩
    · simp [Value.cells] at hcs
      obtain ⟨rfl, rfl, rfl⟩ := hcs
      exact ⟨[], .inl ⟨rfl, rfl, rfl, rfl⟩⟩
    · simp [Value.cells] at hcs
      obtain ⟨rfl, rfl, rfl⟩ := hcs
      exact ⟨zs, .inr ⟨_, rfl, hl, hm, by simpa using hz, hcell, hwz⟩⟩
  clear hA0 hval0
  refine (walk acode lencode capcode zcode W rowcode).mono fun e W' ⟨he, bel⟩ => ?_
  subst he
  exact ⟨_, rfl, _, _, _, [], _, [], hW', trodAll_mk1 (shut_bool Tryd.underlying4 _), (trodAll_cons_mk (Below.trod laidOut (by kernel_rfl) (of_decide_eq_true (by kernel_rfl)) k0 bel lt0) trodAll_mk0), rfl, bel.frame _, fun h => by cases h⟩

theorem facts : joinedFacts Tryd.pinned.checked.prog 3 Tryd.f3 Rows.fnSpacesOfSpec Rows.fnSpacesOfRow = true := by
  simp only [joinedFacts, Bool.and_eq_true]
  repeat' apply And.intro
  all_goals first | rw [mayEnter_eq] | (rw [liftsFinal_eq]; kernel_rfl) | (rw [make_eq]; kernel_rfl) | kernel_rfl

theorem over : Rows.fnSpacesOfRow.holds Tryd.pinned (OpenSpec.ofChange Rows.fnSpacesOfSpec) :=
  OpenClaim.holds_of_wide 3 Tryd.f3 rfl rfl rfl rfl rfl rfl rfl ⟨rfl, rfl, rfl, rfl, rfl⟩ rfl rfl rfl rfl rfl (by kernel_rfl) Tryd.func3 facts
    (of_decide_eq_true (by kernel_rfl)) (by unfold Func.isWrapper; first | (rw [if_pos (by decide +kernel)]; kernel_rfl) | (rw [if_neg (by decide +kernel)]; exact ⟨rfl, rfl⟩))
    (fun os started H enc _ => lifted os started H enc)

theorem proved : Rows.FnSpacesOfCardSaid :=
  Claim7.holds_tied_plain_at .later [] [.data, .pinned] true (true, "2acbf4a479e0aab6eed65064e4635f6b05fc9a33fb99b489bbb76f814461ce27") false over (fun _ h => by cases h) (by kernel_rfl) (fun _ h => by cases h) fnSpacesOf_row_tie rfl ⟨rfl, rfl⟩ (by kernel_rfl) rfl
    (fun f fn hf hfn => by
      obtain rfl : f = 3 := Option.some.inj ((show Tryd.prog.funcNamed Rows.fnSpacesOfRow.func = some 3 by kernel_rfl).symm.trans hf) |>.symm
      obtain rfl : fn = Tryd.f3 := (Option.some.inj (Tryd.func3.symm.trans hfn)).symm
      exact ⟨by kernel_rfl, fun j t ht => by
        rw [Tryd.params3] at ht
        have hm : t ∈ [22] := by simpa using Array.mem_of_getElem? ht
        have hall : ([22].all fun u => !Tryd.prog.wantsStandIn u) = true := by kernel_rfl
        exact (show Tryd.prog.wantsStandIn t = false by simpa using List.all_eq_true.1 hall t hm)⟩)
    (by kernel_rfl)
#print axioms proved
end Go.Proofs.YtppahekbgbbidacDoor.lawSpacesOf
