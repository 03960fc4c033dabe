/- Contract of the model's CodeOf. -/
import Derived.Test.YtejofckfnieolaaDoorWord
set_option linter.unusedVariables false
namespace Go.Proofs.YtejofckfnieolaaDoor
open Go.ChangeShapes Go.WideShapes Go.ChangeAt Go.RowKit Go.Joins

set_option maxHeartbeats 2000000 in
theorem specCodeOf_any (n s a m : Int) (w : World) :
    Calls Tryd.prog 6 #[(.agg #[.int .i64 (n), .int .i64 (s)]), .int .i64 a, .int .i64 m] w (StrPost (codeF n s a m) w) := by
  
  by_cases h : tok n s = true ∧ (0 ≤ a ∧ a < n) ∧ (0 ≤ m ∧ m ≤ 60)
  · obtain ⟨ht, ⟨h0, h1⟩, h2, h3⟩ := h
    rw [codeF_yes ht h0 h1 h2 h3]
    have hb := tok_bd ht
    obtain ⟨m, rfl⟩ := Int.eq_ofNat_of_zero_le h2
    obtain ⟨a, rfl⟩ := Int.eq_ofNat_of_zero_le h0
    rw [Int.toNat_natCast, Int.toNat_natCast]
    have HT := Lib.hid ht
    clear ht
    go_enter Tryd.func6, Tryd.ntmps6
    go_wp2_with fail
    go_loopw [7, 8] (fun y x wr => ∃ k : Nat, x = .int .i64 k ∧ y = .string (txtB (wordL n.toNat s.toNat a k)) ∧ k ≤ m ∧ Two wr w.heap.size (.int .i64 n) (.int .i64 s) 24 ∧ Below w.heap.size w wr) (fun _ x _ => m - (intOf x).toNat)
    case atStart => exact ⟨0, rfl, rfl, by omega, Two.new _ _ _ _, (by repeat (first | exact Below.refl _ _ | assumption | (refine Below.trans ?_ (Below.mono (by assumption) (by first | omega | (simp <;> omega)))) | (refine Below.alloc ?_ (by first | omega | (simp <;> omega)) _) | (refine below_drewN ?_ _) | (refine Below.drew ?_) | (refine Below.setCell ?_ (by first | omega | (simp <;> omega)) _)))⟩
    case round =>
      obtain ⟨k, rfl, rfl, hk, t1, hB1⟩ := hrel
      have c0 := t1.cell0
      have c1 := t1.cell1
      have l1 := t1.lt
      by_cases hkm : k < m
      · have hkm' : (k : Int) < m := by omega
        go_wp2_with fail
        refine (specTurnOk_any _ _ _).mono ?_; rintro e w2 ⟨rfl, hb2⟩
        rw [HT.out]
        have t2 := t1.below hb2 l1
        have hB2 := hB1.trans (hb2.mono hB1.size)
        have d0 := t2.cell0
        have d1 := t2.cell1
        have l2 := t2.lt
        clear hb2 t1 hB1 c0 c1 l1
        go_wp2_with fail
        refine (l1In_any _ _ _ _).mono ?_; rintro e w3 ⟨rfl, rfl⟩
        rw [decide_eq_true (by omega : (0 : Int) ≤ a), decide_eq_true (by omega : (a : Int) ≤ n - 1)]
        go_wp2_with fail
        refine (l5Letter_int n s _ _ HT.out (by omega) (by omega)).mono ?_; rintro e w4 ⟨rfl, hb4⟩
        have e1 : ((a : Int) + k).toNat = a + k := by omega
        rw [e1]
        have t4 := t2.below hb4 l2
        have hB4 := hB2.trans (hb4.mono hB2.size)
        have hsz : (txtB (wordL n.toNat s.toNat a k)).size = k := by rw [txtB_size, wordL_length]
        have hsz2 : (txtB [letN n.toNat s.toNat (a + k)]).size = 1 := txtB_size _
        have E := Lib.hid (show txtB (wordL n.toNat s.toNat a k) ++ txtB [letN n.toNat s.toNat (a + k)] = txtB (wordL n.toNat s.toNat a (k + 1)) by rw [txtB_append, wordL_succ])
        clear hb4 t2 hB2 d0 d1
        go_wp2_with fail
        go_roundw
        case rel => exact ⟨k + 1, by go_num, by rw [E.out], by omega, t4, hB4⟩
        case measure => simp only [intOf]; omega
      · obtain rfl : k = m := by omega
        have hkm' : decide ((k : Int) < k) = false := by simp
        go_wp2
        go_ret
        exact ⟨rfl, hB1⟩
  · rw [codeF_no h]
    go_enter Tryd.func6, Tryd.ntmps6
    go_wp2_with fail
    go_loopw [7, 8] (fun y x wr => x = .int .i64 0 ∧ y = .string ⟨#[]⟩ ∧ Two wr w.heap.size (.int .i64 n) (.int .i64 s) 24 ∧ Below w.heap.size w wr) (fun _ x _ => 0)
    case atStart => exact ⟨rfl, rfl, Two.new _ _ _ _, (by repeat (first | exact Below.refl _ _ | assumption | (refine Below.trans ?_ (Below.mono (by assumption) (by first | omega | (simp <;> omega)))) | (refine Below.alloc ?_ (by first | omega | (simp <;> omega)) _) | (refine below_drewN ?_ _) | (refine Below.drew ?_) | (refine Below.setCell ?_ (by first | omega | (simp <;> omega)) _)))⟩
    case round =>
      obtain ⟨rfl, rfl, t1, hB1⟩ := hrel
      have c0 := t1.cell0
      have c1 := t1.cell1
      have l1 := t1.lt
      by_cases hm : 0 < m
      · go_wp2_with fail
        refine (specTurnOk_any _ _ _).mono ?_; rintro e w2 ⟨rfl, hb2⟩
        have t2 := t1.below hb2 l1
        have hB2 := hB1.trans (hb2.mono hB1.size)
        have d0 := t2.cell0
        have d1 := t2.cell1
        have l2 := t2.lt
        clear hb2 t1 hB1 c0 c1 l1
        by_cases ht : tok n s = true
        · rw [ht]
          have hb := tok_bd ht
          by_cases ha : 0 ≤ a ∧ a ≤ n - 1
          · have hm6 : decide (m ≤ 60) = false := by
              rw [decide_eq_false_iff_not]
              intro hm6
              exact h ⟨ht, ⟨ha.1, by omega⟩, by omega, hm6⟩
            go_wp2_with fail
            refine (l1In_any _ _ _ _).mono ?_; rintro e w3 ⟨rfl, rfl⟩
            rw [decide_eq_true ha.1, decide_eq_true ha.2]
            go_wp2
            go_ret
            exact ⟨rfl, hB2⟩
          · go_wp2_with fail
            refine (l1In_any _ _ _ _).mono ?_; rintro e w3 ⟨rfl, rfl⟩
            have e : (decide (0 ≤ a) && decide (a ≤ n - 1)) = false := by
              rw [← Bool.decide_and]
              exact decide_eq_false ha
            rw [e]
            go_wp2
            go_ret
            exact ⟨rfl, hB2⟩
        · have ht' : tok n s = false := by simpa using ht
          rw [ht']
          go_wp2
          go_ret
          exact ⟨rfl, hB2⟩
      · have hm' : decide (0 < m) = false := by simpa using hm
        go_wp2
        go_ret
        exact ⟨rfl, hB1⟩
end Go.Proofs.YtejofckfnieolaaDoor
