/- Contracts of the program's CodeOf, countOnes and OnesUpTo, continued. -/
import Derived.Test.YtejofckfnieolaaDoorCodeI
import Derived.Lib.Strings
import Derived.Lib.Slices
import Derived.Lib.Walk
set_option linter.unusedVariables false
namespace Go.Proofs.YtejofckfnieolaaDoor
open Go.ChangeShapes Go.WideShapes Go.ChangeAt Go.RowKit Go.Joins

set_option maxHeartbeats 2000000 in
theorem codeOf_any (n s a m : Int) (w : World) :
    Calls Tryd.prog 5 #[(.agg #[.int .i64 (n), .int .i64 (s)]), .int .i64 a, .int .i64 m] w (StrPost (codeF n s a m) w) := by
  
  by_cases h : tok n s = true ∧ (0 ≤ a ∧ a < n) ∧ (0 ≤ m ∧ m ≤ 60)
  · obtain ⟨ht, ⟨h0, h1⟩, h2, h3⟩ := h
    rw [codeF_yes ht h0 h1 h2 h3]
    obtain ⟨m, rfl⟩ := Int.eq_ofNat_of_zero_le h2
    obtain ⟨a, rfl⟩ := Int.eq_ofNat_of_zero_le h0
    rw [Int.toNat_natCast, Int.toNat_natCast]
    exact codeOf_yes n s a m w ht h1 (by omega)
  · rw [codeF_no h]
    by_cases ht : tok n s = true
    · by_cases h0 : a < 0
      · go_enter Tryd.func5, Tryd.ntmps5
        go_wp2_with fail
        refine (turnOk_any _ _ _).mono ?_; rintro e w1 ⟨rfl, hb1⟩
        have hz1 := hb1.size
        try simp at hz1
        have t1 : Two w1 (w.heap.size) (.int .i64 n) (.int .i64 s) 24 := Two.below (by repeat (first | assumption | exact Two.new' _ _ _ _ _ (by simp) | refine Two.alloc ?_ _ | refine Two.drewN ?_ _)) hb1 (by first | omega | (simp <;> omega))
        have hlt1 : (w.heap.size) < w1.heap.size := t1.lt
        have hnt1 : ¬ (w.heap.size) = w1.heap.size := Nat.ne_of_lt hlt1
        have t1c := t1.cell0
        have t1d := t1.cell1
        rw [ht]
        go_wp2
        go_ret
        exact ⟨rfl, (by repeat (first | exact Below.refl _ _ | assumption | (refine Below.trans ?_ (Below.mono (by assumption) (by first | omega | (simp <;> omega)))) | (refine Below.alloc ?_ (by first | omega | (simp <;> omega)) _) | (refine below_drewN ?_ _) | (refine Below.drew ?_) | (refine Below.setCell ?_ (by first | omega | (simp <;> omega)) _)))⟩
      by_cases h1 : n ≤ a
      · go_enter Tryd.func5, Tryd.ntmps5
        go_wp2_with fail
        refine (turnOk_any _ _ _).mono ?_; rintro e w1 ⟨rfl, hb1⟩
        have hz1 := hb1.size
        try simp at hz1
        have t1 : Two w1 (w.heap.size) (.int .i64 n) (.int .i64 s) 24 := Two.below (by repeat (first | assumption | exact Two.new' _ _ _ _ _ (by simp) | refine Two.alloc ?_ _ | refine Two.drewN ?_ _)) hb1 (by first | omega | (simp <;> omega))
        have hlt1 : (w.heap.size) < w1.heap.size := t1.lt
        have hnt1 : ¬ (w.heap.size) = w1.heap.size := Nat.ne_of_lt hlt1
        have t1c := t1.cell0
        have t1d := t1.cell1
        rw [ht]
        go_wp2
        go_ret
        exact ⟨rfl, (by repeat (first | exact Below.refl _ _ | assumption | (refine Below.trans ?_ (Below.mono (by assumption) (by first | omega | (simp <;> omega)))) | (refine Below.alloc ?_ (by first | omega | (simp <;> omega)) _) | (refine below_drewN ?_ _) | (refine Below.drew ?_) | (refine Below.setCell ?_ (by first | omega | (simp <;> omega)) _)))⟩
      by_cases h2 : m < 0
      · go_enter Tryd.func5, Tryd.ntmps5
        go_wp2_with fail
        refine (turnOk_any _ _ _).mono ?_; rintro e w1 ⟨rfl, hb1⟩
        have hz1 := hb1.size
        try simp at hz1
        have t1 : Two w1 (w.heap.size) (.int .i64 n) (.int .i64 s) 24 := Two.below (by repeat (first | assumption | exact Two.new' _ _ _ _ _ (by simp) | refine Two.alloc ?_ _ | refine Two.drewN ?_ _)) hb1 (by first | omega | (simp <;> omega))
        have hlt1 : (w.heap.size) < w1.heap.size := t1.lt
        have hnt1 : ¬ (w.heap.size) = w1.heap.size := Nat.ne_of_lt hlt1
        have t1c := t1.cell0
        have t1d := t1.cell1
        rw [ht]
        go_wp2
        go_ret
        exact ⟨rfl, (by repeat (first | exact Below.refl _ _ | assumption | (refine Below.trans ?_ (Below.mono (by assumption) (by first | omega | (simp <;> omega)))) | (refine Below.alloc ?_ (by first | omega | (simp <;> omega)) _) | (refine below_drewN ?_ _) | (refine Below.drew ?_) | (refine Below.setCell ?_ (by first | omega | (simp <;> omega)) _)))⟩
      have h3 : 60 < m := by
        by_cases c : 60 < m
        · exact c
        · exact absurd ⟨ht, ⟨by omega, by omega⟩, by omega, by omega⟩ h
      go_enter Tryd.func5, Tryd.ntmps5
      go_wp2_with fail
      refine (turnOk_any _ _ _).mono ?_; rintro e w1 ⟨rfl, hb1⟩
      have hz1 := hb1.size
      try simp at hz1
      have t1 : Two w1 (w.heap.size) (.int .i64 n) (.int .i64 s) 24 := Two.below (by repeat (first | assumption | exact Two.new' _ _ _ _ _ (by simp) | refine Two.alloc ?_ _ | refine Two.drewN ?_ _)) hb1 (by first | omega | (simp <;> omega))
      have hlt1 : (w.heap.size) < w1.heap.size := t1.lt
      have hnt1 : ¬ (w.heap.size) = w1.heap.size := Nat.ne_of_lt hlt1
      have t1c := t1.cell0
      have t1d := t1.cell1
      rw [ht]
      go_wp2
      go_ret
      exact ⟨rfl, (by repeat (first | exact Below.refl _ _ | assumption | (refine Below.trans ?_ (Below.mono (by assumption) (by first | omega | (simp <;> omega)))) | (refine Below.alloc ?_ (by first | omega | (simp <;> omega)) _) | (refine below_drewN ?_ _) | (refine Below.drew ?_) | (refine Below.setCell ?_ (by first | omega | (simp <;> omega)) _)))⟩
    · have ht' : tok n s = false := by simpa using ht
      go_enter Tryd.func5, Tryd.ntmps5
      go_wp2_with fail
      refine (turnOk_any _ _ _).mono ?_; rintro e w1 ⟨rfl, hb1⟩
      have hz1 := hb1.size
      try simp at hz1
      have t1 : Two w1 (w.heap.size) (.int .i64 n) (.int .i64 s) 24 := Two.below (by repeat (first | assumption | exact Two.new' _ _ _ _ _ (by simp) | refine Two.alloc ?_ _ | refine Two.drewN ?_ _)) hb1 (by first | omega | (simp <;> omega))
      have hlt1 : (w.heap.size) < w1.heap.size := t1.lt
      have hnt1 : ¬ (w.heap.size) = w1.heap.size := Nat.ne_of_lt hlt1
      have t1c := t1.cell0
      have t1d := t1.cell1
      rw [ht']
      go_wp2
      go_ret
      exact ⟨rfl, (by repeat (first | exact Below.refl _ _ | assumption | (refine Below.trans ?_ (Below.mono (by assumption) (by first | omega | (simp <;> omega)))) | (refine Below.alloc ?_ (by first | omega | (simp <;> omega)) _) | (refine below_drewN ?_ _) | (refine Below.drew ?_) | (refine Below.setCell ?_ (by first | omega | (simp <;> omega)) _)))⟩

theorem tokN_nat {n s : Int} (h : tok n s = true) : tokN n.toNat s.toNat = true := by
  obtain ⟨N, S, rfl, rfl, h'⟩ := tokN_of h
  exact h'

theorem count_txt (u : List Bool) : Lib.countByte (txtB u).data.toList 49 = u.count true := by
  have e : (txtB u).data.toList = u.map byteB := by simp [txtB]
  rw [e]
  clear e
  unfold Lib.countByte
  induction u with
  | nil => rfl
  | cons b r ih =>
    rw [List.map_cons, List.count_cons, List.count_cons, ih]
    cases b <;> rfl

set_option maxHeartbeats 1000000 in

set_option maxRecDepth 100000 in
theorem countOnes_any (s : ByteArray) (w : World) :
    Calls Tryd.prog 26 #[.string s] w fun e w' => e = .returned (.int .i64 (Lib.countByte s.data.toList 49)) ∧ w = w' := by
  have hc : Calls Tryd.prog 35 #[.string s, .string ⟨#[49]⟩] w fun e w' => e = .returned (.int .i64 (Lib.countByte s.data.toList 49)) ∧ w = w' := by
    go_enter Tryd.func35, Tryd.ntmps35
    go_wp2
    rw [run_callFunc_extern Tryd.func41 (by kernel_rfl) (by kernel_rfl) (by kernel_rfl) (e := Extern.BytealgCount.count) (by kernel_rfl), Lib.run_countString]
    simp only [Result.andThen]
    rw [Oper.upon_value]
    go_wp2
    go_ret
    exact ⟨rfl, rfl⟩
  go_enter Tryd.func26, Tryd.ntmps26
  go_wp2_with fail
  refine hc.mono ?_; rintro e w1 ⟨rfl, rfl⟩
  go_wp2
  go_ret
  exact ⟨rfl, rfl⟩

end Go.Proofs.YtejofckfnieolaaDoor
