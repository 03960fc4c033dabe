/- Contracts of the functions of chapter 1, the program's and the model's. Contracts of the functions of chapter 1, continued: the opposite step, and times. -/
import Derived.Test.YtokmmbmkfpfmgaaOpp
import Derived.Lib.Hide
import Derived.Test.YtokmmbmkfpfmgaaDraw
import Derived.Deep.LoopGhost
set_option linter.unusedVariables false
namespace Go.Proofs.Ytokmmbmkfpfmgaa
set_option maxRecDepth 4000
open Go.ChangeShapes Go.WideShapes Go.ChangeAt Go.RowKit Go.Joins

/-- the point without its check -/
theorem pointAt_any (n s k : Int) (w : World) (n0 : 2 ≤ n) (n1 : n ≤ 60) (s0 : 0 ≤ s) (s1 : s ≤ 60) (k0 : 0 ≤ k) (k1 : k ≤ 200) :
    Calls Try.prog 53 #[(.agg #[.int .i64 (n), .int .i64 (s)]), .int .i64 k] w fun e w' => e = .returned (.int .i64 (k * s % n)) ∧ Below w.heap.size w w' := by
  have m0 : 0 ≤ k * s := Int.mul_nonneg k0 s0
  have m1 : k * s ≤ 200 * 60 := Int.mul_le_mul k1 s1 s0 (by omega)
  have g0 := Int.emod_nonneg (k * s) (by omega : n ≠ 0)
  have g1 : k * s % n < n := Int.emod_lt_of_pos (k * s) (by omega)
  go_enter Try.func53, Try.ntmps53
  go_wp2
  go_ret
  exact ⟨rfl, (by repeat (first | exact Below.refl _ _ | assumption | (refine Below.trans ?_ (Below.mono (by assumption) (by first | omega | (simp <;> omega)))) | (refine Below.alloc ?_ (by first | omega | (simp <;> omega)) _) | (refine below_drewN ?_ _) | (refine Below.drew ?_) | (refine Below.setCell ?_ (by first | omega | (simp <;> omega)) _)))⟩

/-- the turn is one, and the number less than its size -/
def belF (n s k : Int) : Bool := tok n s && (decide (0 ≤ k) && decide (k < n))

theorem belF_yes {n s k : Int} (h : tok n s = true) (h0 : 0 ≤ k) (h1 : k < n) : belF n s k = true := by unfold belF; simp [h, h0, h1]

theorem belF_no {n s k : Int} (h : ¬ (tok n s = true ∧ 0 ≤ k ∧ k < n)) : belF n s k = false := by
  cases e : belF n s k with
  | false => rfl
  | true => unfold belF at e; simp at e; exact absurd ⟨e.1, e.2.1, e.2.2⟩ h

set_option maxHeartbeats 1000000 in
theorem belowSize_any (n s k : Int) (w : World) :
    Calls Try.prog 52 #[(.agg #[.int .i64 (n), .int .i64 (s)]), .int .i64 k] w fun e w' => e = .returned (.bool (belF n s k)) ∧ Below w.heap.size w w' := by
  
  unfold belF
  by_cases ht : tok n s = true
  · rw [ht]
    by_cases h0 : 0 ≤ k
    · go_enter Try.func52, Try.ntmps52
      go_wp2_with fail
      refine (turnOk_any _ _ _).mono ?_; rintro e w1 ⟨rfl, hb1⟩
      have hz1 := hb1.size
      try simp at hz1
      have t1 : Two w1 (w.heap.size) (.int .i64 n) (.int .i64 s) 24 := Two.below (by repeat (first | assumption | exact Two.new' _ _ _ _ _ (by simp) | refine Two.alloc ?_ _ | refine Two.drewN ?_ _)) hb1 (by first | omega | (simp <;> omega))
      have hlt1 : (w.heap.size) < w1.heap.size := t1.lt
      have hnt1 : ¬ (w.heap.size) = w1.heap.size := Nat.ne_of_lt hlt1
      have t1c := t1.cell0
      have t1d := t1.cell1
      rw [ht]
      go_wp2
      go_ret
      exact ⟨ret_bool (by simp [h0]), (by repeat (first | exact Below.refl _ _ | assumption | (refine Below.trans ?_ (Below.mono (by assumption) (by first | omega | (simp <;> omega)))) | (refine Below.alloc ?_ (by first | omega | (simp <;> omega)) _) | (refine below_drewN ?_ _) | (refine Below.drew ?_) | (refine Below.setCell ?_ (by first | omega | (simp <;> omega)) _)))⟩
    · have h0' : decide (0 ≤ k) = false := by simpa using h0
      rw [h0']
      go_enter Try.func52, Try.ntmps52
      go_wp2_with fail
      refine (turnOk_any _ _ _).mono ?_; rintro e w1 ⟨rfl, hb1⟩
      have hz1 := hb1.size
      try simp at hz1
      have t1 : Two w1 (w.heap.size) (.int .i64 n) (.int .i64 s) 24 := Two.below (by repeat (first | assumption | exact Two.new' _ _ _ _ _ (by simp) | refine Two.alloc ?_ _ | refine Two.drewN ?_ _)) hb1 (by first | omega | (simp <;> omega))
      have hlt1 : (w.heap.size) < w1.heap.size := t1.lt
      have hnt1 : ¬ (w.heap.size) = w1.heap.size := Nat.ne_of_lt hlt1
      have t1c := t1.cell0
      have t1d := t1.cell1
      rw [ht]
      go_wp2
      go_ret
      exact ⟨rfl, (by repeat (first | exact Below.refl _ _ | assumption | (refine Below.trans ?_ (Below.mono (by assumption) (by first | omega | (simp <;> omega)))) | (refine Below.alloc ?_ (by first | omega | (simp <;> omega)) _) | (refine below_drewN ?_ _) | (refine Below.drew ?_) | (refine Below.setCell ?_ (by first | omega | (simp <;> omega)) _)))⟩
  · have ht' : tok n s = false := by simpa using ht
    rw [ht']
    go_enter Try.func52, Try.ntmps52
    go_wp2_with fail
    refine (turnOk_any _ _ _).mono ?_; rintro e w1 ⟨rfl, hb1⟩
    have hz1 := hb1.size
    try simp at hz1
    have t1 : Two w1 (w.heap.size) (.int .i64 n) (.int .i64 s) 24 := Two.below (by repeat (first | assumption | exact Two.new' _ _ _ _ _ (by simp) | refine Two.alloc ?_ _ | refine Two.drewN ?_ _)) hb1 (by first | omega | (simp <;> omega))
    have hlt1 : (w.heap.size) < w1.heap.size := t1.lt
    have hnt1 : ¬ (w.heap.size) = w1.heap.size := Nat.ne_of_lt hlt1
    have t1c := t1.cell0
    have t1d := t1.cell1
    rw [ht']
    go_wp2
    go_ret
    exact ⟨rfl, (by repeat (first | exact Below.refl _ _ | assumption | (refine Below.trans ?_ (Below.mono (by assumption) (by first | omega | (simp <;> omega)))) | (refine Below.alloc ?_ (by first | omega | (simp <;> omega)) _) | (refine below_drewN ?_ _) | (refine Below.drew ?_) | (refine Below.setCell ?_ (by first | omega | (simp <;> omega)) _)))⟩

set_option maxHeartbeats 1000000 in
theorem pointOf_any (n s k : Int) (w : World) :
    Calls Try.prog 35 #[(.agg #[.int .i64 (n), .int .i64 (s)]), .int .i64 k] w fun e w' => e = .returned (.int .i64 (pointF n s k)) ∧ Below w.heap.size w w' := by
  
  by_cases h : tok n s = true ∧ 0 ≤ k ∧ k < n
  · obtain ⟨ht, h0, h1⟩ := h
    have hb := tok_bd ht
    have hp := pointF_yes ht h0 h1
    have hy := belF_yes ht h0 h1
    have HP := Lib.hid hp
    clear hp
    go_enter Try.func35, Try.ntmps35
    go_wp2_with fail
    refine (belowSize_any _ _ _ _).mono ?_; rintro e w1 ⟨rfl, hb1⟩
    have hz1 := hb1.size
    try simp at hz1
    have t1 : Two w1 (w.heap.size) (.int .i64 n) (.int .i64 s) 24 := Two.below (by repeat (first | assumption | exact Two.new' _ _ _ _ _ (by simp) | refine Two.alloc ?_ _ | refine Two.drewN ?_ _)) hb1 (by first | omega | (simp <;> omega))
    have hlt1 : (w.heap.size) < w1.heap.size := t1.lt
    have hnt1 : ¬ (w.heap.size) = w1.heap.size := Nat.ne_of_lt hlt1
    have t1c := t1.cell0
    have t1d := t1.cell1
    rw [hy]
    go_wp2_with fail
    refine (pointAt_any _ _ _ _ (by omega) (by omega) (by omega) (by omega) (by omega) (by omega)).mono ?_; rintro e w2 ⟨rfl, hb2⟩
    have hz2 := hb2.size
    try simp at hz2
    have t2 : Two w2 (w.heap.size) (.int .i64 n) (.int .i64 s) 24 := Two.below (by repeat (first | assumption | exact Two.new' _ _ _ _ _ (by simp) | refine Two.alloc ?_ _ | refine Two.drewN ?_ _)) hb2 (by first | omega | (simp <;> omega))
    have hlt2 : (w.heap.size) < w2.heap.size := t2.lt
    have hnt2 : ¬ (w.heap.size) = w2.heap.size := Nat.ne_of_lt hlt2
    have t2c := t2.cell0
    have t2d := t2.cell1
    go_wp2
    go_ret
    exact ⟨ret_int HP.out.symm, (by repeat (first | exact Below.refl _ _ | assumption | (refine Below.trans ?_ (Below.mono (by assumption) (by first | omega | (simp <;> omega)))) | (refine Below.alloc ?_ (by first | omega | (simp <;> omega)) _) | (refine below_drewN ?_ _) | (refine Below.drew ?_) | (refine Below.setCell ?_ (by first | omega | (simp <;> omega)) _)))⟩
  · have hp := pointF_no (n := n) (s := s) (k := k) h
    have hy := belF_no h
    go_enter Try.func35, Try.ntmps35
    go_wp2_with fail
    refine (belowSize_any _ _ _ _).mono ?_; rintro e w1 ⟨rfl, hb1⟩
    have hz1 := hb1.size
    try simp at hz1
    have t1 : Two w1 (w.heap.size) (.int .i64 n) (.int .i64 s) 24 := Two.below (by repeat (first | assumption | exact Two.new' _ _ _ _ _ (by simp) | refine Two.alloc ?_ _ | refine Two.drewN ?_ _)) hb1 (by first | omega | (simp <;> omega))
    have hlt1 : (w.heap.size) < w1.heap.size := t1.lt
    have hnt1 : ¬ (w.heap.size) = w1.heap.size := Nat.ne_of_lt hlt1
    have t1c := t1.cell0
    have t1d := t1.cell1
    rw [hy]
    go_wp2
    go_ret
    exact ⟨ret_int hp.symm, (by repeat (first | exact Below.refl _ _ | assumption | (refine Below.trans ?_ (Below.mono (by assumption) (by first | omega | (simp <;> omega)))) | (refine Below.alloc ?_ (by first | omega | (simp <;> omega)) _) | (refine below_drewN ?_ _) | (refine Below.drew ?_) | (refine Below.setCell ?_ (by first | omega | (simp <;> omega)) _)))⟩

/-- the turn is one, and the number not more than its size -/
def upF (n s k : Int) : Bool := tok n s && (decide (0 ≤ k) && decide (k ≤ n))

theorem upF_yes {n s k : Int} (h : tok n s = true) (h0 : 0 ≤ k) (h1 : k ≤ n) : upF n s k = true := by unfold upF; simp [h, h0, h1]

theorem upF_no {n s k : Int} (h : ¬ (tok n s = true ∧ 0 ≤ k ∧ k ≤ n)) : upF n s k = false := by
  cases e : upF n s k with
  | false => rfl
  | true => unfold upF at e; simp at e; exact absurd ⟨e.1, e.2.1, e.2.2⟩ h

end Go.Proofs.Ytokmmbmkfpfmgaa

set_option linter.unusedVariables false
namespace Go.Proofs.Ytokmmbmkfpfmgaa
open Go.ChangeShapes Go.WideShapes Go.ChangeAt Go.RowKit Go.Joins

theorem tdiv_mod_pos (a b : Int) (h : 0 ≤ a) : a.tmod b = a % b := Int.tmod_eq_emod_of_nonneg h

end Go.Proofs.Ytokmmbmkfpfmgaa
