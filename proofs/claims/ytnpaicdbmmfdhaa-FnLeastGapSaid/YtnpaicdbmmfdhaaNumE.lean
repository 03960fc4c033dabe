/- Contracts of chapter 9's functions of the model: BasisOf, MostDigits, DigitsOf, DigitSum. -/
import Derived.Test.YtnpaicdbmmfdhaaNumD
set_option linter.unusedVariables false
namespace Go.Proofs.Ytnpaicdbmmfdhaa

set_option maxRecDepth 4000
open Go.ChangeShapes Go.WideShapes Go.ChangeAt Go.RowKit Go.Joins

set_option maxHeartbeats 1000000 in
theorem specBasisOf_any (n s : Int) (w : World) : Calls Try.prog 33 #[(.agg #[.int .i64 (n), .int .i64 (s)])] w (ListPost (basisF n s) w) := by
  
  by_cases ht : tok n s = true
  · obtain ⟨N, S, rfl, rfl, hN⟩ := tokN_of ht
    
    rw [basisF_yes hN]
    go_enter Try.func33, Try.ntmps33
    go_wp2_with fail
    refine (specTurnOk_any _ _ _).mono ?_; rintro e w1 ⟨rfl, hb1⟩
    have hz1 := hb1.size
    try simp at hz1
    have t1 : Two w1 (w.heap.size) (.int .i64 N) (.int .i64 S) 24 := Two.below (by repeat (first | assumption | exact Two.new' _ _ _ _ _ (by simp) | refine Two.alloc ?_ _ | refine Two.drewN ?_ _)) hb1 (by first | omega | (simp <;> omega))
    have hlt1 : (w.heap.size) < w1.heap.size := t1.lt
    have hnt1 : ¬ (w.heap.size) = w1.heap.size := Nat.ne_of_lt hlt1
    have t1c := t1.cell0
    have t1d := t1.cell1
    rw [ht]
    go_wp2_with fail
    refine (specBasis9_any hN _).mono ?_; rintro e w2 ⟨v1, v2, rfl, ho1, ho2, hb2⟩
    have hz2 := hb2.size
    try simp at hz2
    have t2 : Two w2 (w.heap.size) (.int .i64 N) (.int .i64 S) 24 := Two.below (by repeat (first | assumption | exact Two.new' _ _ _ _ _ (by simp) | refine Two.alloc ?_ _ | refine Two.drewN ?_ _)) hb2 (by first | omega | (simp <;> omega))
    have hlt2 : (w.heap.size) < w2.heap.size := t2.lt
    have hnt2 : ¬ (w.heap.size) = w2.heap.size := Nat.ne_of_lt hlt2
    have t2c := t2.cell0
    have t2d := t2.cell1
    have ho' : OwnL w2 w.heap.size v1 _ := ho1.mono (b' := w.heap.size) (by omega)
    clear ho1 ho2
    go_wp2
    go_ret
    exact ⟨_, rfl, ho', (by repeat (first | exact Below.refl _ _ | assumption | (refine Below.trans ?_ (Below.mono (by assumption) (by first | omega | (simp <;> omega)))) | (refine Below.alloc ?_ (by first | omega | (simp <;> omega)) _) | (refine below_drewN ?_ _) | (refine Below.drew ?_) | (refine Below.setCell ?_ (by first | omega | (simp <;> omega)) _)))⟩
  · 
    have ht' : tok n s = false := by simpa using ht
    rw [basisF_no ht]
    go_enter Try.func33, Try.ntmps33
    go_wp2_with fail
    refine (specTurnOk_any _ _ _).mono ?_; rintro e w1 ⟨rfl, hb1⟩
    have hz1 := hb1.size
    try simp at hz1
    have t1 : Two w1 (w.heap.size) (.int .i64 n) (.int .i64 s) 24 := Two.below (by repeat (first | assumption | exact Two.new' _ _ _ _ _ (by simp) | refine Two.alloc ?_ _ | refine Two.drewN ?_ _)) hb1 (by first | omega | (simp <;> omega))
    have hlt1 : (w.heap.size) < w1.heap.size := t1.lt
    have hnt1 : ¬ (w.heap.size) = w1.heap.size := Nat.ne_of_lt hlt1
    have t1c := t1.cell0
    have t1d := t1.cell1
    rw [ht']
    have hn1 := made_nil w1
    have hz1' : w.heap.size ≤ w1.heap.size := by omega
    go_wp2
    go_ret
    exact ⟨_, rfl, hn1.mono (b' := w.heap.size) (by omega), (by repeat (first | exact Below.refl _ _ | assumption | (refine Below.trans ?_ (Below.mono (by assumption) (by first | omega | (simp <;> omega)))) | (refine Below.alloc ?_ (by first | omega | (simp <;> omega)) _) | (refine below_drewN ?_ _) | (refine Below.drew ?_) | (refine Below.setCell ?_ (by first | omega | (simp <;> omega)) _)))⟩

/-- the basis as it is read -/
theorem bas_read {N S : Nat} (hN : tokN N S = true) : (basN N S).length = bmN N S ∧ 1 ≤ bmN N S ∧ bmN N S ≤ 8 ∧ ∀ i, i < bmN N S → (basN N S).getD i 0 = basAt N S i ∧ 1 ≤ basAt N S i ∧ basAt N S i ≤ 60 := by
  obtain ⟨a, b, _⟩ := bas_facts hN
  obtain ⟨_, b2, _⟩ := tokN_bd hN
  refine ⟨rfl, a, b, fun i hi => ⟨(basAt_get hi).symm, (bas_scale hN).pos (by omega), ?_⟩⟩
  have := bas_lt hN hi
  omega

theorem sumD_le {d M : Nat → Nat} {m : Nat} (h : ∀ i, i < m → d i ≤ 60) : ∀ k, k ≤ m → sumD d k ≤ 60 * k := by
  intro k
  induction k with
  | zero => intro _; exact Nat.zero_le _
  | succ k ih => intro hk; have := ih (by omega); have := h k (by omega); show sumD d k + d k ≤ _; omega

theorem dig_le {B : Nat → Nat} {m K i : Nat} (hK : K ≤ 60) : digD B m K i ≤ 60 := by
  unfold digD
  exact Nat.le_trans (Nat.div_le_self _ _) (Nat.le_trans (remD_le B m K _) hK)

end Go.Proofs.Ytnpaicdbmmfdhaa
