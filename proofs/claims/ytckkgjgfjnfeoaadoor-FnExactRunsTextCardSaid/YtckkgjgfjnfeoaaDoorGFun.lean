/- Contracts of the functions of chapter 1, the program's and the model's. Contracts of the functions of chapter 1, continued: the opposite step, and times. -/
import Derived.Test.YtckkgjgfjnfeoaaDoorOpp
import Derived.Lib.Hide
import Derived.Test.YtckkgjgfjnfeoaaDoorDraw
import Derived.Deep.LoopGhost
set_option linter.unusedVariables false
namespace Go.Proofs.YtckkgjgfjnfeoaaDoor
set_option maxRecDepth 4000
open Go.ChangeShapes Go.WideShapes Go.ChangeAt Go.RowKit Go.Joins

/-- the point without its check -/
theorem pointAt_any (n s k : Int) (w : World) (n0 : 2 ≤ n) (n1 : n ≤ 60) (s0 : 0 ≤ s) (s1 : s ≤ 60) (k0 : 0 ≤ k) (k1 : k ≤ 200) :
    Calls Tryd.prog 105 #[(.agg #[.int .i64 (n), .int .i64 (s)]), .int .i64 k] w fun e w' => e = .returned (.int .i64 (k * s % n)) ∧ Below w.heap.size w w' := by
  have m0 : 0 ≤ k * s := Int.mul_nonneg k0 s0
  have m1 : k * s ≤ 200 * 60 := Int.mul_le_mul k1 s1 s0 (by omega)
  have g0 := Int.emod_nonneg (k * s) (by omega : n ≠ 0)
  have g1 : k * s % n < n := Int.emod_lt_of_pos (k * s) (by omega)
  go_enter Tryd.func105, Tryd.ntmps105
  go_wp2
  go_ret
  exact ⟨rfl, (by repeat (first | exact Below.refl _ _ | assumption | (refine Below.trans ?_ (Below.mono (by assumption) (by first | omega | (simp <;> omega)))) | (refine Below.alloc ?_ (by first | omega | (simp <;> omega)) _) | (refine below_drewN ?_ _) | (refine Below.drew ?_) | (refine Below.setCell ?_ (by first | omega | (simp <;> omega)) _)))⟩

/-- the turn is one, and the number less than its size -/
def belF (n s k : Int) : Bool := tok n s && (decide (0 ≤ k) && decide (k < n))

theorem belF_yes {n s k : Int} (h : tok n s = true) (h0 : 0 ≤ k) (h1 : k < n) : belF n s k = true := by unfold belF; simp [h, h0, h1]

theorem belF_no {n s k : Int} (h : ¬ (tok n s = true ∧ 0 ≤ k ∧ k < n)) : belF n s k = false := by
  cases e : belF n s k with
  | false => rfl
  | true => unfold belF at e; simp at e; exact absurd ⟨e.1, e.2.1, e.2.2⟩ h

/-- the turn is one, and the number not more than its size -/
def upF (n s k : Int) : Bool := tok n s && (decide (0 ≤ k) && decide (k ≤ n))

theorem upF_yes {n s k : Int} (h : tok n s = true) (h0 : 0 ≤ k) (h1 : k ≤ n) : upF n s k = true := by unfold upF; simp [h, h0, h1]

theorem upF_no {n s k : Int} (h : ¬ (tok n s = true ∧ 0 ≤ k ∧ k ≤ n)) : upF n s k = false := by
  cases e : upF n s k with
  | false => rfl
  | true => unfold upF at e; simp at e; exact absurd ⟨e.1, e.2.1, e.2.2⟩ h

end Go.Proofs.YtckkgjgfjnfeoaaDoor

set_option linter.unusedVariables false
namespace Go.Proofs.YtckkgjgfjnfeoaaDoor
open Go.ChangeShapes Go.WideShapes Go.ChangeAt Go.RowKit Go.Joins

theorem tdiv_mod_pos (a b : Int) (h : 0 ≤ a) : a.tmod b = a % b := Int.tmod_eq_emod_of_nonneg h

end Go.Proofs.YtckkgjgfjnfeoaaDoor
