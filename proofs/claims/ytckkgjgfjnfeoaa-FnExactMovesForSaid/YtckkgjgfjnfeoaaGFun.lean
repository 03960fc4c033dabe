/- Contracts of the functions of chapter 1, the program's and the model's. Contracts of the functions of chapter 1, continued: the opposite step, and times. -/
import Derived.Test.YtckkgjgfjnfeoaaOpp
import Derived.Lib.Hide
import Derived.Test.YtckkgjgfjnfeoaaDraw
import Derived.Deep.LoopGhost
set_option linter.unusedVariables false
namespace Go.Proofs.Ytckkgjgfjnfeoaa
set_option maxRecDepth 4000
open Go.ChangeShapes Go.WideShapes Go.ChangeAt Go.RowKit Go.Joins

/-- the turn is one, and the number less than its size -/
def belF (n s k : Int) : Bool := tok n s && (decide (0 ≤ k) && decide (k < n))

theorem belF_yes {n s k : Int} (h : tok n s = true) (h0 : 0 ≤ k) (h1 : k < n) : belF n s k = true := by unfold belF; simp [h, h0, h1]

theorem belF_no {n s k : Int} (h : ¬ (tok n s = true ∧ 0 ≤ k ∧ k < n)) : belF n s k = false := by
  cases e : belF n s k with
  | false => rfl
  | true => unfold belF at e; simp at e; exact absurd ⟨e.1, e.2.1, e.2.2⟩ h

/-- the turn is one, and the number not more than its size -/
def upF (n s k : Int) : Bool := tok n s && (decide (0 ≤ k) && decide (k ≤ n))

theorem upF_yes {n s k : Int} (h : tok n s = true) (h0 : 0 ≤ k) (h1 : k ≤ n) : upF n s k = true := by unfold upF; simp [h, h0, h1]

theorem upF_no {n s k : Int} (h : ¬ (tok n s = true ∧ 0 ≤ k ∧ k ≤ n)) : upF n s k = false := by
  cases e : upF n s k with
  | false => rfl
  | true => unfold upF at e; simp at e; exact absurd ⟨e.1, e.2.1, e.2.2⟩ h

end Go.Proofs.Ytckkgjgfjnfeoaa

set_option linter.unusedVariables false
namespace Go.Proofs.Ytckkgjgfjnfeoaa
open Go.ChangeShapes Go.WideShapes Go.ChangeAt Go.RowKit Go.Joins

theorem tdiv_mod_pos (a b : Int) (h : 0 ≤ a) : a.tmod b = a % b := Int.tmod_eq_emod_of_nonneg h

end Go.Proofs.Ytckkgjgfjnfeoaa
