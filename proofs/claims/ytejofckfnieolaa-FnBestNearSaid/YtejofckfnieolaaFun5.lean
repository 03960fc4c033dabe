/- Contracts of BothSteps, of the program and of the model. -/
import Derived.Test.YtejofckfnieolaaFun4
set_option linter.unusedVariables false
namespace Go.Proofs.Ytejofckfnieolaa
open Go.ChangeShapes Go.WideShapes Go.ChangeAt Go.RowKit Go.Joins

def bothT (n s m r : Int) : (Int × Int) × Bool := if tok n s = true ∧ tok m r = true ∧ n = m then ((n, s * r % n), true) else ((0, 0), false)

theorem bothT_yes {n s r : Int} (h : tok n s = true) (h' : tok n r = true) : bothT n s n r = ((n, s * r % n), true) := if_pos ⟨h, h', rfl⟩

theorem bothT_no {n s m r : Int} (h : ¬ (tok n s = true ∧ tok m r = true ∧ n = m)) : bothT n s m r = ((0, 0), false) := if_neg h

end Go.Proofs.Ytejofckfnieolaa
