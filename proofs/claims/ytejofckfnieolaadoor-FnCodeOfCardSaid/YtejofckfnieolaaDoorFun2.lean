/- Contracts of the functions of chapter 1, continued: the opposite step, and times. -/
import Derived.Test.YtejofckfnieolaaDoorFun1
set_option linter.unusedVariables false
namespace Go.Proofs.YtejofckfnieolaaDoor
open Go.ChangeShapes Go.WideShapes Go.ChangeAt Go.RowKit Go.Joins

theorem tdiv_mod_pos (a b : Int) (h : 0 ≤ a) : a.tmod b = a % b := Int.tmod_eq_emod_of_nonneg h

end Go.Proofs.YtejofckfnieolaaDoor
