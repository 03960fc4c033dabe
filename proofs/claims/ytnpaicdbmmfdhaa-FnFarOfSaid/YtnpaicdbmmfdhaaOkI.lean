/- Contract of DigitsOk of the program. -/
import Derived.Test.YtnpaicdbmmfdhaaBasI
set_option linter.unusedVariables false
namespace Go.Proofs.Ytnpaicdbmmfdhaa

set_option maxRecDepth 4000
open Go.ChangeShapes Go.WideShapes Go.ChangeAt Go.RowKit Go.Joins

end Go.Proofs.Ytnpaicdbmmfdhaa
