/- Contracts of the plain Draw functions of the later chapters. -/
import Derived.Test.YtejofckfnieolaaDoorDraw4
set_option linter.unusedVariables false
namespace Go.Proofs.YtejofckfnieolaaDoor
open Go.ChangeShapes Go.WideShapes Go.ChangeAt Go.RowKit Go.Joins

end Go.Proofs.YtejofckfnieolaaDoor
