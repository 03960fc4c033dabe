/- Contracts of the plain Draw functions of the later chapters. -/
import Derived.Test.YtnplfgphpinoiaaDoorDraw4
set_option linter.unusedVariables false
namespace Go.Proofs.YtnplfgphpinoiaaDoor
open Go.ChangeShapes Go.WideShapes Go.ChangeAt Go.RowKit Go.Joins

end Go.Proofs.YtnplfgphpinoiaaDoor
