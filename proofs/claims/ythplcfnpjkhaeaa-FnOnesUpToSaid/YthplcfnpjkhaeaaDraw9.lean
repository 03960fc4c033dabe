/- Contracts of the plain Draw functions of the later chapters. -/
import Derived.Test.YthplcfnpjkhaeaaDraw4
set_option linter.unusedVariables false
namespace Go.Proofs.Ythplcfnpjkhaeaa
open Go.ChangeShapes Go.WideShapes Go.ChangeAt Go.RowKit Go.Joins

end Go.Proofs.Ythplcfnpjkhaeaa
