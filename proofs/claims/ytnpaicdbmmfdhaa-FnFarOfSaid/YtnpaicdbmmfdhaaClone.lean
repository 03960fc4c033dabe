/- Contract of slices.Clone. -/
import Derived.Test.YtnpaicdbmmfdhaaGList
import Derived.Lib.SliceRun
set_option linter.unusedVariables false
namespace Go.Proofs.Ytnpaicdbmmfdhaa

set_option maxRecDepth 4000
open Go.ChangeShapes Go.WideShapes Go.ChangeAt Go.RowKit Go.Joins

end Go.Proofs.Ytnpaicdbmmfdhaa
