/- Contract of hasInt. -/
import Derived.Test.YtckkgjgfjnfeoaaDoorList
set_option linter.unusedVariables false
namespace Go.Proofs.YtckkgjgfjnfeoaaDoor
set_option maxRecDepth 4000
open Go.ChangeShapes Go.WideShapes Go.ChangeAt Go.RowKit Go.Joins

end Go.Proofs.YtckkgjgfjnfeoaaDoor
