/- Contract of the model's ReadRuns. -/
import Derived.Test.YtckkgjgfjnfeoaaGreatDoorRunT
import Derived.Test.YtckkgjgfjnfeoaaGreatDoorReadF
set_option linter.unusedVariables false
namespace Go.Proofs.YtckkgjgfjnfeoaaGreatDoor
set_option maxRecDepth 4000

set_option maxRecDepth 4000
open Go.ChangeShapes Go.WideShapes Go.ChangeAt Go.RowKit Go.Joins

end Go.Proofs.YtckkgjgfjnfeoaaGreatDoor
