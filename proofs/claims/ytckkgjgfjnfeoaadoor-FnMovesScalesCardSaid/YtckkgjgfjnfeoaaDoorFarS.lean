/- Contracts of chapter 11's functions of the model. -/
import Derived.Test.YtckkgjgfjnfeoaaDoorGFar
import Derived.Test.YtckkgjgfjnfeoaaDoorSpreadG
import Derived.Test.YtckkgjgfjnfeoaaDoorGVisI
import Derived.BigQuiet
import Derived.Deep.RegionHeld3
set_option linter.unusedVariables false
namespace Go.Proofs.YtckkgjgfjnfeoaaDoor
set_option maxRecDepth 4000

set_option maxRecDepth 4000
open Go.ChangeShapes Go.WideShapes Go.ChangeAt Go.RowKit Go.Joins

theorem maxI_hi {f : Nat → Int} {B : Int} (h0 : 0 ≤ B) (k : Nat) (h : ∀ j, j < k → f j ≤ B ∧ -B ≤ f j) : maxI f k ≤ B := maxI_le h0 k h

end Go.Proofs.YtckkgjgfjnfeoaaDoor
