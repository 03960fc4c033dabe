/- Contracts of chapter 13's functions of the model: the moves of a turn. -/
import Derived.Test.YtckkgjgfjnfeoaaGreatDoorMovS
set_option linter.unusedVariables false
namespace Go.Proofs.YtckkgjgfjnfeoaaGreatDoor
set_option maxRecDepth 4000

set_option maxRecDepth 4000
open Go.ChangeShapes Go.WideShapes Go.ChangeAt Go.RowKit Go.Joins

theorem byte_app (u : List Bool) (b : Bool) : txtM u ++ (⟨#[byteM b]⟩ : ByteArray) = txtM (u ++ [b]) := by
  rw [← txtM_append]; rfl

end Go.Proofs.YtckkgjgfjnfeoaaGreatDoor
