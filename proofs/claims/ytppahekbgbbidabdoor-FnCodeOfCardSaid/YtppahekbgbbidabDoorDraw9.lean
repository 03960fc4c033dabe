/- Contracts of the plain Draw functions of the later chapters. -/
import Derived.Test.YtppahekbgbbidabDoorGDraw
set_option linter.unusedVariables false
namespace Go.Proofs.YtppahekbgbbidabDoor
open Go.ChangeShapes Go.WideShapes Go.ChangeAt Go.RowKit Go.Joins

end Go.Proofs.YtppahekbgbbidabDoor
