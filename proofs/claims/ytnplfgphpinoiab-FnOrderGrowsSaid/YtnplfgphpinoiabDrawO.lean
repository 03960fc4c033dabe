/- Contracts of DrawOrderBy, DrawTurnedPairs and DrawPlaceIn. -/
import Derived.Test.YtnplfgphpinoiabDraw6
import Derived.Test.YtnplfgphpinoiabDraw9
import Derived.Test.YtnplfgphpinoiabOrdS
import Derived.Test.YtnplfgphpinoiabNear4
set_option linter.unusedVariables false
namespace Go.Proofs.Ytnplfgphpinoiab

set_option maxRecDepth 4000
open Go.ChangeShapes Go.WideShapes Go.ChangeAt Go.RowKit Go.Joins

theorem ownL_onlyR {w w' : World} {b r : Nat} {v : Value} {xs : List Int} (h : OwnL w b v xs) (ho : OnlyR r w w') (hr : r < b) : OwnL w' b v xs := by
  refine World.ownsRow.kept h (row := some r) ⟨ho.os, ho.tape, ho.output, ho.size, fun k hk hne => ho.block k hk (fun e => hne (by rw [e]))⟩ ?_
  cases e : v.ownBlock with
  | none => exact .inl rfl
  | some g =>
    right
    have := (World.ownsRow.lt h g e).1
    intro e2
    simp at e2
    omega

/-- three numbers come back -/
def D3Post (w : World) (e : Ending) (w' : World) : Prop := ∃ m u d : Int, e = .returned (.tuple #[.int .i64 m, .int .i64 u, .int .i64 d]) ∧ Below w.heap.size w w'

/-- a list of at most 70 numbers of the call's own comes back -/
def DLPost (w : World) (e : Ending) (w' : World) : Prop := ∃ v xs, e = .returned v ∧ OwnL w' w.heap.size v xs ∧ xs.length ≤ 70 ∧ Below w.heap.size w w'

end Go.Proofs.Ytnplfgphpinoiab
