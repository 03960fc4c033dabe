/- Contracts of DrawTurnOfCode, DrawOnesUpTo and DrawPartsOf. -/
import Derived.Test.YtejofckfnieolaaDoorDrawC
import Derived.Deep.Cut
set_option linter.unusedVariables false
namespace Go.Proofs.YtejofckfnieolaaDoor

set_option maxRecDepth 4000
open Go.ChangeShapes Go.WideShapes Go.ChangeAt Go.RowKit Go.Joins

/-- a turn and a number come back -/
def DTJPost (w : World) (e : Ending) (w' : World) : Prop :=
  ∃ (n s k : Int), e = .returned (.tuple #[(.agg #[.int .i64 (n), .int .i64 (s)]), .int .i64 k]) ∧ -2 ≤ n ∧ n ≤ 100 ∧ -2 ≤ s ∧ s ≤ 100 ∧ -3000 ≤ k ∧ k ≤ 3000 ∧ Below w.heap.size w w'

/-- a text of at most 100 bytes comes back -/
def DSPost (w : World) (e : Ending) (w' : World) : Prop := ∃ u : ByteArray, e = .returned (.string u) ∧ u.size ≤ 100 ∧ Below w.heap.size w w'

end Go.Proofs.YtejofckfnieolaaDoor
