/- Contracts of the Draw functions of chapter 1: each gives some value in bounds, and changes nothing that was there. -/
import Derived.Test.YtkhnnbgmckeoaaaDraw2
set_option linter.unusedVariables false
namespace Go.Proofs.Ytkhnnbgmckeoaaa
open Go.ChangeShapes Go.WideShapes Go.ChangeAt Go.RowKit Go.Joins

def DTPost (w : World) (e : Ending) (w' : World) : Prop :=
  ∃ (n s : Int), e = .returned (.agg #[.int .i64 (n), .int .i64 (s)]) ∧ -2 ≤ n ∧ n ≤ 100 ∧ -2 ≤ s ∧ s ≤ 100 ∧ Below w.heap.size w w'

def DTIPost (w : World) (e : Ending) (w' : World) : Prop :=
  ∃ (n s k : Int), e = .returned (.tuple #[(.agg #[.int .i64 (n), .int .i64 (s)]), .int .i64 k]) ∧ -2 ≤ n ∧ n ≤ 100 ∧ -2 ≤ s ∧ s ≤ 100 ∧ -2000 ≤ k ∧ k ≤ 2000 ∧ Below w.heap.size w w'

end Go.Proofs.Ytkhnnbgmckeoaaa
