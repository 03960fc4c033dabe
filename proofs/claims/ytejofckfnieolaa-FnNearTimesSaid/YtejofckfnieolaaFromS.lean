/- Contract of FromQuotients of the model. -/
import Derived.Test.YtejofckfnieolaaQuot3
set_option linter.unusedVariables false
set_option linter.unusedSimpArgs false
namespace Go.Proofs.Ytejofckfnieolaa

set_option maxRecDepth 4000
open Go.ChangeShapes Go.WideShapes Go.ChangeAt Go.RowKit Go.Joins

def FromPost (xs : List Int) (w : World) (e : Ending) (w' : World) : Prop := e = .returned (.tuple #[(.agg #[.int .i64 ((fromF xs).1.1), .int .i64 ((fromF xs).1.2)]), .bool (fromF xs).2]) ∧ Below w.heap.size w w'

theorem from_post {xs : List Int} {a b : Int} {c : Bool} {w w' : World} (h : fromF xs = ((a, b), c)) (hB : Below w.heap.size w w') : FromPost xs w (.returned (.tuple #[(.agg #[.int .i64 (a), .int .i64 (b)]), .bool c])) w' := ⟨by rw [h], hB⟩

theorem fromF_out {L : List Int} (h : ¬ (1 ≤ L.length ∧ L.length ≤ 8 ∧ 2 ≤ L.getD (L.length - 1) 0)) : fromF L = ((0, 0), false) := if_neg h

theorem fromF_none {L : List Int} (h : fqO L = none) : fromF L = ((0, 0), false) := by
  unfold fromF
  split
  · rw [h]
  · rfl

theorem fromF_tok {L : List Int} {a b : Nat} (h : 1 ≤ L.length ∧ L.length ≤ 8 ∧ 2 ≤ L.getD (L.length - 1) 0) (hf : fqO L = some (a, b)) (ht : tok (a : Int) (b : Int) = true) : fromF L = (((a : Int), (b : Int)), true) := by
  unfold fromF
  rw [if_pos h, hf]
  simp only
  rw [if_pos ht]

theorem fromF_not {L : List Int} {a b : Nat} (hf : fqO L = some (a, b)) (ht : ¬ tok (a : Int) (b : Int) = true) : fromF L = ((0, 0), false) := by
  unfold fromF
  split
  · rw [hf]
    simp only
    rw [if_neg ht]
  · rfl

end Go.Proofs.Ytejofckfnieolaa
