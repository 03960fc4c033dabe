/- Contract of FirstPoints of the model. -/
import Derived.Test.YtejofckfnieolaaFirst
set_option linter.unusedVariables false
namespace Go.Proofs.Ytejofckfnieolaa
open Go.ChangeShapes Go.WideShapes Go.ChangeAt Go.RowKit Go.Joins

theorem OwnL.below {w w' : World} {b : Nat} {v : Value} {xs : List Int} (h : OwnL w b v xs) (hb : Below w.heap.size w w') : OwnL w' b v xs :=
  World.ownsRow.kept h (row := none) ⟨hb.os, hb.tape, hb.output, hb.size, fun k hk _ => hb.block k hk⟩ (by cases v.ownBlock <;> simp)

theorem OwnL.mono {w : World} {b b' : Nat} {v : Value} {xs : List Int} (h : OwnL w b v xs) (hb : b' ≤ b) : OwnL w b' v xs := by
  obtain ⟨h1, h2⟩ := h
  refine ⟨h1, ?_⟩
  rcases h2 with h2 | ⟨g, cap, cur, a1, a2, a3⟩
  · exact .inl h2
  · exact .inr ⟨g, cap, cur, a1, Nat.le_trans hb a2, a3⟩

end Go.Proofs.Ytejofckfnieolaa
