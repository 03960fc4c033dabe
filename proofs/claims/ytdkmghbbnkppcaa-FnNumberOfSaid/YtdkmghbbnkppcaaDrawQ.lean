/- Contract of DrawFromQuotients. -/
import Derived.Test.YtdkmghbbnkppcaaGDraw
import Derived.Test.YtdkmghbbnkppcaaGQuot
set_option linter.unusedVariables false
namespace Go.Proofs.Ytdkmghbbnkppcaa

set_option maxRecDepth 4000
open Go.ChangeShapes Go.WideShapes Go.ChangeAt Go.RowKit Go.Joins

theorem OwnL.onlyR {w w' : World} {b r : Nat} {v : Value} {xs : List Int} (h : OwnL w b v xs) (ho : OnlyR r w w') (hr : r < b) : OwnL w' b v xs := by
  refine World.ownsRow.kept h (row := some r) ⟨ho.os, ho.tape, ho.output, ho.size, fun k hk hne => ho.block k hk (fun e => hne (by rw [e]))⟩ ?_
  cases e : v.ownBlock with
  | none => exact .inl rfl
  | some g =>
    right
    have := (World.ownsRow.lt h g e).1
    intro e2
    simp at e2
    omega

theorem count_bd (v1 v2 : Int) (h1 : 0 ≤ v1) (h2 : v1 < 5 ∨ v1 = 0) (h4 : 0 ≤ v2) (h5 : v2 < 30 ∨ v2 = 0) :
    0 ≤ IntKind.i64.wrap (v1 + IntKind.i64.wrap (IntKind.i64.wrap (v2.tdiv 29) * 6)) ∧ IntKind.i64.wrap (v1 + IntKind.i64.wrap (IntKind.i64.wrap (v2.tdiv 29) * 6)) ≤ 10 := by
  rw [Int.tdiv_eq_ediv_of_nonneg h4]
  rw [IntWalk.i64_in (v2 / 29) (by omega), IntWalk.i64_in (v2 / 29 * 6) (by omega), IntWalk.i64_in (v1 + v2 / 29 * 6) (by omega)]
  omega

def DQPost (w : World) (e : Ending) (w' : World) : Prop := ∃ v xs, e = .returned v ∧ OwnL w' w.heap.size v xs ∧ xs.length ≤ 60 ∧ Below w.heap.size w w'

end Go.Proofs.Ytdkmghbbnkppcaa
