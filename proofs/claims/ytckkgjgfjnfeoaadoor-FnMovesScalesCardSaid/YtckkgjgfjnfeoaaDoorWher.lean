/- Letters of a list: 1 for what is greater than a number; what a store leaves as it was. -/
import Derived.Test.YtckkgjgfjnfeoaaDoorOne
import Derived.Test.YtckkgjgfjnfeoaaDoorGList
set_option linter.unusedVariables false
namespace Go.Proofs.YtckkgjgfjnfeoaaDoor
set_option maxRecDepth 4000
open Go.ChangeShapes Go.WideShapes Go.ChangeAt Go.RowKit Go.Joins

theorem RowAt.away {w : World} {g G : Nat} {cur : Array Value} (h : RowAt w g cur) (hne : g ≠ G) (k : Nat) (v : Value) : RowAt (w.setCell ⟨G, k, none⟩ v) g cur := by
  have e : (w.setCell ⟨G, k, none⟩ v).heap[g]? = w.heap[g]? := Below.heap_setCell _ _ _ _ hne
  unfold RowAt at *
  rw [e]; exact h

theorem One.away {w : World} {g G : Nat} {x : Value} {T : TypeId} (h : One w g x T) (hne : g ≠ G) (k : Nat) (v : Value) : One (w.setCell ⟨G, k, none⟩ v) g x T := by
  have e : (w.setCell ⟨G, k, none⟩ v).heap[g]? = w.heap[g]? := Below.heap_setCell _ _ _ _ hne
  unfold One at *
  rw [e]; exact h


/-- the letters of a list: 1 for what is greater than h -/
def whereL (h : Int) (xs : List Int) : List Bool := xs.map fun x => decide (h < x)

theorem whereL_getD (h : Int) (xs : List Int) (i : Nat) (hi : i < xs.length) : (whereL h xs).getD i false = decide (h < xs.getD i 0) := by
  simp [whereL, List.getD_eq_getElem?_getD, hi]
end Go.Proofs.YtckkgjgfjnfeoaaDoor
