/- Lists of integers in memory: what a slice reads as; the contracts of sameInts and eqIntS. -/
import Derived.Test.YtokmmbmkfpfmgaaDraw
set_option linter.unusedVariables false
namespace Go.Proofs.Ytokmmbmkfpfmgaa
set_option maxRecDepth 4000
open Go.ChangeShapes Go.WideShapes Go.ChangeAt Go.RowKit Go.Joins

/-- the slice v reads as the list xs -/
def Reads (w : World) (v : Value) (xs : List Int) : Prop :=
  ∃ a cap, v = .slice a xs.length cap ∧ (xs ≠ [] → ∃ g off, a = some ⟨g, off, none⟩ ∧ ∀ i, i < xs.length → w.cell? ⟨g, off + i, none⟩ = some (.int .i64 (xs.getD i 0)))

/-- the slice v is the call's own, in a block from b on, and reads as xs -/
def OwnL (w : World) (b : Nat) (v : Value) (xs : List Int) : Prop := w.ownsRow b 3 1 v xs.length (xs.map (Value.int .i64))

theorem OwnL.reads {w : World} {b : Nat} {v : Value} {xs : List Int} (h : OwnL w b v xs) : Reads w v xs := by
  obtain ⟨_, h⟩ := h
  rcases h with ⟨rfl, h0⟩ | ⟨g, cap, cur, rfl, hb, hg, hn, hm, hs, ht⟩
  · have : xs = [] := List.length_eq_zero_iff.1 h0
    subst this
    exact ⟨none, 0, rfl, fun h => (h rfl).elim⟩
  · refine ⟨some ⟨g, 0, none⟩, cap, rfl, fun _ => ⟨g, 0, rfl, fun i hi => ?_⟩⟩
    have e : (cur.toList.take (xs.length * 1))[i]? = (xs.map (Value.int .i64))[i]? := by rw [ht]
    rw [Nat.mul_one, List.getElem?_take_of_lt hi] at e
    simp [World.cell?, hg]
    have e2 : cur[i]? = cur.toList[i]? := by simp
    rw [e2, e, List.getElem?_map, List.getElem?_eq_getElem hi]
    simp

theorem Reads.below {w w' : World} {v : Value} {xs : List Int} (h : Reads w v xs) (hb : Below w.heap.size w w') : Reads w' v xs := by
  obtain ⟨a, cap, h1, h2⟩ := h
  refine ⟨a, cap, h1, fun hx => ?_⟩
  obtain ⟨g, off, h3, h4⟩ := h2 hx
  exact ⟨g, off, h3, fun i hi => (hb.cell (p := ⟨g, off + i, none⟩) (World.block_lt_of_cell? w _ (h4 i hi))).trans (h4 i hi)⟩

theorem take_next (xs ys : List Int) (k : Nat) (h : xs.take k = ys.take k) (hx : k < xs.length) (hy : k < ys.length) (e : xs.getD k 0 = ys.getD k 0) : xs.take (k + 1) = ys.take (k + 1) := by
  rw [List.take_succ_eq_append_getElem hx, List.take_succ_eq_append_getElem hy, h]
  rw [List.getD_eq_getElem?_getD, List.getD_eq_getElem?_getD, List.getElem?_eq_getElem hx, List.getElem?_eq_getElem hy] at e
  simp at e
  rw [e]

end Go.Proofs.Ytokmmbmkfpfmgaa
