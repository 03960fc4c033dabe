/- Rows of texts in memory: blocks, lists of the call's own, one text put behind. -/
import Derived.Test.YtejofckfnieolaaDoorDraw4
import Derived.Test.YtejofckfnieolaaDoorBal
set_option linter.unusedVariables false
namespace Go.Proofs.YtejofckfnieolaaDoor
open Go.ChangeShapes Go.WideShapes Go.ChangeAt Go.RowKit Go.Joins

theorem infoStr : (Tryd.prog.info? 9).map (fun i => (i.zero, i.size, i.bytes)) = some (some (.string ⟨#[]⟩), 1, 16) := by kernel_rfl

/-- block g holds the cells cur of texts -/
def RowS (w : World) (g : Nat) (cur : Array Value) : Prop := w.heap[g]? = some (.cells cur 9 (0, 0))

theorem RowS.cell {w : World} {g : Nat} {cur : Array Value} (h : RowS w g cur) (i : Nat) : w.cell? ⟨g, i, none⟩ = cur[i]? := by unfold RowS at h; simp [World.cell?, h]

theorem RowS.free {w : World} {g : Nat} {cur : Array Value} (h : RowS w g cur) (i : Nat) : w.frozen? ⟨g, i, none⟩ = false := by unfold RowS at h; simp [World.frozen?, h]

theorem RowS.lt {w : World} {g : Nat} {cur : Array Value} (h : RowS w g cur) : g < w.heap.size := by unfold RowS at h; exact (Array.getElem?_eq_some_iff.1 h).1

theorem RowS.below {w w' : World} {g B : Nat} {cur : Array Value} (h : RowS w g cur) (hb : Below B w w') (hg : g < B) : RowS w' g cur := by unfold RowS at *; rw [hb.block g hg]; exact h

theorem RowS.onlyR {w w' : World} {g r : Nat} {cur : Array Value} (h : RowS w g cur) (hb : OnlyR r w w') (hg : g ≠ r) : RowS w' g cur := by
  have := h.lt
  unfold RowS at *; rw [hb.block g this hg]; exact h

theorem RowS.new (w : World) (cur : Array Value) : RowS (w.alloc (.cells cur 9)) w.heap.size cur := by
  exact heap_alloc_new w _

theorem RowS.set {w : World} {g : Nat} {cur : Array Value} (h : RowS w g cur) (i : Nat) (v : Value) : RowS (w.setCell ⟨g, i, none⟩ v) g (cur.setIfInBounds i v) := by
  unfold RowS at *
  simp [World.setCell, Array.getElem?_modify, h]
end Go.Proofs.YtejofckfnieolaaDoor
