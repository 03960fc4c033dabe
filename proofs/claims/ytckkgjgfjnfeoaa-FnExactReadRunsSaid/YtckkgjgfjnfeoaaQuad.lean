/- Blocks of four cells. -/
import Derived.Test.YtckkgjgfjnfeoaaOne
set_option linter.unusedVariables false
namespace Go.Proofs.Ytckkgjgfjnfeoaa
set_option maxRecDepth 4000
open Go.ChangeShapes Go.WideShapes Go.ChangeAt Go.RowKit Go.Joins

def Quad (w : World) (r : Nat) (x y z u : Value) (T : TypeId) : Prop := w.heap[r]? = some (.cells #[x, y, z, u] T (0, 0))

theorem Quad.cell0 {w : World} {r : Nat} {x y z u : Value} {T : TypeId} (h : Quad w r x y z u T) : w.cell? ⟨r, 0, none⟩ = some x := by unfold Quad at h; simp [World.cell?, h]

theorem Quad.cell1 {w : World} {r : Nat} {x y z u : Value} {T : TypeId} (h : Quad w r x y z u T) : w.cell? ⟨r, 1, none⟩ = some y := by unfold Quad at h; simp [World.cell?, h]

theorem Quad.cell2 {w : World} {r : Nat} {x y z u : Value} {T : TypeId} (h : Quad w r x y z u T) : w.cell? ⟨r, 2, none⟩ = some z := by unfold Quad at h; simp [World.cell?, h]

theorem Quad.cell3 {w : World} {r : Nat} {x y z u : Value} {T : TypeId} (h : Quad w r x y z u T) : w.cell? ⟨r, 3, none⟩ = some u := by unfold Quad at h; simp [World.cell?, h]

theorem Quad.free {w : World} {r : Nat} {x y z u : Value} {T : TypeId} (h : Quad w r x y z u T) (o : Nat) : w.frozen? ⟨r, o, none⟩ = false := by unfold Quad at h; simp [World.frozen?, h]

theorem Quad.lt {w : World} {r : Nat} {x y z u : Value} {T : TypeId} (h : Quad w r x y z u T) : r < w.heap.size := by unfold Quad at h; exact (Array.getElem?_eq_some_iff.1 h).1

theorem Quad.new (w : World) (x y z u : Value) (T : TypeId) : Quad (w.alloc (.cells #[x, y, z, u] T)) w.heap.size x y z u T := heap_alloc_new w _

theorem Quad.below {w w' : World} {g B : Nat} {x y z u : Value} {T : TypeId} (h : Quad w g x y z u T) (hb : Below B w w') (hg : g < B) : Quad w' g x y z u T := by unfold Quad at *; rw [hb.block g hg]; exact h

theorem Quad.drewS {w : World} {g : Nat} {x y z u : Value} {T : TypeId} (h : Quad w g x y z u T) : Quad w.drew g x y z u T := h

theorem Quad.alloc {w : World} {g : Nat} {x y z u : Value} {T : TypeId} (h : Quad w g x y z u T) (o : Obj) : Quad (w.alloc o) g x y z u T := by unfold Quad at *; rw [Below.heap_alloc _ _ _ (Array.getElem?_eq_some_iff.1 h).1]; exact h

theorem Quad.set0 {w : World} {r : Nat} {x y z u : Value} {T : TypeId} (h : Quad w r x y z u T) (v : Value) : Quad (w.setCell ⟨r, 0, none⟩ v) r v y z u T := by unfold Quad at *; simp [World.setCell, Array.getElem?_modify, h]

theorem Quad.set1 {w : World} {r : Nat} {x y z u : Value} {T : TypeId} (h : Quad w r x y z u T) (v : Value) : Quad (w.setCell ⟨r, 1, none⟩ v) r x v z u T := by unfold Quad at *; simp [World.setCell, Array.getElem?_modify, h]

theorem Quad.set2 {w : World} {r : Nat} {x y z u : Value} {T : TypeId} (h : Quad w r x y z u T) (v : Value) : Quad (w.setCell ⟨r, 2, none⟩ v) r x y v u T := by unfold Quad at *; simp [World.setCell, Array.getElem?_modify, h]

theorem Quad.set3 {w : World} {r : Nat} {x y z u : Value} {T : TypeId} (h : Quad w r x y z u T) (v : Value) : Quad (w.setCell ⟨r, 3, none⟩ v) r x y z v T := by unfold Quad at *; simp [World.setCell, Array.getElem?_modify, h]

theorem Quad.away {w : World} {r b : Nat} {x y z u : Value} {T : TypeId} (h : Quad w r x y z u T) (hb : b ≠ r) (o : Nat) (v : Value) : Quad (w.setCell ⟨b, o, none⟩ v) r x y z u T := by unfold Quad at *; rw [Below.heap_setCell _ _ _ _ (by show r ≠ b; omega)]; exact h
end Go.Proofs.Ytckkgjgfjnfeoaa
