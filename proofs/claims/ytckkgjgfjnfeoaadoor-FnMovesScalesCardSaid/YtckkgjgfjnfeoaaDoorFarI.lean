/- Contracts of chapter 11's functions of the program. -/
import Derived.Test.YtckkgjgfjnfeoaaDoorGFar
import Derived.Test.YtckkgjgfjnfeoaaDoorSpreadG
import Derived.Test.YtckkgjgfjnfeoaaDoorGVisI
import Derived.Test.YtckkgjgfjnfeoaaDoorGKinds
import Derived.BigQuiet
import Derived.Deep.RegionHeld3
set_option linter.unusedVariables false
namespace Go.Proofs.YtckkgjgfjnfeoaaDoor
set_option maxRecDepth 4000

set_option maxRecDepth 4000
open Go.ChangeShapes Go.WideShapes Go.ChangeAt Go.RowKit Go.Joins

/-- a block of four cells: a watch -/
def Four (w : World) (r : Nat) (a b c d : Value) (T : TypeId) : Prop := w.heap[r]? = some (.cells #[a, b, c, d] T (0, 0))

theorem Four.cell0 {w : World} {r : Nat} {a b c d : Value} {T : TypeId} (h : Four w r a b c d T) : w.cell? ⟨r, 0, none⟩ = some a := by unfold Four at h; simp [World.cell?, h]

theorem Four.cell1 {w : World} {r : Nat} {a b c d : Value} {T : TypeId} (h : Four w r a b c d T) : w.cell? ⟨r, 1, none⟩ = some b := by unfold Four at h; simp [World.cell?, h]

theorem Four.cell2 {w : World} {r : Nat} {a b c d : Value} {T : TypeId} (h : Four w r a b c d T) : w.cell? ⟨r, 2, none⟩ = some c := by unfold Four at h; simp [World.cell?, h]

theorem Four.cell3 {w : World} {r : Nat} {a b c d : Value} {T : TypeId} (h : Four w r a b c d T) : w.cell? ⟨r, 3, none⟩ = some d := by unfold Four at h; simp [World.cell?, h]

theorem Four.lt {w : World} {r : Nat} {a b c d : Value} {T : TypeId} (h : Four w r a b c d T) : r < w.heap.size := by unfold Four at h; exact (Array.getElem?_eq_some_iff.1 h).1

theorem Four.new (w : World) (a b c d : Value) (T : TypeId) : Four (w.alloc (.cells #[a, b, c, d] T)) w.heap.size a b c d T := heap_alloc_new w _

theorem Four.below {w w' : World} {g B : Nat} {a b c d : Value} {T : TypeId} (h : Four w g a b c d T) (hb : Below B w w') (hg : g < B) : Four w' g a b c d T := by unfold Four at *; rw [hb.block g hg]; exact h

theorem Four.drewS {w : World} {g : Nat} {a b c d : Value} {T : TypeId} (h : Four w g a b c d T) : Four w.drew g a b c d T := h

end Go.Proofs.YtckkgjgfjnfeoaaDoor
