/- Blocks of one cell; a turn and a number in boxes of their own. -/
import Derived.Test.YtckkgjgfjnfeoaaGreatDoorDraw
import Derived.BigQuiet
set_option linter.unusedVariables false
namespace Go.Proofs.YtckkgjgfjnfeoaaGreatDoor
set_option maxRecDepth 4000
open Go.ChangeShapes Go.WideShapes Go.ChangeAt Go.RowKit Go.Joins

/-- block r holds one cell -/
def One (w : World) (r : Nat) (x : Value) (T : TypeId) : Prop := w.heap[r]? = some (.cells #[x] T (0, 0))

theorem One.cell {w : World} {r : Nat} {x : Value} {T : TypeId} (h : One w r x T) : w.cell? ⟨r, 0, none⟩ = some x := by unfold One at h; simp [World.cell?, h]

theorem One.lt {w : World} {r : Nat} {x : Value} {T : TypeId} (h : One w r x T) : r < w.heap.size := by unfold One at h; exact (Array.getElem?_eq_some_iff.1 h).1

theorem One.new (w : World) (x : Value) (T : TypeId) : One (w.alloc (.cells #[x] T)) w.heap.size x T := heap_alloc_new w _

theorem One.alloc {w : World} {r : Nat} {x : Value} {T : TypeId} (h : One w r x T) (o : Obj) : One (w.alloc o) r x T := by
  have := h.lt
  unfold One at *
  rw [Below.heap_alloc _ _ _ this]; exact h

theorem One.below {w w' : World} {g B : Nat} {x : Value} {T : TypeId} (h : One w g x T) (hb : Below B w w') (hg : g < B) : One w' g x T := by unfold One at *; rw [hb.block g hg]; exact h

theorem Two.drewS {w : World} {b : Nat} {x y : Value} {T : TypeId} (h : Two w b x y T) : Two w.drew b x y T := h

theorem Below.drewS {N : Nat} {a w : World} (h : Below N a w) : Below N a w.drew := below_drewN h 1

theorem One.drewS {w : World} {b : Nat} {x : Value} {T : TypeId} (h : One w b x T) : One w.drew b x T := h

/-- two blocks: a turn and a number -/
theorem two_boxes (n s f : Int) (w : World) : ∃ W, W = (w.alloc (.cells #[.int .i64 n, .int .i64 s] 25)).alloc (.cells #[.int .i64 f] 3) ∧
    Two W w.heap.size (.int .i64 n) (.int .i64 s) 25 ∧ One W (w.heap.size + 1) (.int .i64 f) 3 ∧ Below w.heap.size w W := by
  refine ⟨_, rfl, ?_, ?_, ?_⟩
  · exact (Two.new _ _ _ _).alloc _
  · have h := One.new (w.alloc (.cells #[.int .i64 n, .int .i64 s] 25)) (.int .i64 f) 3
    have e : (w.alloc (.cells #[.int .i64 n, .int .i64 s] 25)).heap.size = w.heap.size + 1 := by simp
    rwa [e] at h
  · exact (by repeat (first | exact Below.refl _ _ | assumption | (refine Below.trans ?_ (Below.mono (by assumption) (by first | omega | (simp <;> omega)))) | (refine Below.alloc ?_ (by first | omega | (simp <;> omega)) _) | (refine below_drewN ?_ _) | (refine Below.drew ?_) | (refine Below.setCell ?_ (by first | omega | (simp <;> omega)) _)))

end Go.Proofs.YtckkgjgfjnfeoaaGreatDoor
