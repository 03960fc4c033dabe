/- Contract of NumberOf of the program: a sum over a closure of two lists. -/
import Derived.Test.YtnpaicdbmmfdhaaOkI
import Derived.Test.YtnpaicdbmmfdhaaOne
import Derived.BigQuiet
set_option linter.unusedVariables false
namespace Go.Proofs.Ytnpaicdbmmfdhaa

set_option maxRecDepth 4000
open Go.ChangeShapes Go.WideShapes Go.ChangeAt Go.RowKit Go.Joins

/-- two blocks: a turn and a list -/
theorem two_boxesL (n s : Int) (v : Value) (w : World) : ∃ W, W = (w.alloc (.cells #[.int .i64 n, .int .i64 s] 24)).alloc (.cells #[v] 30) ∧
    Two W w.heap.size (.int .i64 n) (.int .i64 s) 24 ∧ One W (w.heap.size + 1) v 30 ∧ Below w.heap.size w W := by
  refine ⟨_, rfl, ?_, ?_, ?_⟩
  · exact (Two.new _ _ _ _).alloc _
  · have h := One.new (w.alloc (.cells #[.int .i64 n, .int .i64 s] 24)) v 30
    have e : (w.alloc (.cells #[.int .i64 n, .int .i64 s] 24)).heap.size = w.heap.size + 1 := by simp
    rwa [e] at h
  · exact (by repeat (first | exact Below.refl _ _ | assumption | (refine Below.trans ?_ (Below.mono (by assumption) (by first | omega | (simp <;> omega)))) | (refine Below.alloc ?_ (by first | omega | (simp <;> omega)) _) | (refine below_drewN ?_ _) | (refine Below.drew ?_) | (refine Below.setCell ?_ (by first | omega | (simp <;> omega)) _)))

end Go.Proofs.Ytnpaicdbmmfdhaa
