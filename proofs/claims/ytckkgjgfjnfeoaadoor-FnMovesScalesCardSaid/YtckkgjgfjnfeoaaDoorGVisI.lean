/- Contracts of chapter 6's functions of the model: visits and the excess. Contracts of chapter 6's functions of the program: visits. -/
import Derived.Test.YtckkgjgfjnfeoaaDoorGVis
import Derived.Test.YtckkgjgfjnfeoaaDoorGFun
import Derived.Test.YtckkgjgfjnfeoaaDoorOne
import Derived.BigQuiet
set_option linter.unusedVariables false
namespace Go.Proofs.YtckkgjgfjnfeoaaDoor
set_option maxRecDepth 4000
open Go.ChangeShapes Go.WideShapes Go.ChangeAt Go.RowKit Go.Joins

theorem visOf_cases (n s m u : Int) : (visF n s m 0 u < 0 ∧ visF n s m 0 u = -1 ∧ ¬ (tok n s = true ∧ 0 ≤ m ∧ m ≤ n ∧ 0 ≤ u ∧ u ≤ n)) ∨
    (0 ≤ visF n s m 0 u ∧ visF n s m 0 u = (visC n s 0 u m.toNat : Nat) ∧ tok n s = true ∧ 0 ≤ m ∧ m ≤ n ∧ 0 ≤ u ∧ u ≤ n ∧ visF n s m 0 u ≤ 60) := by
  by_cases h : tok n s = true ∧ 0 ≤ m ∧ m ≤ n ∧ 0 ≤ u ∧ u ≤ n
  · obtain ⟨ht, a, b, c, d⟩ := h
    have hb := tok_bd ht
    have e := visF_yes ht a b (Int.le_refl 0) (by omega) c d
    have := visC_le n s 0 u m.toNat
    exact .inr ⟨by omega, e, ht, a, b, c, d, by omega⟩
  · have e := visF_no (n := n) (s := s) (m := m) (f := 0) (w := u) (fun k => h ⟨k.1, k.2.1, k.2.2.1, k.2.2.2.2.2.1, k.2.2.2.2.2.2⟩)
    exact .inl ⟨by omega, e, h⟩

end Go.Proofs.YtckkgjgfjnfeoaaDoor

set_option linter.unusedVariables false
namespace Go.Proofs.YtckkgjgfjnfeoaaDoor
open Go.ChangeShapes Go.WideShapes Go.ChangeAt Go.RowKit Go.Joins

/-- three blocks: a turn and two numbers -/
theorem three_boxes (n s f u : Int) (w : World) : ∃ W, W = ((w.alloc (.cells #[.int .i64 n, .int .i64 s] 28)).alloc (.cells #[.int .i64 f] 3)).alloc (.cells #[.int .i64 u] 3) ∧
    Two W w.heap.size (.int .i64 n) (.int .i64 s) 28 ∧ One W (w.heap.size + 1) (.int .i64 f) 3 ∧ One W (w.heap.size + 1 + 1) (.int .i64 u) 3 ∧ Below w.heap.size w W := by
  refine ⟨_, rfl, ?_, ?_, ?_, ?_⟩
  · exact ((Two.new _ _ _ _).alloc _).alloc _
  · have h := (One.new (w.alloc (.cells #[.int .i64 n, .int .i64 s] 28)) (.int .i64 f) 3).alloc (.cells #[.int .i64 u] 3)
    have e : (w.alloc (.cells #[.int .i64 n, .int .i64 s] 28)).heap.size = w.heap.size + 1 := by simp
    rwa [e] at h
  · have h := One.new ((w.alloc (.cells #[.int .i64 n, .int .i64 s] 28)).alloc (.cells #[.int .i64 f] 3)) (.int .i64 u) 3
    have e : ((w.alloc (.cells #[.int .i64 n, .int .i64 s] 28)).alloc (.cells #[.int .i64 f] 3)).heap.size = w.heap.size + 1 + 1 := by simp
    rwa [e] at h
  · exact (by repeat (first | exact Below.refl _ _ | assumption | (refine Below.trans ?_ (Below.mono (by assumption) (by first | omega | (simp <;> omega)))) | (refine Below.alloc ?_ (by first | omega | (simp <;> omega)) _) | (refine below_drewN ?_ _) | (refine Below.drew ?_) | (refine Below.setCell ?_ (by first | omega | (simp <;> omega)) _)))

end Go.Proofs.YtckkgjgfjnfeoaaDoor
