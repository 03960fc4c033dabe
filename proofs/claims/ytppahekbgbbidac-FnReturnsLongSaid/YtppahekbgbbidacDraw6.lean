/- Contract of DrawNextAfter. -/
import Derived.Test.YtppahekbgbbidacGDraw
set_option linter.unusedVariables false
namespace Go.Proofs.Ytppahekbgbbidac
open Go.ChangeShapes Go.WideShapes Go.ChangeAt Go.RowKit Go.Joins

def DTIIPost (w : World) (e : Ending) (w' : World) : Prop :=
  ∃ (n s k i : Int), e = .returned (.tuple #[(.agg #[.int .i64 (n), .int .i64 (s)]), .int .i64 k, .int .i64 i]) ∧ -2 ≤ n ∧ n ≤ 100 ∧ -2 ≤ s ∧ s ≤ 100 ∧ -2000 ≤ k ∧ k ≤ 2000 ∧ -2000 ≤ i ∧ i ≤ 2000 ∧ Below w.heap.size w w'

theorem next_bound (v1 v2 v3 m : Int) (h1 : 0 ≤ v1) (h2 : v1 < m ∨ v1 = 0) (h3 : m ≤ 1000) (h4 : 0 ≤ v2) (h5 : v2 < 20 ∨ v2 = 0) (h6 : 0 ≤ v3) (h7 : v3 < 30 ∨ v3 = 0) :
    -2000 ≤ IntKind.i64.wrap (IntKind.i64.wrap (v1 + IntKind.i64.wrap (v2.tdiv 19)) - IntKind.i64.wrap (IntKind.i64.wrap (v3.tdiv 29) * 2)) ∧
    IntKind.i64.wrap (IntKind.i64.wrap (v1 + IntKind.i64.wrap (v2.tdiv 19)) - IntKind.i64.wrap (IntKind.i64.wrap (v3.tdiv 29) * 2)) ≤ 2000 := by
  rw [Int.tdiv_eq_ediv_of_nonneg h4, Int.tdiv_eq_ediv_of_nonneg h6]
  rw [IntWalk.i64_in (v2 / 19) (by omega), IntWalk.i64_in (v3 / 29) (by omega), IntWalk.i64_in (v3 / 29 * 2) (by omega), IntWalk.i64_in (v1 + v2 / 19) (by omega), IntWalk.i64_in _ (by omega)]
  omega

end Go.Proofs.Ytppahekbgbbidac
