/- Contracts of l20Many and DrawFirstPoints. -/
import Derived.Test.YtejofckfnieolaaDoorDraw3
set_option linter.unusedVariables false
namespace Go.Proofs.YtejofckfnieolaaDoor
open Go.ChangeShapes Go.WideShapes Go.ChangeAt Go.RowKit Go.Joins

theorem many_bound (v1 v2 v3 m : Int) (h1 : 0 ≤ v1) (h2 : v1 < m ∨ v1 = 0) (h3 : m ≤ 1000) (h4 : 0 ≤ v2) (h5 : v2 < 30 ∨ v2 = 0) (h6 : 0 ≤ v3) (h7 : v3 < 40 ∨ v3 = 0) :
    -2000 ≤ IntKind.i64.wrap (IntKind.i64.wrap (IntKind.i64.wrap (1 + v1) + IntKind.i64.wrap (IntKind.i64.wrap (v2.tdiv 29) * 60)) - IntKind.i64.wrap (IntKind.i64.wrap (v3.tdiv 39) * 61)) ∧
    IntKind.i64.wrap (IntKind.i64.wrap (IntKind.i64.wrap (1 + v1) + IntKind.i64.wrap (IntKind.i64.wrap (v2.tdiv 29) * 60)) - IntKind.i64.wrap (IntKind.i64.wrap (v3.tdiv 39) * 61)) ≤ 2000 := by
  rw [Int.tdiv_eq_ediv_of_nonneg h4, Int.tdiv_eq_ediv_of_nonneg h6]
  rw [IntWalk.i64_in (v2 / 29) (by omega), IntWalk.i64_in (v3 / 39) (by omega), IntWalk.i64_in (v2 / 29 * 60) (by omega), IntWalk.i64_in (v3 / 39 * 61) (by omega), IntWalk.i64_in (1 + v1) (by omega), IntWalk.i64_in (1 + v1 + v2 / 29 * 60) (by omega), IntWalk.i64_in _ (by omega)]
  omega

end Go.Proofs.YtejofckfnieolaaDoor
