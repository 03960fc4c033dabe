/- Contract of OrderOf of the model. -/
import Derived.Test.YtnplfgphpinoiabOrdI
import Derived.Test.YtnplfgphpinoiabSorted
set_option linter.unusedVariables false
namespace Go.Proofs.Ytnplfgphpinoiab
open Go.ChangeShapes Go.WideShapes Go.ChangeAt Go.RowKit Go.Joins N

theorem ordT_put {n s : Int} (ht : tok n s = true) {m : Nat} (hm : (m : Int) < n) :
    ordT n s (m + 1) = (ordT n s m).take (lessT n s (pt n s m) m) ++ (m : Int) :: (ordT n s m).drop (lessT n s (pt n s m) m) := by
  have e : timeF n s (pt n s m) = m := timeF_of ht (by omega) (by omega) rfl
  unfold ordT
  rw [srt_more (turns_of ht) hm, List.map_append, List.map_cons, e, List.map_take, List.map_drop]

end Go.Proofs.Ytnplfgphpinoiab
