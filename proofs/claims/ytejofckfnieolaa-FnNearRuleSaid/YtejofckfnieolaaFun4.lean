/- Contracts of OppositeOf and of BothSteps, of the program and of the model; and of eqTurn. -/
import Derived.Test.YtejofckfnieolaaFun3
set_option linter.unusedVariables false
namespace Go.Proofs.Ytejofckfnieolaa
open Go.ChangeShapes Go.WideShapes Go.ChangeAt Go.RowKit Go.Joins

set_option maxHeartbeats 1000000 in
theorem eqTurn_any (n s m r : Int) (w : World) :
    Calls Try.prog 40 #[(.agg #[.int .i64 (n), .int .i64 (s)]), (.agg #[.int .i64 (m), .int .i64 (r)])] w fun e w' => e = .returned (.bool (decide (n = m ∧ s = r))) ∧ Below w.heap.size w w' := by
  by_cases h1 : n = m
  · subst h1
    by_cases h2 : s = r
    · subst h2
      go_enter Try.func40, Try.ntmps40
      go_wp2
      go_ret
      exact ⟨ret_bool (by simp), (by repeat (first | exact Below.refl _ _ | assumption | (refine Below.trans ?_ (Below.mono (by assumption) (by first | omega | (simp <;> omega)))) | (refine Below.alloc ?_ (by first | omega | (simp <;> omega)) _) | (refine below_drewN ?_ _) | (refine Below.drew ?_) | (refine Below.setCell ?_ (by first | omega | (simp <;> omega)) _)))⟩
    · have h2' : (s != r) = true := by rw [bne_iff_ne]; exact h2
      go_enter Try.func40, Try.ntmps40
      go_wp2
      go_ret
      exact ⟨ret_bool (by simp [h2]), (by repeat (first | exact Below.refl _ _ | assumption | (refine Below.trans ?_ (Below.mono (by assumption) (by first | omega | (simp <;> omega)))) | (refine Below.alloc ?_ (by first | omega | (simp <;> omega)) _) | (refine below_drewN ?_ _) | (refine Below.drew ?_) | (refine Below.setCell ?_ (by first | omega | (simp <;> omega)) _)))⟩
  · have h1' : (n != m) = true := by rw [bne_iff_ne]; exact h1
    go_enter Try.func40, Try.ntmps40
    go_wp2
    go_ret
    exact ⟨ret_bool (by simp [h1]), (by repeat (first | exact Below.refl _ _ | assumption | (refine Below.trans ?_ (Below.mono (by assumption) (by first | omega | (simp <;> omega)))) | (refine Below.alloc ?_ (by first | omega | (simp <;> omega)) _) | (refine below_drewN ?_ _) | (refine Below.drew ?_) | (refine Below.setCell ?_ (by first | omega | (simp <;> omega)) _)))⟩
end Go.Proofs.Ytejofckfnieolaa
