/- Contracts of the Draw functions of chapter 12. -/
import Derived.Test.YtckkgjgfjnfeoaaDoorGDraw
import Derived.Test.YtckkgjgfjnfeoaaDoorGSclS
import Derived.Test.YtckkgjgfjnfeoaaDoorRev
import Derived.Deep.Cut
import Derived.Deep.RegionHeld3
set_option linter.unusedVariables false
namespace Go.Proofs.YtckkgjgfjnfeoaaDoor
set_option maxRecDepth 4000

set_option maxRecDepth 4000
open Go.ChangeShapes Go.WideShapes Go.ChangeAt Go.RowKit Go.Joins

/-- a turn and a number -/
def STIPost (w : World) (e : Ending) (w' : World) : Prop := ∃ (n s k : Int), e = .returned (.tuple #[(.agg #[.int .i64 (n), .int .i64 (s)]), .int .i64 k]) ∧ -2 ≤ n ∧ n ≤ 100 ∧ -2000 ≤ k ∧ k ≤ 2000 ∧ Below w.heap.size w w'

def STIIPost (w : World) (e : Ending) (w' : World) : Prop := ∃ (n s k u : Int), e = .returned (.tuple #[(.agg #[.int .i64 (n), .int .i64 (s)]), .int .i64 k, .int .i64 u]) ∧ -2 ≤ n ∧ n ≤ 100 ∧ -2000 ≤ k ∧ k ≤ 2000 ∧ Below w.heap.size w w'

theorem scalesF_bd (n s : Int) : (scalesF n s).length ≤ 61 ∧ ∀ i, i < (scalesF n s).length → 2 ≤ (scalesF n s).getD i 0 ∧ (scalesF n s).getD i 0 ≤ 60 := by
  by_cases ht : tok n s = true
  · have hb := tok_bd ht
    obtain ⟨_, f2, f3⟩ := scUp_facts n s (n.toNat + 1)
    refine ⟨by unfold scalesF; omega, fun i hi => ?_⟩
    have := f2 _ (getD_mem' (xs := scUp n s (n.toNat + 1)) 0 hi)
    unfold scalesF
    omega
  · rw [scalesF_no ht]
    exact ⟨by simp, fun i hi => by simp at hi⟩

end Go.Proofs.YtckkgjgfjnfeoaaDoor
