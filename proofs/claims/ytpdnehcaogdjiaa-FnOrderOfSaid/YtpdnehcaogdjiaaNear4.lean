/- Contracts of NextAfter of the model, and of GapsBy of the program and of the model. -/
import Derived.Test.YtpdnehcaogdjiaaNear3
import Derived.Test.YtpdnehcaogdjiaaFun1
set_option linter.unusedVariables false
namespace Go.Proofs.Ytpdnehcaogdjiaa
open Go.ChangeShapes Go.WideShapes Go.ChangeAt Go.RowKit Go.Joins N

/-- what is told by both times alone -/
def gapsByF (n s m : Int) : List Int :=
  if tok n s = true ∧ 2 ≤ m ∧ m ≤ n then
    [pt n s (nearA n s m), m - nearA n s m, n - pt n s (nearB n s m), m - nearB n s m, pt n s (nearA n s m) + (n - pt n s (nearB n s m)), nearA n s m + nearB n s m - m]
  else []

theorem gapsByF_yes {n s m p q : Int} (h : tok n s = true) (h2 : 2 ≤ m) (hm : m ≤ n) (hp : nearA n s m = p) (hq : nearB n s m = q) :
    gapsByF n s m = [pt n s p, m - p, n - pt n s q, m - q, pt n s p + (n - pt n s q), p + q - m] := by
  subst hp hq; exact if_pos ⟨h, h2, hm⟩

theorem gapsByF_no {n s m : Int} (h : ¬ (tok n s = true ∧ 2 ≤ m ∧ m ≤ n)) : gapsByF n s m = [] := if_neg h

theorem gapsByF_len (n s m : Int) : (gapsByF n s m).length ≤ 60 := by
  unfold gapsByF; split <;> simp

/-- a new row of six integers -/
theorem row6 (w : World) (b : Nat) (x0 x1 x2 x3 x4 x5 : Int) (hb : b ≤ w.heap.size) :
    OwnL (w.alloc (.cells #[.int .i64 x0, .int .i64 x1, .int .i64 x2, .int .i64 x3, .int .i64 x4, .int .i64 x5] 3)) b (.slice (some ⟨w.heap.size, 0, none⟩) 6 6) [x0, x1, x2, x3, x4, x5] := by
  refine ⟨by simp, .inr ⟨w.heap.size, 6, _, rfl, hb, heap_alloc_new w _, by simp, by unfold maxLen; omega, by simp, by simp⟩⟩

end Go.Proofs.Ytpdnehcaogdjiaa
