/- Contracts of chapter 9's functions of the model: DigitsOk, NumberOf, NextDigits. -/
import Derived.Test.YtnpaicdbmmfdhaaNumE
set_option linter.unusedVariables false
namespace Go.Proofs.Ytnpaicdbmmfdhaa

set_option maxRecDepth 4000
open Go.ChangeShapes Go.WideShapes Go.ChangeAt Go.RowKit Go.Joins

theorem okB_succ (M : Nat → Nat) (D : List Int) (k : Nat) : okB M D (k + 1) = (okB M D k && (decide (0 ≤ D.getD k 0 ∧ D.getD k 0 ≤ (M k : Int)) && !decide (0 < k ∧ D.getD k 0 = (M k : Int) ∧ D.getD (k - 1) 0 ≠ 0))) := rfl

theorem l1In_quiet (n lo hi : Int) (w : World) {c : Bool} (h : (decide (lo ≤ n) && decide (n ≤ hi)) = c) : Calls Try.prog 39 #[.int .i64 n, .int .i64 lo, .int .i64 hi] w fun e w' => e = .returned (.bool c) ∧ ∃ q, w' = w.drewN q :=
  (l1In_any n lo hi w).mono fun e w' ⟨h1, h2⟩ => ⟨by rw [h1, h], 0, by rw [← h2]; rfl⟩

end Go.Proofs.Ytnpaicdbmmfdhaa
