/- Contracts of chapter 9's functions of the model: NumberOf, NextDigits. -/
import Derived.Test.YtnpaicdbmmfdhaaNumO
set_option linter.unusedVariables false
namespace Go.Proofs.Ytnpaicdbmmfdhaa

set_option maxRecDepth 4000
open Go.ChangeShapes Go.WideShapes Go.ChangeAt Go.RowKit Go.Joins

theorem num_step {N S : Nat} {D : List Int} (h : tokN N S = true) (ho : okF N S D = true) {k : Nat} (hk : k < bmN N S) :
    ((valD (basAt N S) (dAt D) (k + 1) : Nat) : Int) = ((valD (basAt N S) (dAt D) k : Nat) : Int) + ((basAt N S k : Nat) : Int) * D.getD k 0 ∧ valD (basAt N S) (dAt D) (k + 1) ≤ 60 ∧ 0 ≤ ((basAt N S k : Nat) : Int) * D.getD k 0 := by
  obtain ⟨_, hp, hd⟩ := (okF_iff h).1 ho
  have hs := bas_scale h
  obtain ⟨_, b2, _⟩ := tokN_bd h
  have e : ((dAt D k : Nat) : Int) = D.getD k 0 := by have := hp k hk; unfold dAt; omega
  have hl := valD_lt hs (k + 1) (by omega) ⟨fun i hi => hd.1 i (by omega), fun i a b => hd.2 i a (by omega)⟩
  have hb : basAt N S (k + 1) ≤ N := by
    by_cases c : k + 1 = bmN N S
    · rw [c, bas_end h]; exact Nat.le_refl _
    · exact Nat.le_of_lt (bas_lt h (by omega))
  refine ⟨?_, by omega, ?_⟩
  · show ((valD (basAt N S) (dAt D) k + dAt D k * basAt N S k : Nat) : Int) = _
    rw [Int.natCast_add, Int.natCast_mul, e, Int.mul_comm]
  · exact Int.mul_nonneg (by omega) (hp k hk)

/-- the next digits come back, and whether there are some -/
def NextPost (n s : Int) (D : List Int) (w : World) (e : Ending) (w' : World) : Prop := ∃ v, e = .returned (.tuple #[v, .bool (nextP n s D)]) ∧ OwnL w' w.heap.size v (nextF n s D) ∧ Below w.heap.size w w'

end Go.Proofs.Ytnpaicdbmmfdhaa
