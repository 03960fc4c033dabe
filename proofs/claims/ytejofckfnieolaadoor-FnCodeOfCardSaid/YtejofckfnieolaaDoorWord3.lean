/- Contract of the model's OnesUpTo. -/
import Derived.Test.YtejofckfnieolaaDoorWord2
set_option linter.unusedVariables false
namespace Go.Proofs.YtejofckfnieolaaDoor
open Go.ChangeShapes Go.WideShapes Go.ChangeAt Go.RowKit Go.Joins

def onesF (n s m : Int) : Int := if tok n s = true ∧ 0 ≤ m ∧ m ≤ n then m * s / n else -1

theorem onesF_yes {n s m : Int} (h : tok n s = true) (h0 : 0 ≤ m) (h1 : m ≤ n) : onesF n s m = m * s / n := if_pos ⟨h, h0, h1⟩

theorem onesF_no {n s m : Int} (h : ¬ (tok n s = true ∧ 0 ≤ m ∧ m ≤ n)) : onesF n s m = -1 := if_neg h

theorem onesF_fl {n s : Int} {m : Nat} (h : tok n s = true) (h1 : (m : Int) ≤ n) : onesF n s m = ((flN n.toNat s.toNat m : Nat) : Int) := by
  rw [onesF_yes h (by omega) h1]
  obtain ⟨h1, _, h3, h4, _⟩ := (tok_iff n s).1 h
  obtain ⟨N, rfl⟩ := Int.eq_ofNat_of_zero_le (by omega : 0 ≤ n)
  obtain ⟨S, rfl⟩ := Int.eq_ofNat_of_zero_le (by omega : 0 ≤ s)
  unfold flN
  simp

end Go.Proofs.YtejofckfnieolaaDoor
