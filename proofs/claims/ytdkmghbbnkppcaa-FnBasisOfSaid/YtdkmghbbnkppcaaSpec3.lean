/- Contracts of RecordsAbove, RecordsBelow, QuotientsOf and NearTimes of the model. -/
import Derived.Test.YtdkmghbbnkppcaaGList
import Derived.Test.YtdkmghbbnkppcaaFrom
set_option linter.unusedVariables false
namespace Go.Proofs.Ytdkmghbbnkppcaa
open Go.ChangeShapes Go.WideShapes Go.ChangeAt Go.RowKit Go.Joins

theorem recSt_yes {up : Bool} {n s k : Nat} (h1 : 1 ≤ k) (h : if up then k * s % n < (recSt up n s k).1 else (recSt up n s k).1 < k * s % n) : recSt up n s (k + 1) = (k * s % n, (recSt up n s k).2 ++ [k]) := by
  rw [recSt_succ, recStep, if_pos ⟨h1, h⟩]

theorem recSt_no {up : Bool} {n s k : Nat} (h : ¬ (1 ≤ k ∧ if up then k * s % n < (recSt up n s k).1 else (recSt up n s k).1 < k * s % n)) : recSt up n s (k + 1) = recSt up n s k := by
  rw [recSt_succ, recStep, if_neg h]

theorem recSt_len (up : Bool) (n s k : Nat) : (recSt up n s k).2.length ≤ k := by
  induction k with
  | zero => simp [recSt]
  | succ k ih =>
    rw [recSt_succ, recStep]
    have key : ∀ (c : Prop) [Decidable c], (if c then (k * s % n, (recSt up n s k).2 ++ [k]) else recSt up n s k).2.length ≤ k + 1 := by
      intro c _
      split
      · simp; exact ih
      · omega
    exact key _

def recF (up : Bool) (n s : Int) : List Int := if tok n s = true then castL (recL up n.toNat s.toNat) else []

theorem recF_yes {up : Bool} {n s : Nat} (h : tokN n s = true) : recF up n s = castL (recL up n s) := by
  unfold recF; rw [if_pos (tok_of_tokN h)]; rfl

theorem recF_no {up : Bool} {n s : Int} (h : ¬ tok n s = true) : recF up n s = [] := if_neg h

theorem recF_len (up : Bool) (n s : Int) : (recF up n s).length ≤ 60 := by
  by_cases h : tok n s = true
  · obtain ⟨N, S, rfl, rfl, hN⟩ := tokN_of h
    have := tokN_bd hN
    rw [recF_yes hN, castL_len]
    have := recSt_len up N S N
    unfold recL
    omega
  · rw [recF_no h]; simp

end Go.Proofs.Ytdkmghbbnkppcaa
