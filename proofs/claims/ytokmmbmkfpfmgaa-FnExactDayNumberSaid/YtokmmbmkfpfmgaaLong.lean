/- Contracts of GapsLong, of the program and of the model, and of ascend. -/
import Derived.Test.YtokmmbmkfpfmgaaGKinds
set_option linter.unusedVariables false
namespace Go.Proofs.Ytokmmbmkfpfmgaa
set_option maxRecDepth 4000
open Go.ChangeShapes Go.WideShapes Go.ChangeAt Go.RowKit Go.Joins N

def longF (n s m x : Int) : Int := if gapsF n s m = [] then -1 else ((gapsF n s m).count x : Nat)

/-- is each number less than the next one -/
def ascB (xs : List Int) (k : Nat) : Prop := ∀ i, i + 1 < k → xs.getD i 0 < xs.getD (i + 1) 0

theorem ascB_iff (xs : List Int) : ascB xs xs.length ↔ xs.Pairwise (· < ·) := by
  constructor
  · intro h
    refine List.pairwise_iff_getElem.2 fun i j hi hj hij => ?_
    have key : ∀ d, i + (d + 1) < xs.length → xs.getD i 0 < xs.getD (i + (d + 1)) 0 := by
      intro d
      induction d with
      | zero => intro hd; exact h i hd
      | succ d ih =>
        intro hd
        have a := ih (by omega)
        have b := h (i + (d + 1)) (by omega)
        rw [show i + (d + 1 + 1) = i + (d + 1) + 1 by omega]
        omega
    have := key (j - i - 1) (by omega)
    rw [show i + (j - i - 1 + 1) = j by omega, List.getD_eq_getElem?_getD, List.getD_eq_getElem?_getD, List.getElem?_eq_getElem hi, List.getElem?_eq_getElem hj] at this
    exact this
  · intro h i hi
    exact asc_getD h 0 (by omega) hi

end Go.Proofs.Ytokmmbmkfpfmgaa
