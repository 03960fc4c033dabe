/- Contracts of QuotientsOf and NearTimes, of the program and of the model. Contracts of QuotientsOf and NearTimes, of the program and of the model. Contracts of NearTimes, of the program and of the model. -/
import Derived.Test.YtcfhjkaemhhndaaGList
import Derived.Test.YtcfhjkaemhhndaaFrom
import Derived.Test.YtcfhjkaemhhndaaGApp
set_option linter.unusedVariables false
namespace Go.Proofs.Ytcfhjkaemhhndaa

set_option maxRecDepth 4000
open Go.ChangeShapes Go.WideShapes Go.ChangeAt Go.RowKit Go.Joins

def quotF (n s : Int) : List Int := if tok n s = true then castL (quotsN n.toNat s.toNat) else []

theorem quotF_yes {n s : Nat} (h : tokN n s = true) : quotF n s = castL (quotsN n s) := by
  unfold quotF; rw [if_pos (tok_of_tokN h)]; rfl

theorem quotF_no {n s : Int} (h : ¬ tok n s = true) : quotF n s = [] := if_neg h

theorem quots_len {n s : Nat} (h : tokN n s = true) : (quotsN n s).length ≤ 8 := by
  have := all_turns chkQuots_all h
  unfold chkQuots at this
  simp only [Bool.and_eq_true, Nat.ble_eq] at this
  exact this.2.2.2.2.2

theorem quots_le {n s : Nat} (h : tokN n s = true) : ∀ x ∈ quotsN n s, 1 ≤ x ∧ x ≤ 60 := by
  have := all_turns chkQuots_all h
  unfold chkQuots at this
  simp only [Bool.and_eq_true, List.all_eq_true, Nat.ble_eq] at this
  exact this.1

theorem quotF_len (n s : Int) : (quotF n s).length ≤ 8 := by
  by_cases h : tok n s = true
  · obtain ⟨N, S, rfl, rfl, hN⟩ := tokN_of h
    rw [quotF_yes hN, castL_len]
    exact quots_len hN
  · rw [quotF_no h]; simp

end Go.Proofs.Ytcfhjkaemhhndaa

set_option linter.unusedVariables false
namespace Go.Proofs.Ytcfhjkaemhhndaa

set_option maxRecDepth 4000
open Go.ChangeShapes Go.WideShapes Go.ChangeAt Go.RowKit Go.Joins

end Go.Proofs.Ytcfhjkaemhhndaa

set_option linter.unusedVariables false
namespace Go.Proofs.Ytcfhjkaemhhndaa

set_option maxRecDepth 4000
open Go.ChangeShapes Go.WideShapes Go.ChangeAt Go.RowKit Go.Joins

def nearF (n s : Int) : List Int := if tok n s = true then castL (nearN n.toNat s.toNat) else []

theorem nearF_yes {n s : Nat} (h : tokN n s = true) : nearF n s = castL (nearN n s) := by
  unfold nearF; rw [if_pos (tok_of_tokN h)]; rfl

theorem nearF_no {n s : Int} (h : ¬ tok n s = true) : nearF n s = [] := if_neg h

theorem near_facts {n s : Nat} (h : tokN n s = true) : (∀ x ∈ nearN n s, 1 ≤ x ∧ x ≤ n) ∧ (nearN n s).length ≤ 9 ∧ 2 ≤ (nearN n s).length := by
  have := all_turns chkNear_all h
  unfold chkNear at this
  simp only [Bool.and_eq_true, List.all_eq_true, Nat.ble_eq] at this
  exact ⟨fun x hx => ⟨(this.1 x hx).1, (this.1 x hx).2.1⟩, this.2.2.2.1, this.2.2.1⟩

theorem nearF_len (n s : Int) : (nearF n s).length ≤ 9 := by
  by_cases h : tok n s = true
  · obtain ⟨N, S, rfl, rfl, hN⟩ := tokN_of h
    rw [nearF_yes hN, castL_len]
    exact (near_facts hN).2.1
  · rw [nearF_no h]; simp

theorem quots_ne {n s : Nat} (h : tokN n s = true) : quotsN n s ≠ [] := by
  have h1 := (near_facts h).2.2
  intro e
  rw [nearN, e] at h1
  simp [ntL] at h1

theorem ntL_eq {Q : List Nat} (h : Q ≠ []) : ntL Q = 1 :: ntF Q 0 1 := by
  cases Q with
  | nil => exact absurd rfl h
  | cons q qs => simp [ntL, ntF]

theorem ntF_drop {Q : List Nat} {k : Nat} (h : k < Q.length) (x y : Nat) : ntF (Q.drop k) x y = (Q.getD k 0 * y + x) :: ntF (Q.drop (k + 1)) y (Q.getD k 0 * y + x) := by
  rw [List.drop_eq_getElem_cons h, ntF, List.getD_eq_getElem?_getD, List.getElem?_eq_getElem h]; rfl

theorem ntF_end {Q : List Nat} {k : Nat} (h : Q.length ≤ k) (x y : Nat) : ntF (Q.drop k) x y = [] := by
  rw [List.drop_of_length_le h]; rfl

/-- a new row of one integer, of two -/
theorem row1 (w : World) (b : Nat) (x0 : Int) (hb : b ≤ w.heap.size) :
    OwnL (w.alloc (.cells #[.int .i64 x0] 3)) b (.slice (some ⟨w.heap.size, 0, none⟩) 1 1) [x0] :=
  ⟨by simp, .inr ⟨w.heap.size, 1, _, rfl, hb, heap_alloc_new w _, by simp, by unfold maxLen; omega, by simp, by simp⟩⟩

theorem row2 (w : World) (b : Nat) (x0 x1 : Int) (hb : b ≤ w.heap.size) :
    OwnL (w.alloc (.cells #[.int .i64 x0, .int .i64 x1] 3)) b (.slice (some ⟨w.heap.size, 0, none⟩) 2 2) [x0, x1] :=
  ⟨by simp, .inr ⟨w.heap.size, 2, _, rfl, hb, heap_alloc_new w _, by simp, by unfold maxLen; omega, by simp, by simp⟩⟩

end Go.Proofs.Ytcfhjkaemhhndaa
