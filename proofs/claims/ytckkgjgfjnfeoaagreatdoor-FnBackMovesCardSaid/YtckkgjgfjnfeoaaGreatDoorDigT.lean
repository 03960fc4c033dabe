/- Contract of the model's l1Digits. -/
import Derived.Test.YtckkgjgfjnfeoaaGreatDoorGMov
import Derived.Test.YtckkgjgfjnfeoaaGreatDoorGKit
import Derived.BigQuiet
import Derived.Test.YtckkgjgfjnfeoaaGreatDoorOne
import Derived.Laws.Concat
set_option linter.unusedVariables false
namespace Go.Proofs.YtckkgjgfjnfeoaaGreatDoor
set_option maxRecDepth 4000

set_option maxRecDepth 4000
open Go.ChangeShapes Go.WideShapes Go.ChangeAt Go.RowKit Go.Joins

open Classical in

/-- the number of a list of one to six digits without a leading 0; -1 of others -/
noncomputable def dgF (l : List UInt8) : Int := if canD l ∧ l.length ≤ 6 then (valN l : Int) else -1

theorem dgF_yes {l : List UInt8} (h : canD l) (h2 : l.length ≤ 6) : dgF l = (valN l : Int) := if_pos ⟨h, h2⟩

theorem dgF_no {l : List UInt8} (h : ¬ (canD l ∧ l.length ≤ 6)) : dgF l = -1 := if_neg h

def DigTo (l : List UInt8) (k : Nat) : Prop := ∀ i, i < k → isDig (l.getD i 0) = true

theorem DigTo.next {l : List UInt8} {k c : Nat} (h : DigTo l k) (e : (l.getD k 0).toNat = c) (h1 : 48 ≤ c) (h2 : c ≤ 57) : DigTo l (k + 1) := by
  intro i hi
  by_cases g : i = k
  · subst g; unfold isDig; rw [e]; simp; exact ⟨h1, h2⟩
  · exact h i (by omega)

theorem DigTo.not {l : List UInt8} {k c : Nat} (hk : k < l.length) (e : (l.getD k 0).toNat = c) (h : c < 48 ∨ 57 < c) : ¬ canD l := by
  intro g
  have := g.2.1 (l.getD k 0) (by rw [List.getD_eq_getElem?_getD, List.getElem?_eq_getElem hk]; exact List.getElem_mem hk)
  unfold isDig at this
  rw [e] at this
  simp at this
  omega

theorem DigTo.can {l : List UInt8} (h : DigTo l l.length) (h0 : 0 < l.length) (h1 : 1 < l.length → l.getD 0 0 ≠ 48) : canD l := by
  refine ⟨fun e => by rw [e] at h0; exact absurd h0 (Nat.lt_irrefl _), fun c hc => ?_, fun g => ?_⟩
  · obtain ⟨i, hi, rfl⟩ := List.getElem_of_mem hc
    have := h i hi
    rwa [List.getD_eq_getElem?_getD, List.getElem?_eq_getElem hi] at this
  · intro e
    apply h1 g
    rw [List.getD_eq_getElem?_getD, ← List.head?_eq_getElem?, e]; rfl

theorem val_take {l : List UInt8} {k : Nat} (h : k < l.length) : valN (l.take (k + 1)) = 10 * valN (l.take k) + ((l.getD k 0).toNat - 48) := by
  rw [List.take_add_one, List.getElem?_eq_getElem h, List.getD_eq_getElem?_getD, List.getElem?_eq_getElem h]
  exact valN_snoc _ _

end Go.Proofs.YtckkgjgfjnfeoaaGreatDoor
