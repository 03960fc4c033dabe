/- Contracts of markIntS and heldIntS: marks are written into a list of the call's own, and found again. -/
import Derived.Test.YtckkgjgfjnfeoaaDoorGList
set_option linter.unusedVariables false
namespace Go.Proofs.YtckkgjgfjnfeoaaDoor
set_option maxRecDepth 4000
open Go.ChangeShapes Go.WideShapes Go.ChangeAt Go.RowKit Go.Joins

def marksL (k : Int) (n : Nat) : List Int := (List.range n).map fun i : Nat => k + (i : Int)

theorem marksL_length (k : Int) (n : Nat) : (marksL k n).length = n := by simp [marksL]

theorem marksL_getD (k : Int) (n i : Nat) (h : i < n) : (marksL k n).getD i 0 = k + (i : Int) := by
  simp [marksL, List.getD_eq_getElem?_getD, h]

def MarkPost (k : Int) (n b : Nat) (v : Value) (w : World) (e : Ending) (w' : World) : Prop :=
  e = .returned (.int .i64 (k + (n : Int))) ∧ OwnL w' b v (marksL k n) ∧ w.grownBy w' v.ownBlock ∧ w'.heap.size = w.heap.size

theorem RowAt.ownCap {w : World} {g b cap : Nat} {cur : Array Value} {xs : List Int} (h : RowAt w g cur) (hb : b ≤ g) (hm : cap ≤ maxLen) (hx : xs.length ≤ cap) (hs : cur.size = cap) (hc : ∀ i, i < xs.length → cur[i]? = some (.int .i64 (xs.getD i 0))) : OwnL w b (.slice (some ⟨g, 0, none⟩) xs.length cap) xs := by
  refine ⟨by simp, .inr ⟨g, cap, cur, rfl, hb, h, hx, hm, by omega, ?_⟩⟩
  apply List.ext_getElem?
  intro i
  by_cases hi : i < xs.length
  · rw [Nat.mul_one, List.getElem?_take_of_lt hi, List.getElem?_map, List.getElem?_eq_getElem hi]
    have e := hc i hi
    rw [List.getD_eq_getElem?_getD, List.getElem?_eq_getElem hi] at e
    simpa using e
  · rw [List.getElem?_eq_none (by simp; omega), List.getElem?_eq_none (by simp; omega)]

end Go.Proofs.YtckkgjgfjnfeoaaDoor
