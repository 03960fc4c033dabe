/- The contract of slices.Reverse on a list of the call's own, and the program's letters of a list. -/
import Derived.Test.YtckkgjgfjnfeoaaDoorGList
import Derived.Test.YtckkgjgfjnfeoaaDoorMark
set_option linter.unusedVariables false
namespace Go.Proofs.YtckkgjgfjnfeoaaDoor
set_option maxRecDepth 4000

set_option maxRecDepth 4000
open Go.ChangeShapes Go.WideShapes Go.ChangeAt Go.RowKit Go.Joins

/-- the list with its first and last i numbers turned about -/
def revAt (xs : List Int) (i j : Nat) : Int := if j < i ∨ xs.length ≤ j + i then xs.getD (xs.length - 1 - j) 0 else xs.getD j 0

theorem revAt_zero (xs : List Int) (j : Nat) (h : j < xs.length) : revAt xs 0 j = xs.getD j 0 := by unfold revAt; rw [if_neg (by omega)]

theorem revAt_end (xs : List Int) (i j : Nat) (h : xs.length ≤ 2 * i + 1) (hj : j < xs.length) : revAt xs i j = xs.reverse.getD j 0 := by
  have e : xs.reverse.getD j 0 = xs.getD (xs.length - 1 - j) 0 := by
    rw [List.getD_eq_getElem?_getD, List.getD_eq_getElem?_getD, List.getElem?_reverse hj]
  rw [e]
  unfold revAt
  by_cases c : j < i ∨ xs.length ≤ j + i
  · rw [if_pos c]
  · rw [if_neg c, show xs.length - 1 - j = j by omega]

theorem revAt_lo (xs : List Int) (i : Nat) (h : 2 * i + 1 < xs.length) : revAt xs i i = xs.getD i 0 ∧ revAt xs i (xs.length - 1 - i) = xs.getD (xs.length - 1 - i) 0 := by
  unfold revAt
  exact ⟨if_neg (by omega), if_neg (by omega)⟩

theorem revAt_next (xs : List Int) (i j : Nat) (h : 2 * i + 1 < xs.length) (hj : j < xs.length) :
    revAt xs (i + 1) j = if j = i then xs.getD (xs.length - 1 - i) 0 else if j = xs.length - 1 - i then xs.getD i 0 else revAt xs i j := by
  unfold revAt
  by_cases c1 : j = i
  · subst c1; rw [if_pos rfl, if_pos (by omega)]
  · rw [if_neg c1]
    by_cases c2 : j = xs.length - 1 - i
    · subst c2
      rw [if_pos rfl, if_pos (by omega), show xs.length - 1 - (xs.length - 1 - i) = i by omega]
    · rw [if_neg c2]
      by_cases c3 : j < i ∨ xs.length ≤ j + i
      · rw [if_pos c3, if_pos (by omega)]
      · rw [if_neg c3, if_neg (by omega)]

def RevPost (b : Nat) (v : Value) (xs : List Int) (w : World) (e : Ending) (w' : World) : Prop :=
  e = .returned (.tuple #[]) ∧ OwnL w' b v xs.reverse ∧ Below b w w' ∧ ∀ q, v.ownBlock ≠ some q → w'.heap[q]? = w.heap[q]?

theorem OwnL.rowI {w : World} {b : Nat} {v : Value} {xs : List Int} {N : Nat} (h : OwnL w b v xs) (hN : xs.length = N) (h0 : N ≠ 0) :
    ∃ g cap cur, v = .slice (some ⟨g, 0, none⟩) N cap ∧ b ≤ g ∧ RowAt w g cur ∧ cur.size = cap ∧ N ≤ cap ∧ cap ≤ maxLen ∧ ∀ i, i < N → cur[i]? = some (.int .i64 (xs.getD i 0)) := by
  subst hN
  obtain ⟨_, h⟩ := h
  rcases h with ⟨rfl, e⟩ | ⟨g, cap, cur, rfl, hb, hg, hn, hm, hs, ht⟩
  · exact absurd e h0
  · refine ⟨g, cap, cur, rfl, hb, hg, by omega, hn, hm, fun i hi => ?_⟩
    have e : (cur.toList.take (xs.length * 1))[i]? = (xs.map (Value.int .i64))[i]? := by rw [ht]
    rw [Nat.mul_one, List.getElem?_take_of_lt hi, List.getElem?_map, List.getElem?_eq_getElem hi] at e
    have e2 : cur[i]? = cur.toList[i]? := by simp
    rw [e2, e, List.getD_eq_getElem?_getD, List.getElem?_eq_getElem hi]
    rfl

end Go.Proofs.YtckkgjgfjnfeoaaDoor
