/- Contracts of NextAfter and NearAbove of the program. Contracts of insertSorted and sortedPoints of the program. Contract of l2Sorted of the model. -/
import Derived.Test.YtokmmbmkfpfmgaaGList
import Derived.Test.YtokmmbmkfpfmgaaGMath
import Derived.BigRegion
set_option linter.unusedVariables false
namespace Go.Proofs.Ytokmmbmkfpfmgaa
set_option maxRecDepth 4000
open Go.ChangeShapes Go.WideShapes Go.ChangeAt Go.RowKit Go.Joins N

def IntPost (x : Int) (w : World) (e : Ending) (w' : World) : Prop := e = .returned (.int .i64 x) ∧ Below w.heap.size w w'

/-- what a list of points reads as: its cells -/
theorem pts_cells {n s : Int} {m : Nat} {w : World} {v : Value} (h : Reads w v (ptsL n s m)) (hm : 1 ≤ m) : ∃ g off cap, v = .slice (some ⟨g, off, none⟩) m cap ∧ Hid (∀ j, j < m → w.cell? ⟨g, off + j, none⟩ = some (.int .i64 (pt n s j))) := by
  obtain ⟨a, cap, e, h⟩ := h
  obtain ⟨g, off, rfl, hc⟩ := h (fun e => by have := ptsL_length n s m; rw [e] at this; simp at this; omega)
  rw [ptsL_length] at e hc
  exact ⟨g, off, cap, e, fun j hj => by rw [hc j hj, ptsL_getD _ _ _ _ hj]; rfl⟩

theorem nil_cells {w : World} {v : Value} (h : Reads w v []) : ∃ a cap, v = .slice a 0 cap := by
  obtain ⟨a, cap, e, _⟩ := h
  exact ⟨a, cap, e⟩

end Go.Proofs.Ytokmmbmkfpfmgaa

set_option linter.unusedVariables false
namespace Go.Proofs.Ytokmmbmkfpfmgaa
open Go.ChangeShapes Go.WideShapes Go.ChangeAt Go.RowKit Go.Joins N

theorem getD_take_map {cur : Array Value} {xs : List Int} (ht : cur.toList.take (xs.length * 1) = xs.map (Value.int .i64)) (i : Nat) (hi : i < xs.length) : cur[i]? = some (.int .i64 (xs.getD i 0)) := by
  have e : (cur.toList.take (xs.length * 1))[i]? = (xs.map (Value.int .i64))[i]? := by rw [ht]
  rw [Nat.mul_one, List.getElem?_take_of_lt hi] at e
  have e2 : cur[i]? = cur.toList[i]? := by simp
  rw [e2, e, List.getElem?_map, List.getD_eq_getElem?_getD, List.getElem?_eq_getElem hi]
  simp

/-- the block of a row that is the call's own and not empty -/
theorem OwnL.row {w : World} {b : Nat} {v : Value} {xs : List Int} {N : Nat} (h : OwnL w b v xs) (hN : xs.length = N) (h0 : v ≠ .slice none 0 0) :
    ∃ g cap cur, v = .slice (some ⟨g, 0, none⟩) N cap ∧ b ≤ g ∧ RowAt w g cur ∧ cur.size = cap ∧ N ≤ cap ∧ cap ≤ maxLen ∧ ∀ i, i < N → cur[i]? = some (.int .i64 (xs.getD i 0)) := by
  subst hN
  obtain ⟨_, h⟩ := h
  rcases h with ⟨rfl, _⟩ | ⟨g, cap, cur, rfl, hb, hg, hn, hm, hs, ht⟩
  · exact absurd rfl h0
  · exact ⟨g, cap, cur, rfl, hb, hg, by omega, hn, hm, getD_take_map ht⟩

theorem OwnL.some_of_len {w : World} {b : Nat} {v : Value} {xs : List Int} (h : OwnL w b v xs) (h0 : xs.length ≠ 0) : v ≠ .slice none 0 0 := by
  rintro rfl
  obtain ⟨_, h⟩ := h
  rcases h with ⟨_, h⟩ | ⟨g, cap, cur, hv, _⟩
  · exact h0 h
  · cases hv

theorem RowAt.ownL {w : World} {g b cap N : Nat} {cur : Array Value} {xs : List Int} (h : RowAt w g cur) (hb : b ≤ g) (hN : xs.length = N) (hs : cur.size = cap) (hn : N ≤ cap) (hm : cap ≤ maxLen) (hc : ∀ i, i < N → cur[i]? = some (.int .i64 (xs.getD i 0))) : OwnL w b (.slice (some ⟨g, 0, none⟩) N cap) xs := by
  subst hN
  refine ⟨by simp, .inr ⟨g, cap, cur, rfl, hb, h, hn, hm, by omega, ?_⟩⟩
  apply List.ext_getElem?
  intro i
  by_cases hi : i < xs.length
  · rw [Nat.mul_one, List.getElem?_take_of_lt hi, List.getElem?_map, List.getElem?_eq_getElem hi]
    have e := hc i hi
    rw [List.getD_eq_getElem?_getD, List.getElem?_eq_getElem hi] at e
    simpa using e
  · rw [List.getElem?_eq_none (by simp; omega), List.getElem?_eq_none (by simp; omega)]

/-- the row while a number moves down to its place -/
def midAt (xs : List Int) (x : Int) (p i : Nat) : Int := if i < p then xs.getD i 0 else if i = p then x else xs.getD (i - 1) 0

theorem midAt_end {xs : List Int} {x : Int} {p L : Nat} (hL : xs.length = L) (hp : p ≤ L) (hw : xs.Pairwise (· ≤ ·)) (h1 : p = 0 ∨ xs.getD (p - 1) 0 ≤ x) (h2 : ∀ i, p ≤ i → i < L → x < xs.getD i 0) (i : Nat) (hi : i < L + 1) : midAt xs x p i = (ins x xs).getD i 0 := by
  subst hL
  have e : ins x xs = xs.take p ++ x :: xs.drop p := by
    have h := ins_above x (xs.take p) (xs.drop p) (hw.sublist (List.take_sublist _ _)) ?_ ?_
    · rwa [List.take_append_drop] at h
    · intro y hy
      obtain ⟨j, hj, e⟩ := mem_getD 0 hy
      rw [List.length_take] at hj
      rw [List.getD_eq_getElem?_getD, List.getElem?_take_of_lt (by omega), List.getElem?_eq_getElem (by omega)] at e
      rcases h1 with h1 | h1
      · omega
      · rw [List.getD_eq_getElem?_getD, List.getElem?_eq_getElem (by omega)] at h1
        simp at e h1
        rcases Nat.lt_or_ge j (p - 1) with hlt | hge
        · have := List.pairwise_iff_getElem.1 hw j (p - 1) (by omega) (by omega) hlt
          omega
        · have ej : j = p - 1 := by omega
          subst ej
          omega
    · intro y hy
      obtain ⟨j, hj, e⟩ := mem_getD 0 hy
      rw [List.length_drop] at hj
      have h3 := h2 (p + j) (by omega) (by omega)
      rw [List.getD_eq_getElem?_getD] at h3 e
      rw [List.getElem?_drop] at e
      omega
  rw [e, List.getD_eq_getElem?_getD]
  unfold midAt
  by_cases h : i < p
  · rw [if_pos h, List.getElem?_append_left (by simp; omega), List.getElem?_take_of_lt h, List.getD_eq_getElem?_getD]
  · rw [if_neg h, List.getElem?_append_right (by simp; omega)]
    have hl : (xs.take p).length = p := by simp; omega
    rw [hl]
    by_cases h3 : i = p
    · rw [if_pos h3]; subst h3; simp
    · rw [if_neg h3]
      obtain ⟨j, rfl⟩ : ∃ j, i = p + j + 1 := ⟨i - p - 1, by omega⟩
      have e1 : p + j + 1 - p = j + 1 := by omega
      rw [e1, List.getElem?_cons_succ, List.getElem?_drop, List.getD_eq_getElem?_getD]
      rfl

def InsPost (b : Nat) (xs : List Int) (w : World) (e : Ending) (w' : World) : Prop := ∃ v, e = .returned v ∧ OwnL w' b v xs ∧ Below b w w'

theorem isort_len_pts (n s : Int) (m : Nat) : (isort (ptsL n s m)).length = m := by rw [isort_length, ptsL_length]

end Go.Proofs.Ytokmmbmkfpfmgaa

set_option linter.unusedVariables false
namespace Go.Proofs.Ytokmmbmkfpfmgaa
open Go.ChangeShapes Go.WideShapes Go.ChangeAt Go.RowKit Go.Joins N

theorem addr_add (g o j : Nat) : (⟨g, o, none⟩ : Addr).add j = ⟨g, o + j, none⟩ := by unfold Addr.add; split <;> simp_all

/-- the cells of a row from a place on are the row from that place on -/
theorem RowAt.news {w : World} {g : Nat} {cur : Array Value} {xs : List Int} {N : Nat} (h : RowAt w g cur) (hN : xs.length = N) (hc : ∀ i, i < N → cur[i]? = some (.int .i64 (xs.getD i 0))) (at' : Nat) :
    ∀ j u, ((xs.drop at').map (Value.int .i64))[j]? = some u → w.cell? ⟨g, at' + j, none⟩ = some u := by
  intro j u hu
  subst hN
  rw [List.getElem?_map, List.getElem?_drop] at hu
  by_cases hj : at' + j < xs.length
  · rw [List.getElem?_eq_getElem hj] at hu
    simp at hu
    have e := h.cell (at' + j)
    rw [hc _ hj, List.getD_eq_getElem?_getD, List.getElem?_eq_getElem hj] at e
    simp at e
    rw [hu] at e
    exact e
  · rw [List.getElem?_eq_none (by omega)] at hu
    simp at hu

theorem RowAt.newsTake {w : World} {g : Nat} {cur : Array Value} {xs : List Int} {N : Nat} (h : RowAt w g cur) (hN : xs.length = N) (hc : ∀ i, i < N → cur[i]? = some (.int .i64 (xs.getD i 0))) (m : Nat) :
    ∀ j u, ((xs.take m).map (Value.int .i64))[j]? = some u → w.cell? ⟨g, j, none⟩ = some u := by
  intro j u hu
  have h0 := h.news hN hc 0 j u
  rw [Nat.zero_add] at h0
  refine h0 ?_
  rw [List.map_take, List.getElem?_take] at hu
  split at hu
  · simpa using hu
  · cases hu

theorem oneCells (xs : List Int) : ∀ u ∈ xs.map (Value.int .i64), u.oneCell' = true := by
  intro u hu
  obtain ⟨x, _, rfl⟩ := List.mem_map.1 hu
  rfl

end Go.Proofs.Ytokmmbmkfpfmgaa
