/- Contracts of eqIntSS, markIntSS and heldIntSS, for lists of rows of four numbers. -/
import Derived.Test.YtckkgjgfjnfeoaaDoorGRule
import Derived.Test.YtckkgjgfjnfeoaaDoorRecL
import Derived.Test.YtckkgjgfjnfeoaaDoorMark
set_option linter.unusedVariables false
namespace Go.Proofs.YtckkgjgfjnfeoaaDoor
set_option maxRecDepth 4000

set_option maxRecDepth 4000
open Go.ChangeShapes Go.WideShapes Go.ChangeAt Go.RowKit Go.Joins

/-- the first j of M rows marked from 1 on, the others as they were -/
def mkL (Ls : List (List Int)) (M j : Nat) : List (List Int) := (List.range M).map fun i => if i < j then marksL (1 + 4 * (i : Int)) 4 else Ls.getD i []

theorem mkL_length (Ls : List (List Int)) (M j : Nat) : (mkL Ls M j).length = M := by simp [mkL]

theorem mkL_zero (Ls : List (List Int)) : mkL Ls Ls.length 0 = Ls := by
  apply List.ext_getElem?
  intro i
  by_cases h : i < Ls.length
  · simp [mkL, h]
  · rw [List.getElem?_eq_none (by rw [mkL_length]; omega), List.getElem?_eq_none (by omega)]

theorem mkL_getD_lt {Ls : List (List Int)} {M j i : Nat} (h : i < M) (hj : i < j) : (mkL Ls M j).getD i [] = marksL (1 + 4 * (i : Int)) 4 := by
  simp [mkL, List.getD_eq_getElem?_getD, h, hj]

theorem mkL_getD_ge {Ls : List (List Int)} {M j i : Nat} (h : i < M) (hj : j ≤ i) : (mkL Ls M j).getD i [] = Ls.getD i [] := by
  simp [mkL, List.getD_eq_getElem?_getD, h, Nat.not_lt.2 hj]

theorem mkL_set {Ls : List (List Int)} {M j : Nat} (h : j < M) : (mkL Ls M j).set j (marksL (1 + 4 * (j : Int)) 4) = mkL Ls M (j + 1) := by
  apply List.ext_getElem?
  intro i
  by_cases hi : i < M
  · rw [List.getElem?_set]
    by_cases hij : j = i
    · subst hij
      simp [mkL, hi]
    · rw [if_neg hij]
      have e : (i < j + 1) ↔ i < j := by omega
      simp only [mkL, List.getElem?_map, List.getElem?_range hi, Option.map_some, e]
  · rw [List.getElem?_eq_none (by rw [List.length_set, mkL_length]; omega), List.getElem?_eq_none (by rw [mkL_length]; omega)]

theorem getL_set_self {Ls : List (List Int)} {L : List Int} {i : Nat} (h : i < Ls.length) : (Ls.set i L).getD i [] = L := by
  simp [List.getD_eq_getElem?_getD, h]

theorem getL_set_ne {Ls : List (List Int)} {L : List Int} {i j : Nat} (h : j ≠ i) : (Ls.set j L).getD i [] = Ls.getD i [] := by
  simp [List.getD_eq_getElem?_getD, h]

/-- a row of a list of lists can be written over -/
theorem OwnLL.row {w : World} {b : Nat} {v : Value} {Ls : List (List Int)} (h : OwnLL w b v Ls) {M : Nat} (hM : Ls.length = M) :
    ∃ a cap, v = .slice a M cap ∧ Hid (∀ j, j < M → ∃ g r, a = some ⟨g, 0, none⟩ ∧ w.cell? ⟨g, j, none⟩ = some r ∧ OwnL w b r (Ls.getD j []) ∧
      ∀ w' L', w.grownBy w' r.ownBlock → OwnL w' b r L' → OwnLL w' b v (Ls.set j L')) := by
  obtain ⟨a, cap, rfl, hc⟩ := h.cells hM
  subst hM
  refine ⟨a, cap, rfl, fun j hj => ?_⟩
  obtain ⟨rs, h1, h2, h3, h4⟩ := h
  have hcell := h2.2
  rcases hcell with ⟨e, h0⟩ | ⟨g, cap, cur, e, hb, hg, hn, hm, hs, ht⟩
  · omega
  · injection e with e1 e2 e3
    subst e1 e3
    refine ⟨g, rs.getD j undef, rfl, ?_, h3 j hj, fun w' L' hgr ho => ?_⟩
    · have e : (cur.toList.take (Ls.length * 1))[j]? = rs[j]? := by rw [ht]
      rw [Nat.mul_one, List.getElem?_take_of_lt hj] at e
      have e2 : cur[j]? = cur.toList[j]? := by simp
      simp [World.cell?, hg]
      rw [e2, e, List.getElem?_eq_getElem (by omega)]
      simp
    · refine ⟨rs, by rw [List.length_set]; exact h1, ?_, fun i hi => ?_, fun i k hik hk => ?_⟩
      · rw [List.length_set]
        refine World.ownsRow.kept h2 hgr ?_
        rcases own_types h2 (h3 j hj) with e | e
        · rw [e]; right; simp [Value.ownBlock]
        · exact .inr (fun x => e x.symm)
      · rw [List.length_set] at hi
        by_cases c : j = i
        · subst c
          rw [getL_set_self hi]
          exact ho
        · rw [getL_set_ne c]
          refine World.ownsRow.kept (h3 i hi) hgr ?_
          rcases Nat.lt_or_gt_of_ne c with d | d
          · rcases h4 j i d hi with e | e
            · rw [e]
              cases (rs.getD i undef).ownBlock <;> simp
            · exact .inr (fun x => e x.symm)
          · exact h4 i j d hj
      · rw [List.length_set] at hk
        exact h4 i k hik hk

end Go.Proofs.YtckkgjgfjnfeoaaDoor
