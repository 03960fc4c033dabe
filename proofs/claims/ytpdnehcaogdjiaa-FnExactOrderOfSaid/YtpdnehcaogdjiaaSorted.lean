/- Contract of l2Sorted of the model. -/
import Derived.Test.YtpdnehcaogdjiaaIns
set_option linter.unusedVariables false
namespace Go.Proofs.Ytpdnehcaogdjiaa
open Go.ChangeShapes Go.WideShapes Go.ChangeAt Go.RowKit Go.Joins N

theorem addr_add (g o j : Nat) : (⟨g, o, none⟩ : Addr).add j = ⟨g, o + j, none⟩ := by unfold Addr.add; split <;> simp_all

/-- the cells of a row from a place on are the row from that place on -/
theorem RowAt.news {w : World} {g : Nat} {cur : Array Value} {xs : List Int} {N : Nat} (h : RowAt w g cur) (hN : xs.length = N) (hc : ∀ i, i < N → cur[i]? = some (.int .i64 (xs.getD i 0))) (at' : Nat) :
    ∀ j u, ((xs.drop at').map (Value.int .i64))[j]? = some u → w.cell? ⟨g, at' + j, none⟩ = some u := by
  intro j u hu
  subst hN
  rw [List.getElem?_map, List.getElem?_drop] at hu
  by_cases hj : at' + j < xs.length
  · rw [List.getElem?_eq_getElem hj] at hu
    simp at hu
    have e := h.cell (at' + j)
    rw [hc _ hj, List.getD_eq_getElem?_getD, List.getElem?_eq_getElem hj] at e
    simp at e
    rw [hu] at e
    exact e
  · rw [List.getElem?_eq_none (by omega)] at hu
    simp at hu

theorem RowAt.newsTake {w : World} {g : Nat} {cur : Array Value} {xs : List Int} {N : Nat} (h : RowAt w g cur) (hN : xs.length = N) (hc : ∀ i, i < N → cur[i]? = some (.int .i64 (xs.getD i 0))) (m : Nat) :
    ∀ j u, ((xs.take m).map (Value.int .i64))[j]? = some u → w.cell? ⟨g, j, none⟩ = some u := by
  intro j u hu
  have h0 := h.news hN hc 0 j u
  rw [Nat.zero_add] at h0
  refine h0 ?_
  rw [List.map_take, List.getElem?_take] at hu
  split at hu
  · simpa using hu
  · cases hu

theorem oneCells (xs : List Int) : ∀ u ∈ xs.map (Value.int .i64), u.oneCell' = true := by
  intro u hu
  obtain ⟨x, _, rfl⟩ := List.mem_map.1 hu
  rfl

end Go.Proofs.Ytpdnehcaogdjiaa
