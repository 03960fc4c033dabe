/- Lists of integers of a call's own that begin anywhere in their block; marks in them. -/
import Derived.Test.YtnpaicdbmmfdhaaMark
import Derived.Test.YtnpaicdbmmfdhaaRev
set_option linter.unusedVariables false
namespace Go.Proofs.Ytnpaicdbmmfdhaa
open Go.ChangeShapes Go.WideShapes Go.ChangeAt Go.RowKit Go.Joins

def OwnO (w : World) (b : Nat) (v : Value) (xs : List Int) : Prop :=
  (v = .slice none 0 0 ∧ xs = []) ∨ ∃ g off cap cur, v = .slice (some ⟨g, off, none⟩) xs.length cap ∧ b ≤ g ∧ RowAt w g cur ∧ xs.length ≤ cap ∧ cap ≤ maxLen ∧ off + cap ≤ cur.size ∧ ∀ i, i < xs.length → cur[off + i]? = some (.int .i64 (xs.getD i 0))

def OffPost (xs : List Int) (w : World) (e : Ending) (w' : World) : Prop := ∃ v, e = .returned v ∧ OwnO w' w.heap.size v xs ∧ Below w.heap.size w w'

theorem OwnO.nil (w : World) (b : Nat) : OwnO w b (.slice none 0 0) [] := .inl ⟨rfl, rfl⟩

theorem OwnL.toO {w : World} {b : Nat} {v : Value} {xs : List Int} (h : OwnL w b v xs) : OwnO w b v xs := by
  by_cases h0 : xs.length = 0
  · have hx := List.length_eq_zero_iff.1 h0
    subst hx
    obtain ⟨_, h⟩ := h
    rcases h with ⟨rfl, _⟩ | ⟨g, cap, cur, rfl, hb, hg, hn, hm, hs, ht⟩
    · exact .inl ⟨rfl, rfl⟩
    · exact .inr ⟨g, 0, cap, cur, rfl, hb, hg, Nat.zero_le _, hm, by omega, fun i hi => by simp at hi⟩
  · obtain ⟨g, cap, cur, rfl, hb, hr, hs, hn, hm, hc⟩ := h.rowI rfl h0
    exact .inr ⟨g, 0, cap, cur, rfl, hb, hr, hn, hm, by omega, fun i hi => by rw [Nat.zero_add]; exact hc i hi⟩

theorem OwnO.cut {w : World} {b g a m c : Nat} {cur : Array Value} {xs : List Int} (hr : RowAt w g cur) (hb : b ≤ g) (hm : xs.length = m) (hc : m ≤ c) (hcm : c ≤ maxLen) (hs : a + c ≤ cur.size) (hx : ∀ i, i < m → cur[a + i]? = some (.int .i64 (xs.getD i 0))) :
    OwnO w b (.slice (some ⟨g, a, none⟩) m c) xs := by
  subst hm
  exact .inr ⟨g, a, c, cur, rfl, hb, hr, hc, hcm, hs, hx⟩

theorem OwnO.reads {w : World} {b : Nat} {v : Value} {xs : List Int} (h : OwnO w b v xs) : Reads w v xs := by
  rcases h with ⟨rfl, rfl⟩ | ⟨g, off, cap, cur, rfl, hb, hr, hn, hm, hs, hc⟩
  · exact ⟨none, 0, rfl, fun h => (h rfl).elim⟩
  · exact ⟨some ⟨g, off, none⟩, cap, rfl, fun _ => ⟨g, off, rfl, fun i hi => by rw [hr.cell, hc i hi]⟩⟩

theorem OwnO.mono {w : World} {b b' : Nat} {v : Value} {xs : List Int} (h : OwnO w b v xs) (hb : b' ≤ b) : OwnO w b' v xs := by
  rcases h with h | ⟨g, off, cap, cur, h1, h2, h3⟩
  · exact .inl h
  · exact .inr ⟨g, off, cap, cur, h1, Nat.le_trans hb h2, h3⟩

theorem OwnO.below {w w' : World} {b : Nat} {v : Value} {xs : List Int} (h : OwnO w b v xs) (hb : Below w.heap.size w w') : OwnO w' b v xs := by
  rcases h with h | ⟨g, off, cap, cur, h1, h2, h3, h4⟩
  · exact .inl h
  · exact .inr ⟨g, off, cap, cur, h1, h2, h3.below hb h3.lt, h4⟩

theorem OwnO.lt {w : World} {b : Nat} {v : Value} {xs : List Int} (h : OwnO w b v xs) : ∀ q, v.ownBlock = some q → b ≤ q ∧ q < w.heap.size := by
  intro q hq
  rcases h with ⟨rfl, rfl⟩ | ⟨g, off, cap, cur, rfl, h2, h3, h4⟩
  · simp [Value.ownBlock] at hq
  · simp [Value.ownBlock] at hq
    subst hq
    exact ⟨h2, h3.lt⟩

/-- the block and its cells, of a list that is not empty -/
theorem OwnO.cells {w : World} {b : Nat} {v : Value} {xs : List Int} {N : Nat} (h : OwnO w b v xs) (hN : xs.length = N) (h0 : N ≠ 0) :
    ∃ g off cap, v = .slice (some ⟨g, off, none⟩) N cap ∧ b ≤ g ∧ g < w.heap.size ∧ N ≤ cap ∧ ∀ i, i < N → w.cell? ⟨g, off + i, none⟩ = some (.int .i64 (xs.getD i 0)) := by
  subst hN
  rcases h with ⟨rfl, rfl⟩ | ⟨g, off, cap, cur, rfl, h2, h3, h4, h5, h6, h7⟩
  · exact (h0 rfl).elim
  · exact ⟨g, off, cap, rfl, h2, h3.lt, h4, fun i hi => by rw [h3.cell, h7 i hi]⟩

def MarkPostO (k : Int) (n b : Nat) (v : Value) (w : World) (e : Ending) (w' : World) : Prop :=
  e = .returned (.int .i64 (k + (n : Int))) ∧ OwnO w' b v (marksL k n) ∧ w.grownBy w' v.ownBlock ∧ w'.heap.size = w.heap.size

end Go.Proofs.Ytnpaicdbmmfdhaa
