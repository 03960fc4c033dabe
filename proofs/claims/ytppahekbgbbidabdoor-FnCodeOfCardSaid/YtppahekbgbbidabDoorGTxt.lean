/- Rows of texts in memory: blocks, lists of the call's own, one text put behind. Rows of texts, continued: lists of the call's own, one text put behind, looked for, put in its place. -/
import Derived.Test.YtppahekbgbbidabDoorGDraw
import Derived.Test.YtppahekbgbbidabDoorGCode
import Derived.BigRegion
import Derived.Laws.Cover1
set_option linter.unusedVariables false
namespace Go.Proofs.YtppahekbgbbidabDoor
open Go.ChangeShapes Go.WideShapes Go.ChangeAt Go.RowKit Go.Joins

theorem infoStr : (Tryd.prog.info? 9).map (fun i => (i.zero, i.size, i.bytes)) = some (some (.string ⟨#[]⟩), 1, 16) := by kernel_rfl

/-- block g holds the cells cur of texts -/
def RowS (w : World) (g : Nat) (cur : Array Value) : Prop := w.heap[g]? = some (.cells cur 9 (0, 0))

theorem RowS.cell {w : World} {g : Nat} {cur : Array Value} (h : RowS w g cur) (i : Nat) : w.cell? ⟨g, i, none⟩ = cur[i]? := by unfold RowS at h; simp [World.cell?, h]

theorem RowS.free {w : World} {g : Nat} {cur : Array Value} (h : RowS w g cur) (i : Nat) : w.frozen? ⟨g, i, none⟩ = false := by unfold RowS at h; simp [World.frozen?, h]

theorem RowS.lt {w : World} {g : Nat} {cur : Array Value} (h : RowS w g cur) : g < w.heap.size := by unfold RowS at h; exact (Array.getElem?_eq_some_iff.1 h).1

theorem RowS.below {w w' : World} {g B : Nat} {cur : Array Value} (h : RowS w g cur) (hb : Below B w w') (hg : g < B) : RowS w' g cur := by unfold RowS at *; rw [hb.block g hg]; exact h

theorem RowS.onlyR {w w' : World} {g r : Nat} {cur : Array Value} (h : RowS w g cur) (hb : OnlyR r w w') (hg : g ≠ r) : RowS w' g cur := by
  have := h.lt
  unfold RowS at *; rw [hb.block g this hg]; exact h

theorem RowS.new (w : World) (cur : Array Value) : RowS (w.alloc (.cells cur 9)) w.heap.size cur := by
  exact heap_alloc_new w _

theorem RowS.set {w : World} {g : Nat} {cur : Array Value} (h : RowS w g cur) (i : Nat) (v : Value) : RowS (w.setCell ⟨g, i, none⟩ v) g (cur.setIfInBounds i v) := by
  unfold RowS at *
  simp [World.setCell, Array.getElem?_modify, h]
end Go.Proofs.YtppahekbgbbidabDoor

set_option linter.unusedVariables false
namespace Go.Proofs.YtppahekbgbbidabDoor

set_option maxRecDepth 4000
open Go.ChangeShapes Go.WideShapes Go.ChangeAt Go.RowKit Go.Joins

def OwnS (w : World) (b : Nat) (v : Value) (xs : List ByteArray) : Prop := w.ownsRow b 9 1 v xs.length (xs.map Value.string)

theorem OwnS.below {w w' : World} {b : Nat} {v : Value} {xs : List ByteArray} (h : OwnS w b v xs) (hb : Below w.heap.size w w') : OwnS w' b v xs := by
  refine World.ownsRow.kept h (row := none) ⟨hb.os, hb.tape, hb.output, hb.size, fun k hk _ => hb.block k hk⟩ ?_
  cases e : v.ownBlock with
  | none => exact .inl rfl
  | some g => exact .inr (by simp)

theorem OwnS.mono {w : World} {b b' : Nat} {v : Value} {xs : List ByteArray} (h : OwnS w b v xs) (hb : b' ≤ b) : OwnS w b' v xs := by
  obtain ⟨h1, h2⟩ := h
  refine ⟨h1, ?_⟩
  rcases h2 with h2 | ⟨g, cap, cur, e, hg, h3⟩
  · exact .inl h2
  · exact .inr ⟨g, cap, cur, e, by omega, h3⟩

theorem getD_take_mapS {cur : Array Value} {xs : List ByteArray} (ht : cur.toList.take (xs.length * 1) = xs.map Value.string) (i : Nat) (hi : i < xs.length) : cur[i]? = some (.string (xs.getD i ⟨#[]⟩)) := by
  have e : (cur.toList.take (xs.length * 1))[i]? = (xs.map Value.string)[i]? := by rw [ht]
  rw [Nat.mul_one, List.getElem?_take_of_lt hi, List.getElem?_map, List.getElem?_eq_getElem hi] at e
  have e2 : cur[i]? = cur.toList[i]? := by simp
  rw [e2, e, List.getD_eq_getElem?_getD, List.getElem?_eq_getElem hi]
  rfl

/-- the block of a row that is the call's own and not empty -/
theorem OwnS.row {w : World} {b : Nat} {v : Value} {xs : List ByteArray} {N : Nat} (h : OwnS w b v xs) (hN : xs.length = N) (h0 : v ≠ .slice none 0 0) :
    ∃ g cap cur, v = .slice (some ⟨g, 0, none⟩) N cap ∧ b ≤ g ∧ RowS w g cur ∧ cur.size = cap ∧ N ≤ cap ∧ cap ≤ maxLen ∧ ∀ i, i < N → cur[i]? = some (.string (xs.getD i ⟨#[]⟩)) := by
  subst hN
  obtain ⟨_, h⟩ := h
  rcases h with ⟨rfl, _⟩ | ⟨g, cap, cur, rfl, hb, hg, hn, hm, hs, ht⟩
  · exact absurd rfl h0
  · exact ⟨g, cap, cur, rfl, hb, hg, by omega, hn, hm, getD_take_mapS ht⟩

theorem OwnS.some_of_len {w : World} {b : Nat} {v : Value} {xs : List ByteArray} (h : OwnS w b v xs) (h0 : xs.length ≠ 0) : v ≠ .slice none 0 0 := by
  rintro rfl
  obtain ⟨_, h⟩ := h
  rcases h with ⟨_, h⟩ | ⟨g, cap, cur, hv, _⟩
  · exact h0 h
  · cases hv

theorem RowS.ownS {w : World} {g b cap N : Nat} {cur : Array Value} {xs : List ByteArray} (h : RowS w g cur) (hb : b ≤ g) (hN : xs.length = N) (hs : cur.size = cap) (hn : N ≤ cap) (hm : cap ≤ maxLen) (hc : ∀ i, i < N → cur[i]? = some (.string (xs.getD i ⟨#[]⟩))) : OwnS w b (.slice (some ⟨g, 0, none⟩) N cap) xs := by
  subst hN
  refine ⟨by simp, .inr ⟨g, cap, cur, rfl, hb, h, hn, hm, by omega, ?_⟩⟩
  apply List.ext_getElem?
  intro i
  by_cases hi : i < xs.length
  · rw [Nat.mul_one, List.getElem?_take_of_lt hi, List.getElem?_map, List.getElem?_eq_getElem hi]
    have e := hc i hi
    rw [List.getD_eq_getElem?_getD, List.getElem?_eq_getElem hi] at e
    simpa using e
  · rw [List.getElem?_eq_none (by simp; omega), List.getElem?_eq_none (by simp; omega)]

/-- a list of the call's own, by its cells -/
theorem OwnS.cells {w : World} {b : Nat} {v : Value} {xs : List ByteArray} {N : Nat} (h : OwnS w b v xs) (hN : xs.length = N) :
    ∃ a cap, v = .slice a N cap ∧ Hid (∀ j, j < N → ∃ g, a = some ⟨g, 0, none⟩ ∧ w.cell? ⟨g, j, none⟩ = some (.string (xs.getD j ⟨#[]⟩))) := by
  by_cases h0 : v = .slice none 0 0
  · have hx : xs.length = 0 := by
      by_cases hx : xs.length = 0
      · exact hx
      · exact absurd h0 (h.some_of_len hx)
    refine ⟨none, 0, by rw [h0, ← hN, hx], fun j hj => by omega⟩
  · obtain ⟨g, cap, cur, rfl, _, hr, _, _, _, hc⟩ := h.row hN h0
    exact ⟨_, _, rfl, fun j hj => ⟨g, rfl, by rw [hr.cell, hc j hj]⟩⟩

theorem bytes_beq (x y : ByteArray) : (x.toList == y.toList) = decide (x = y) := by
  by_cases e : x = y
  · subst e; simp
  · rw [decide_eq_false e, beq_eq_false_iff_ne]
    intro h
    apply e
    apply ByteArray.ext
    have e1 : x.data = x.toList.toArray := by rw [ByteArray.toList_eq]
    have e2 : y.data = y.toList.toArray := by rw [ByteArray.toList_eq]
    rw [e1, e2, h]

theorem take_one' {α : Type} (xs : List α) {k : Nat} (h : k < xs.length) (d : α) : xs.take (k + 1) = xs.take k ++ [xs.getD k d] := by
  rw [List.take_add_one, List.getElem?_eq_getElem h, List.getD_eq_getElem?_getD, List.getElem?_eq_getElem h]
  rfl

def PermPost (b : Nat) (xs : List ByteArray) (w : World) (e : Ending) (w' : World) : Prop := ∃ v ys, e = .returned v ∧ OwnS w' b v ys ∧ ys.Perm xs ∧ Below b w w'

end Go.Proofs.YtppahekbgbbidabDoor
