/- Contracts of FirstPoints, of the program and of the model. Contract of FirstPoints of the model. Small laws of lists in memory: one number appended to a list of the call's own; an empty list that is made. Two numbers appended at once. -/
import Derived.Test.YtokmmbmkfpfmgaaList
import Derived.Test.YtokmmbmkfpfmgaaGFun
set_option linter.unusedVariables false
namespace Go.Proofs.Ytokmmbmkfpfmgaa
set_option maxRecDepth 4000
open Go.ChangeShapes Go.WideShapes Go.ChangeAt Go.RowKit Go.Joins

theorem infoInt : (Try.prog.info? 3).map (fun i => (i.zero, i.size, i.bytes)) = some (some (.int .i64 0), 1, 8) := by kernel_rfl

/-- the points at the first m times -/
def ptsL (n s : Int) (m : Nat) : List Int := (List.range m).map fun k : Nat => (k : Int) * s % n

theorem ptsL_length (n s : Int) (m : Nat) : (ptsL n s m).length = m := by simp [ptsL]

theorem ptsL_getD (n s : Int) (m k : Nat) (h : k < m) : (ptsL n s m).getD k 0 = (k : Int) * s % n := by
  simp [ptsL, List.getD_eq_getElem?_getD, h]

theorem ptsL_succ (n s : Int) (m : Nat) : ptsL n s (m + 1) = ptsL n s m ++ [(m : Int) * s % n] := by
  simp [ptsL, List.range_succ]

def firstF (n s m : Int) : List Int := if tok n s = true ∧ 1 ≤ m ∧ m ≤ n then ptsL n s m.toNat else []

theorem firstF_yes {n s m : Int} (h : tok n s = true) (h0 : 1 ≤ m) (h1 : m ≤ n) : firstF n s m = ptsL n s m.toNat := if_pos ⟨h, h0, h1⟩

theorem firstF_no {n s m : Int} (h : ¬ (tok n s = true ∧ 1 ≤ m ∧ m ≤ n)) : firstF n s m = [] := if_neg h

/-- block g holds the cells cur of integers -/
def RowAt (w : World) (g : Nat) (cur : Array Value) : Prop := w.heap[g]? = some (.cells cur 3 (0, 0))

theorem RowAt.cell {w : World} {g : Nat} {cur : Array Value} (h : RowAt w g cur) (i : Nat) : w.cell? ⟨g, i, none⟩ = cur[i]? := by unfold RowAt at h; simp [World.cell?, h]

theorem RowAt.free {w : World} {g : Nat} {cur : Array Value} (h : RowAt w g cur) (i : Nat) : w.frozen? ⟨g, i, none⟩ = false := by unfold RowAt at h; simp [World.frozen?, h]

theorem RowAt.lt {w : World} {g : Nat} {cur : Array Value} (h : RowAt w g cur) : g < w.heap.size := by unfold RowAt at h; exact (Array.getElem?_eq_some_iff.1 h).1

theorem RowAt.below {w w' : World} {g B : Nat} {cur : Array Value} (h : RowAt w g cur) (hb : Below B w w') (hg : g < B) : RowAt w' g cur := by unfold RowAt at *; rw [hb.block g hg]; exact h

theorem RowAt.set {w : World} {g : Nat} {cur : Array Value} (h : RowAt w g cur) (i : Nat) (v : Value) : RowAt (w.setCell ⟨g, i, none⟩ v) g (cur.setIfInBounds i v) := by
  unfold RowAt at *
  simp [World.setCell, Array.getElem?_modify, h]

theorem RowAt.own {w : World} {g b : Nat} {cur : Array Value} {xs : List Int} (h : RowAt w g cur) (hb : b ≤ g) (hm : xs.length ≤ 1000000) (hs : cur.size = xs.length) (hc : ∀ i, i < xs.length → cur[i]? = some (.int .i64 (xs.getD i 0))) : OwnL w b (.slice (some ⟨g, 0, none⟩) xs.length xs.length) xs := by
  refine ⟨by simp, .inr ⟨g, xs.length, cur, rfl, hb, h, Nat.le_refl _, by unfold maxLen; omega, by omega, ?_⟩⟩
  apply List.ext_getElem?
  intro i
  by_cases hi : i < xs.length
  · rw [Nat.mul_one, List.getElem?_take_of_lt hi, List.getElem?_map, List.getElem?_eq_getElem hi]
    have e := hc i hi
    rw [List.getD_eq_getElem?_getD, List.getElem?_eq_getElem hi] at e
    simpa using e
  · rw [List.getElem?_eq_none (by simp; omega), List.getElem?_eq_none (by simp; omega)]

theorem RowAt.of_own {w : World} {g b n cap : Nat} {xs : List Value} (h : w.ownsRow b 3 1 (.slice (some ⟨g, 0, none⟩) n cap) n xs) : ∃ cur, RowAt w g cur ∧ cur.size = cap ∧ n ≤ cap := by
  obtain ⟨_, h⟩ := h
  rcases h with ⟨h, _⟩ | ⟨g', cap', cur, hv, hb, hg, hn, hm, hs, ht⟩
  · cases h
  · injection hv with h1 h2 h3
    injection h1 with h1
    injection h1 with h1
    subst h1 h3
    exact ⟨cur, hg, by omega, hn⟩

def ListPost (xs : List Int) (w : World) (e : Ending) (w' : World) : Prop := ∃ v, e = .returned v ∧ OwnL w' w.heap.size v xs ∧ Below w.heap.size w w'

end Go.Proofs.Ytokmmbmkfpfmgaa

set_option linter.unusedVariables false
namespace Go.Proofs.Ytokmmbmkfpfmgaa
open Go.ChangeShapes Go.WideShapes Go.ChangeAt Go.RowKit Go.Joins

theorem OwnL.below {w w' : World} {b : Nat} {v : Value} {xs : List Int} (h : OwnL w b v xs) (hb : Below w.heap.size w w') : OwnL w' b v xs :=
  World.ownsRow.kept h (row := none) ⟨hb.os, hb.tape, hb.output, hb.size, fun k hk _ => hb.block k hk⟩ (by cases v.ownBlock <;> simp)

theorem OwnL.mono {w : World} {b b' : Nat} {v : Value} {xs : List Int} (h : OwnL w b v xs) (hb : b' ≤ b) : OwnL w b' v xs := by
  obtain ⟨h1, h2⟩ := h
  refine ⟨h1, ?_⟩
  rcases h2 with h2 | ⟨g, cap, cur, a1, a2, a3⟩
  · exact .inl h2
  · exact .inr ⟨g, cap, cur, a1, Nat.le_trans hb a2, a3⟩

end Go.Proofs.Ytokmmbmkfpfmgaa

set_option linter.unusedVariables false
namespace Go.Proofs.Ytokmmbmkfpfmgaa
open Go.ChangeShapes Go.WideShapes Go.ChangeAt Go.RowKit Go.Joins

theorem made_nil (W : World) : OwnL (W.alloc (.cells #[] 3)) W.heap.size (.slice (some ⟨W.heap.size, 0, none⟩) 0 0) [] :=
  World.ownsRow_made (base := W.heap.size) (e := 3) (size := 1) W #[] 0 (by simp) (by unfold maxLen; omega) rfl

/-- the cells of a list that is read -/
theorem Reads.cells {w : World} {v : Value} {xs : List Int} {N : Nat} (h : Reads w v xs) (hN : xs.length = N) :
    ∃ a cap, v = .slice a N cap ∧ (N ≠ 0 → ∃ g off, a = some ⟨g, off, none⟩ ∧ Hid (∀ j, j < N → w.cell? ⟨g, off + j, none⟩ = some (.int .i64 (xs.getD j 0)))) := by
  subst hN
  obtain ⟨a, cap, rfl, h⟩ := h
  refine ⟨a, cap, rfl, fun h0 => ?_⟩
  obtain ⟨g, off, e, hc⟩ := h (fun e => h0 (by rw [e]; rfl))
  exact ⟨g, off, e, fun j hj => hc j hj⟩

theorem nil_of_len {xs : List Int} (h : xs.length = 0) : xs = [] := List.length_eq_zero_iff.1 h

/-- a list that the call has begun: still the empty one that was made, or one in a block from c on -/
def OwnE (w : World) (b c : Nat) (v : Value) (xs : List Int) : Prop := (∃ g, v = .slice (some ⟨g, 0, none⟩) 0 0 ∧ xs = [] ∧ OwnL w b v xs) ∨ OwnL w c v xs

theorem OwnE.own {w : World} {b c : Nat} {v : Value} {xs : List Int} (h : OwnE w b c v xs) (hb : b ≤ c) : OwnL w b v xs := by
  rcases h with ⟨_, _, _, h⟩ | h
  · exact h
  · exact h.mono hb

theorem OwnE.below {w w' : World} {b c : Nat} {v : Value} {xs : List Int} (h : OwnE w b c v xs) (hb : Below w.heap.size w w') : OwnE w' b c v xs := by
  rcases h with ⟨g, e, e2, h⟩ | h
  · exact .inl ⟨g, e, e2, h.below hb⟩
  · exact .inr (h.below hb)

theorem OwnE.made (w : World) (c : Nat) : OwnE (w.alloc (.cells #[] 3)) w.heap.size c (.slice (some ⟨w.heap.size, 0, none⟩) 0 0) [] := .inl ⟨_, rfl, rfl, made_nil w⟩

end Go.Proofs.Ytokmmbmkfpfmgaa

set_option linter.unusedVariables false
namespace Go.Proofs.Ytokmmbmkfpfmgaa
open Go.ChangeShapes Go.WideShapes Go.ChangeAt Go.RowKit Go.Joins

end Go.Proofs.Ytokmmbmkfpfmgaa
