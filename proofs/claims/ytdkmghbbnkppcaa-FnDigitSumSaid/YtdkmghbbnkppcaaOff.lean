/- Lists of integers of a call's own that begin anywhere in their block; marks in them. -/
import Derived.Test.YtdkmghbbnkppcaaMark
import Derived.Test.YtdkmghbbnkppcaaRev
set_option linter.unusedVariables false
namespace Go.Proofs.Ytdkmghbbnkppcaa
open Go.ChangeShapes Go.WideShapes Go.ChangeAt Go.RowKit Go.Joins

def OwnO (w : World) (b : Nat) (v : Value) (xs : List Int) : Prop :=
  (v = .slice none 0 0 ∧ xs = []) ∨ ∃ g off cap cur, v = .slice (some ⟨g, off, none⟩) xs.length cap ∧ b ≤ g ∧ RowAt w g cur ∧ xs.length ≤ cap ∧ cap ≤ maxLen ∧ off + cap ≤ cur.size ∧ ∀ i, i < xs.length → cur[off + i]? = some (.int .i64 (xs.getD i 0))

def OffPost (xs : List Int) (w : World) (e : Ending) (w' : World) : Prop := ∃ v, e = .returned v ∧ OwnO w' w.heap.size v xs ∧ Below w.heap.size w w'

theorem OwnO.nil (w : World) (b : Nat) : OwnO w b (.slice none 0 0) [] := .inl ⟨rfl, rfl⟩

theorem OwnL.toO {w : World} {b : Nat} {v : Value} {xs : List Int} (h : OwnL w b v xs) : OwnO w b v xs := by
  by_cases h0 : xs.length = 0
  · have hx := List.length_eq_zero_iff.1 h0
    subst hx
    obtain ⟨_, h⟩ := h
    rcases h with ⟨rfl, _⟩ | ⟨g, cap, cur, rfl, hb, hg, hn, hm, hs, ht⟩
    · exact .inl ⟨rfl, rfl⟩
    · exact .inr ⟨g, 0, cap, cur, rfl, hb, hg, Nat.zero_le _, hm, by omega, fun i hi => by simp at hi⟩
  · obtain ⟨g, cap, cur, rfl, hb, hr, hs, hn, hm, hc⟩ := h.rowI rfl h0
    exact .inr ⟨g, 0, cap, cur, rfl, hb, hr, hn, hm, by omega, fun i hi => by rw [Nat.zero_add]; exact hc i hi⟩

theorem OwnO.cut {w : World} {b g a m c : Nat} {cur : Array Value} {xs : List Int} (hr : RowAt w g cur) (hb : b ≤ g) (hm : xs.length = m) (hc : m ≤ c) (hcm : c ≤ maxLen) (hs : a + c ≤ cur.size) (hx : ∀ i, i < m → cur[a + i]? = some (.int .i64 (xs.getD i 0))) :
    OwnO w b (.slice (some ⟨g, a, none⟩) m c) xs := by
  subst hm
  exact .inr ⟨g, a, c, cur, rfl, hb, hr, hc, hcm, hs, hx⟩

theorem OwnO.reads {w : World} {b : Nat} {v : Value} {xs : List Int} (h : OwnO w b v xs) : Reads w v xs := by
  rcases h with ⟨rfl, rfl⟩ | ⟨g, off, cap, cur, rfl, hb, hr, hn, hm, hs, hc⟩
  · exact ⟨none, 0, rfl, fun h => (h rfl).elim⟩
  · exact ⟨some ⟨g, off, none⟩, cap, rfl, fun _ => ⟨g, off, rfl, fun i hi => by rw [hr.cell, hc i hi]⟩⟩

theorem OwnO.mono {w : World} {b b' : Nat} {v : Value} {xs : List Int} (h : OwnO w b v xs) (hb : b' ≤ b) : OwnO w b' v xs := by
  rcases h with h | ⟨g, off, cap, cur, h1, h2, h3⟩
  · exact .inl h
  · exact .inr ⟨g, off, cap, cur, h1, Nat.le_trans hb h2, h3⟩

theorem OwnO.below {w w' : World} {b : Nat} {v : Value} {xs : List Int} (h : OwnO w b v xs) (hb : Below w.heap.size w w') : OwnO w' b v xs := by
  rcases h with h | ⟨g, off, cap, cur, h1, h2, h3, h4⟩
  · exact .inl h
  · exact .inr ⟨g, off, cap, cur, h1, h2, h3.below hb h3.lt, h4⟩

theorem OwnO.lt {w : World} {b : Nat} {v : Value} {xs : List Int} (h : OwnO w b v xs) : ∀ q, v.ownBlock = some q → b ≤ q ∧ q < w.heap.size := by
  intro q hq
  rcases h with ⟨rfl, rfl⟩ | ⟨g, off, cap, cur, rfl, h2, h3, h4⟩
  · simp [Value.ownBlock] at hq
  · simp [Value.ownBlock] at hq
    subst hq
    exact ⟨h2, h3.lt⟩

/-- the block and its cells, of a list that is not empty -/
theorem OwnO.cells {w : World} {b : Nat} {v : Value} {xs : List Int} {N : Nat} (h : OwnO w b v xs) (hN : xs.length = N) (h0 : N ≠ 0) :
    ∃ g off cap, v = .slice (some ⟨g, off, none⟩) N cap ∧ b ≤ g ∧ g < w.heap.size ∧ N ≤ cap ∧ ∀ i, i < N → w.cell? ⟨g, off + i, none⟩ = some (.int .i64 (xs.getD i 0)) := by
  subst hN
  rcases h with ⟨rfl, rfl⟩ | ⟨g, off, cap, cur, rfl, h2, h3, h4, h5, h6, h7⟩
  · exact (h0 rfl).elim
  · exact ⟨g, off, cap, rfl, h2, h3.lt, h4, fun i hi => by rw [h3.cell, h7 i hi]⟩

def MarkPostO (k : Int) (n b : Nat) (v : Value) (w : World) (e : Ending) (w' : World) : Prop :=
  e = .returned (.int .i64 (k + (n : Int))) ∧ OwnO w' b v (marksL k n) ∧ w.grownBy w' v.ownBlock ∧ w'.heap.size = w.heap.size

set_option maxHeartbeats 2000000 in
theorem markIntO_any (v : Value) (xs : List Int) (k : Int) (b : Nat) (w : World) (hv : OwnO w b v xs) (hn : xs.length ≤ 2000000) (hk0 : 0 ≤ k) (hk1 : k ≤ 2000000) :
    Calls Try.prog 50 #[v, .int .i64 k] w (MarkPostO k xs.length b v w) := by
  rcases hv with ⟨rfl, rfl⟩ | ⟨g, off, cap, cur, rfl, hbg, hg, hnc, hm, hs, hcont⟩
  · have hfin : MarkPostO k 0 b (.slice none 0 0) w (.returned (.int .i64 k)) w := ⟨by simp, .inl ⟨rfl, rfl⟩, World.grownBy.refl _ _, rfl⟩
    go_enter Try.func50, Try.ntmps50
    go_wp2_with fail
    go_loopw [5, 1] (fun i q wr => i = .int .i64 0 ∧ q = .int .i64 k ∧ wr = w) (fun _ _ _ => 0)
    case atStart => exact ⟨rfl, rfl, rfl⟩
    case round =>
      obtain ⟨rfl, rfl, rfl⟩ := hrel
      go_wp2
      go_ret
      exact hfin
  · have hr0 : RowAt w g cur := hg
    obtain ⟨sz, hsz0⟩ : ∃ z, cur.size = z := ⟨_, rfl⟩
    rw [hsz0] at hs
    clear hg hcont
    generalize hN : xs.length = n at *
    clear hN
    go_enter Try.func50, Try.ntmps50
    go_wp2_with fail
    go_loopw [1, 5] (fun q i wr => ∃ (j : Nat) (c : Array Value), i = .int .i64 j ∧ q = .int .i64 (k + (j : Int)) ∧ j ≤ n ∧ RowAt wr g c ∧ c.size = sz ∧ Hid (∀ i, i < j → c[off + i]? = some (.int .i64 (k + (i : Int)))) ∧ w.grownBy wr (some g) ∧ Hid (wr.heap.size = w.heap.size)) (fun _ i _ => n - (intOf i).toNat)
    case atStart => exact ⟨0, cur, rfl, by simp, by omega, hr0, hsz0, fun i hi => by omega, World.grownBy.refl _ _, rfl⟩
    case round =>
      obtain ⟨j, c, rfl, rfl, hj, hr, hs1, hd, hgr, hsz⟩ := hrel
      clear hr0 hsz0
      by_cases hjn : j < n
      · have hjn' : (j : Int) < n := by omega
        have c4 := hr.cell (off + j)
        obtain ⟨z4, e4⟩ : ∃ z, c[off + j]? = some z := ⟨_, Array.getElem?_eq_getElem (by omega)⟩
        rw [e4] at c4
        have f4 := hr.free (off + j)
        have r5 := hr.set (off + j) (.int .i64 (k + (j : Int)))
        clear e4 hr
        have HS := Lib.hid hs1
        clear hs1
        go_wp2_with fail
        go_roundw
        case rel =>
          refine ⟨j + 1, c.setIfInBounds (off + j) (.int .i64 (k + (j : Int))), by go_num, by rw [show k + ((j + 1 : Nat) : Int) = k + (j : Int) + 1 by omega], by omega, r5, by simp [HS.out], fun i hi => ?_, ?_, ?_⟩
          · by_cases hij : i = j
            · subst hij
              rw [Array.getElem?_setIfInBounds_self_of_lt (by rw [HS.out]; omega)]
            · rw [Array.getElem?_setIfInBounds, if_neg (by omega)]
              exact hd.out i (by omega)
          · exact ⟨hgr.os, hgr.tape, hgr.output, by simpa [World.setCell] using hgr.size, fun q hq hne => (Below.heap_setCell _ _ _ _ (by show q ≠ g; exact fun e => hne (by rw [e]))).trans (hgr.block q hq hne)⟩
          · show (wr.setCell ⟨g, off + j, none⟩ _).heap.size = _
            simp [World.setCell]; exact hsz.out
        case measure => simp only [intOf]; omega
      · have hjn' : decide ((j : Int) < n) = false := by simp; omega
        obtain rfl : j = n := by omega
        have ho : OwnO wr b (.slice (some ⟨g, off, none⟩) j cap) (marksL k j) := OwnO.cut hr hbg (marksL_length _ _) hnc hm (by omega) (fun i hi => by
            rw [marksL_getD _ _ _ hi]
            exact hd.out i hi)
        have hfin : MarkPostO k j b (.slice (some ⟨g, off, none⟩) j cap) w (.returned (.int .i64 (k + (j : Int)))) wr := ⟨rfl, ho, hgr, hsz.out⟩
        have HF := Lib.hid hfin
        clear hr hs1 hd hgr ho hfin
        go_wp2
        go_ret
        exact HF.out

set_option maxHeartbeats 2000000 in
theorem heldIntO_any (v : Value) (k : Int) (n : Nat) (w : World) (hv : Reads w v (marksL k n)) (hn : n ≤ 2000000) (hk0 : 0 ≤ k) (hk1 : k ≤ 2000000) :
    Calls Try.prog 51 #[v, .int .i64 k] w fun e w' => e = .returned (.int .i64 (k + (n : Int))) ∧ w = w' := by
  obtain ⟨a, cap, rfl, ha⟩ := hv
  rw [marksL_length] at *
  by_cases h0 : n = 0
  · subst h0
    clear ha
    go_enter Try.func51, Try.ntmps51
    go_wp2_with fail
    go_loop [1, 5] (fun q i => i = .int .i64 0 ∧ q = .int .i64 k) (fun _ _ => 0)
    case atStart => exact ⟨rfl, rfl⟩
    case round =>
      obtain ⟨rfl, rfl⟩ := hrel
      go_wp2
      go_ret
      exact ⟨ret_int (by simp), rfl⟩
  · obtain ⟨g, off, rfl, hg⟩ := ha (fun h => h0 (by have := marksL_length k n; rw [h] at this; simp at this; omega))
    clear ha
    have hG : Hid (∀ i, i < n → w.cell? ⟨g, off + i, none⟩ = some (.int .i64 (k + (i : Int)))) := Lib.hid (fun i hi => by rw [hg i hi, marksL_getD _ _ _ hi])
    clear hg
    go_enter Try.func51, Try.ntmps51
    go_wp2_with fail
    go_loop [1, 5] (fun q i => ∃ j : Nat, i = .int .i64 j ∧ q = .int .i64 (k + (j : Int)) ∧ j ≤ n) (fun _ i => n - (intOf i).toNat)
    case atStart => exact ⟨0, rfl, by simp, by omega⟩
    case round =>
      obtain ⟨j, rfl, rfl, hj⟩ := hrel
      by_cases hjn : j < n
      · have hjn' : (j : Int) < n := by omega
        have c1 := hG.out j hjn
        go_wp2_with fail
        go_round
        case rel => exact ⟨j + 1, by go_num, by rw [show k + ((j + 1 : Nat) : Int) = k + (j : Int) + 1 by omega], by omega⟩
        case measure => simp only [intOf]; omega
      · have hjn' : decide ((j : Int) < n) = false := by simp; omega
        obtain rfl : j = n := by omega
        go_wp2
        go_ret
        exact ⟨rfl, rfl⟩
end Go.Proofs.Ytdkmghbbnkppcaa
