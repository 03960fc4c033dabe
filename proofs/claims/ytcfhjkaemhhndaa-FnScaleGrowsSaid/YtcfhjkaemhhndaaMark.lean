/- Contracts of markIntS and heldIntS: marks are written into a list of the call's own, and found again. -/
import Derived.Test.YtcfhjkaemhhndaaGList
set_option linter.unusedVariables false
namespace Go.Proofs.Ytcfhjkaemhhndaa
open Go.ChangeShapes Go.WideShapes Go.ChangeAt Go.RowKit Go.Joins

def marksL (k : Int) (n : Nat) : List Int := (List.range n).map fun i : Nat => k + (i : Int)

theorem marksL_length (k : Int) (n : Nat) : (marksL k n).length = n := by simp [marksL]

theorem marksL_getD (k : Int) (n i : Nat) (h : i < n) : (marksL k n).getD i 0 = k + (i : Int) := by
  simp [marksL, List.getD_eq_getElem?_getD, h]

def MarkPost (k : Int) (n b : Nat) (v : Value) (w : World) (e : Ending) (w' : World) : Prop :=
  e = .returned (.int .i64 (k + (n : Int))) ∧ OwnL w' b v (marksL k n) ∧ w.grownBy w' v.ownBlock ∧ w'.heap.size = w.heap.size

theorem RowAt.ownCap {w : World} {g b cap : Nat} {cur : Array Value} {xs : List Int} (h : RowAt w g cur) (hb : b ≤ g) (hm : cap ≤ maxLen) (hx : xs.length ≤ cap) (hs : cur.size = cap) (hc : ∀ i, i < xs.length → cur[i]? = some (.int .i64 (xs.getD i 0))) : OwnL w b (.slice (some ⟨g, 0, none⟩) xs.length cap) xs := by
  refine ⟨by simp, .inr ⟨g, cap, cur, rfl, hb, h, hx, hm, by omega, ?_⟩⟩
  apply List.ext_getElem?
  intro i
  by_cases hi : i < xs.length
  · rw [Nat.mul_one, List.getElem?_take_of_lt hi, List.getElem?_map, List.getElem?_eq_getElem hi]
    have e := hc i hi
    rw [List.getD_eq_getElem?_getD, List.getElem?_eq_getElem hi] at e
    simpa using e
  · rw [List.getElem?_eq_none (by simp; omega), List.getElem?_eq_none (by simp; omega)]

set_option maxHeartbeats 2000000 in
theorem markIntS_any (v : Value) (xs : List Int) (k : Int) (b : Nat) (w : World) (hv : OwnL w b v xs) (hn : xs.length ≤ 100000) (hk0 : 0 ≤ k) (hk1 : k ≤ 100000) :
    Calls Try.prog 33 #[v, .int .i64 k] w (MarkPost k xs.length b v w) := by
  obtain ⟨hl, hv⟩ := hv
  rcases hv with ⟨rfl, h0⟩ | ⟨g, cap, cur, rfl, hbg, hg, hnc, hm, hs, hcont⟩
  · have hx : xs = [] := List.length_eq_zero_iff.1 h0
    subst hx
    have hfin : MarkPost k 0 b (.slice none 0 0) w (.returned (.int .i64 k)) w := ⟨by simp, World.ownsRow_nil _ _ _ _, World.grownBy.refl _ _, rfl⟩
    go_enter Try.func33, Try.ntmps33
    go_wp2_with fail
    go_loopw [5, 1] (fun i q wr => i = .int .i64 0 ∧ q = .int .i64 k ∧ wr = w) (fun _ _ _ => 0)
    case atStart => exact ⟨rfl, rfl, rfl⟩
    case round =>
      obtain ⟨rfl, rfl, rfl⟩ := hrel
      go_wp2
      go_ret
      exact hfin
  · have hr0 : RowAt w g cur := hg
    have hs0 : cur.size = cap := by omega
    clear hl hg hs hcont
    generalize hN : xs.length = n at *
    clear hN
    go_enter Try.func33, Try.ntmps33
    go_wp2_with fail
    go_loopw [1, 5] (fun q i wr => ∃ (j : Nat) (c : Array Value), i = .int .i64 j ∧ q = .int .i64 (k + (j : Int)) ∧ j ≤ n ∧ RowAt wr g c ∧ c.size = cap ∧ Hid (∀ i, i < j → c[i]? = some (.int .i64 (k + (i : Int)))) ∧ w.grownBy wr (some g) ∧ Hid (wr.heap.size = w.heap.size)) (fun _ i _ => n - (intOf i).toNat)
    case atStart => exact ⟨0, cur, rfl, by simp, by omega, hr0, hs0, fun i hi => by omega, World.grownBy.refl _ _, rfl⟩
    case round =>
      obtain ⟨j, c, rfl, rfl, hj, hr, hs, hd, hgr, hsz⟩ := hrel
      clear hr0 hs0
      by_cases hjn : j < n
      · have hjn' : (j : Int) < n := by omega
        have c4 := hr.cell j
        obtain ⟨z4, e4⟩ : ∃ z, c[j]? = some z := ⟨_, Array.getElem?_eq_getElem (by omega)⟩
        rw [e4] at c4
        have f4 := hr.free j
        have r5 := hr.set j (.int .i64 (k + (j : Int)))
        clear e4 hr
        have HS := Lib.hid hs
        clear hs
        go_wp2_with fail
        go_roundw
        case rel =>
          refine ⟨j + 1, c.setIfInBounds j (.int .i64 (k + (j : Int))), by go_num, by rw [show k + ((j + 1 : Nat) : Int) = k + (j : Int) + 1 by omega], by omega, r5, by simp [HS.out], fun i hi => ?_, ?_, ?_⟩
          · by_cases hij : i = j
            · subst hij
              rw [Array.getElem?_setIfInBounds_self_of_lt (by rw [HS.out]; omega)]
            · rw [Array.getElem?_setIfInBounds, if_neg (by omega)]
              exact hd.out i (by omega)
          · exact ⟨hgr.os, hgr.tape, hgr.output, by simpa [World.setCell] using hgr.size, fun q hq hne => (Below.heap_setCell _ _ _ _ (by show q ≠ g; exact fun e => hne (by rw [e]))).trans (hgr.block q hq hne)⟩
          · show (wr.setCell ⟨g, j, none⟩ _).heap.size = _
            simp [World.setCell]; exact hsz.out
        case measure => simp only [intOf]; omega
      · have hjn' : decide ((j : Int) < n) = false := by simp; omega
        obtain rfl : j = n := by omega
        have ho : OwnL wr b (.slice (some ⟨g, 0, none⟩) j cap) (marksL k j) := by
          have h := RowAt.ownCap (b := b) (cap := cap) (xs := marksL k j) hr hbg hm (by rw [marksL_length]; exact hnc) hs (fun i hi => by
            rw [marksL_length] at hi
            rw [marksL_getD _ _ _ hi]
            exact hd.out i hi)
          rwa [marksL_length] at h
        have hfin : MarkPost k j b (.slice (some ⟨g, 0, none⟩) j cap) w (.returned (.int .i64 (k + (j : Int)))) wr := ⟨rfl, ho, hgr, hsz.out⟩
        have HF := Lib.hid hfin
        clear hr hs hd hgr ho hfin
        go_wp2
        go_ret
        exact HF.out

set_option maxHeartbeats 2000000 in
theorem heldIntS_any (v : Value) (k : Int) (n : Nat) (w : World) (hv : Reads w v (marksL k n)) (hn : n ≤ 100000) (hk0 : 0 ≤ k) (hk1 : k ≤ 100000) :
    Calls Try.prog 34 #[v, .int .i64 k] w fun e w' => e = .returned (.int .i64 (k + (n : Int))) ∧ w = w' := by
  obtain ⟨a, cap, rfl, ha⟩ := hv
  rw [marksL_length] at *
  by_cases h0 : n = 0
  · subst h0
    clear ha
    go_enter Try.func34, Try.ntmps34
    go_wp2_with fail
    go_loop [1, 5] (fun q i => i = .int .i64 0 ∧ q = .int .i64 k) (fun _ _ => 0)
    case atStart => exact ⟨rfl, rfl⟩
    case round =>
      obtain ⟨rfl, rfl⟩ := hrel
      go_wp2
      go_ret
      exact ⟨ret_int (by simp), rfl⟩
  · obtain ⟨g, off, rfl, hg⟩ := ha (fun h => h0 (by have := marksL_length k n; rw [h] at this; simp at this; omega))
    clear ha
    have hG : Hid (∀ i, i < n → w.cell? ⟨g, off + i, none⟩ = some (.int .i64 (k + (i : Int)))) := Lib.hid (fun i hi => by rw [hg i hi, marksL_getD _ _ _ hi])
    clear hg
    go_enter Try.func34, Try.ntmps34
    go_wp2_with fail
    go_loop [1, 5] (fun q i => ∃ j : Nat, i = .int .i64 j ∧ q = .int .i64 (k + (j : Int)) ∧ j ≤ n) (fun _ i => n - (intOf i).toNat)
    case atStart => exact ⟨0, rfl, by simp, by omega⟩
    case round =>
      obtain ⟨j, rfl, rfl, hj⟩ := hrel
      by_cases hjn : j < n
      · have hjn' : (j : Int) < n := by omega
        have c1 := hG.out j hjn
        go_wp2_with fail
        go_round
        case rel => exact ⟨j + 1, by go_num, by rw [show k + ((j + 1 : Nat) : Int) = k + (j : Int) + 1 by omega], by omega⟩
        case measure => simp only [intOf]; omega
      · have hjn' : decide ((j : Int) < n) = false := by simp; omega
        obtain rfl : j = n := by omega
        go_wp2
        go_ret
        exact ⟨rfl, rfl⟩
end Go.Proofs.Ytcfhjkaemhhndaa
