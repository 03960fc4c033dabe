/- Lists of integers in memory: what a slice reads as; the contracts of sameInts and eqIntS. -/
import Derived.Test.YtckkgjgfjnfeoaaDoorDraw
set_option linter.unusedVariables false
namespace Go.Proofs.YtckkgjgfjnfeoaaDoor
set_option maxRecDepth 4000
open Go.ChangeShapes Go.WideShapes Go.ChangeAt Go.RowKit Go.Joins

/-- the slice v reads as the list xs -/
def Reads (w : World) (v : Value) (xs : List Int) : Prop :=
  ∃ a cap, v = .slice a xs.length cap ∧ (xs ≠ [] → ∃ g off, a = some ⟨g, off, none⟩ ∧ ∀ i, i < xs.length → w.cell? ⟨g, off + i, none⟩ = some (.int .i64 (xs.getD i 0)))

/-- the slice v is the call's own, in a block from b on, and reads as xs -/
def OwnL (w : World) (b : Nat) (v : Value) (xs : List Int) : Prop := w.ownsRow b 3 1 v xs.length (xs.map (Value.int .i64))

theorem OwnL.reads {w : World} {b : Nat} {v : Value} {xs : List Int} (h : OwnL w b v xs) : Reads w v xs := by
  obtain ⟨_, h⟩ := h
  rcases h with ⟨rfl, h0⟩ | ⟨g, cap, cur, rfl, hb, hg, hn, hm, hs, ht⟩
  · have : xs = [] := List.length_eq_zero_iff.1 h0
    subst this
    exact ⟨none, 0, rfl, fun h => (h rfl).elim⟩
  · refine ⟨some ⟨g, 0, none⟩, cap, rfl, fun _ => ⟨g, 0, rfl, fun i hi => ?_⟩⟩
    have e : (cur.toList.take (xs.length * 1))[i]? = (xs.map (Value.int .i64))[i]? := by rw [ht]
    rw [Nat.mul_one, List.getElem?_take_of_lt hi] at e
    simp [World.cell?, hg]
    have e2 : cur[i]? = cur.toList[i]? := by simp
    rw [e2, e, List.getElem?_map, List.getElem?_eq_getElem hi]
    simp

theorem Reads.below {w w' : World} {v : Value} {xs : List Int} (h : Reads w v xs) (hb : Below w.heap.size w w') : Reads w' v xs := by
  obtain ⟨a, cap, h1, h2⟩ := h
  refine ⟨a, cap, h1, fun hx => ?_⟩
  obtain ⟨g, off, h3, h4⟩ := h2 hx
  exact ⟨g, off, h3, fun i hi => (hb.cell (p := ⟨g, off + i, none⟩) (World.block_lt_of_cell? w _ (h4 i hi))).trans (h4 i hi)⟩

theorem take_next (xs ys : List Int) (k : Nat) (h : xs.take k = ys.take k) (hx : k < xs.length) (hy : k < ys.length) (e : xs.getD k 0 = ys.getD k 0) : xs.take (k + 1) = ys.take (k + 1) := by
  rw [List.take_succ_eq_append_getElem hx, List.take_succ_eq_append_getElem hy, h]
  rw [List.getD_eq_getElem?_getD, List.getD_eq_getElem?_getD, List.getElem?_eq_getElem hx, List.getElem?_eq_getElem hy] at e
  simp at e
  rw [e]

set_option maxHeartbeats 1000000 in
theorem sameInts_any (v u : Value) (xs ys : List Int) (w : World) (hv : Reads w v xs) (hu : Reads w u ys) (hx : xs.length ≤ 1000000) (hy : ys.length ≤ 1000000) :
    Calls Tryd.prog 23 #[v, u] w fun e w' => e = .returned (.bool (decide (xs = ys))) ∧ ∃ n, w' = w.drewN n := by
  obtain ⟨a, cap, rfl, ha⟩ := hv
  obtain ⟨b, cap', rfl, hb⟩ := hu
  by_cases hl : xs.length = ys.length
  · have hl' : ((xs.length : Int) != (ys.length : Int)) = false := by simp; omega
    by_cases h0 : xs = []
    · subst h0
      have h1 : ys = [] := List.length_eq_zero_iff.1 hl.symm
      subst h1
      clear hl hl' ha hb
      go_enter Tryd.func23, Tryd.ntmps23
      go_wp2_with fail
      go_loopw [5] (fun i wr => i = .int .i64 0 ∧ wr = w) (fun _ _ => 0)
      case atStart => exact ⟨rfl, rfl⟩
      case round =>
        obtain ⟨rfl, rfl⟩ := hrel
        go_wp2
        go_ret
        exact ⟨ret_bool (by simp), 0, rfl⟩
    · have h1 : ys ≠ [] := fun h => h0 (List.length_eq_zero_iff.1 (by rw [hl, h]; rfl))
      obtain ⟨g, off, rfl, hg⟩ := ha h0
      obtain ⟨g', off', rfl, hg'⟩ := hb h1
      have HL := Lib.hid hl
      clear hl ha hb
      have hly := HL.out
      go_enter Tryd.func23, Tryd.ntmps23
      clear hly
      go_wp2_with fail
      go_loopw [5] (fun i wr => ∃ k n : Nat, i = .int .i64 k ∧ k ≤ xs.length ∧ Hid (xs.take k = ys.take k) ∧ wr = w.drewN n) (fun i _ => (xs.length - (intOf i).toNat))
      case atStart => exact ⟨0, 0, rfl, by omega, rfl, rfl⟩
      case round =>
        obtain ⟨k, n, rfl, hk, ht, rfl⟩ := hrel
        by_cases hlt : k < xs.length
        · have hlt2 : k < ys.length := by have := HL.out; omega
          have c1 := hg k hlt
          have c2 := hg' k hlt2
          have e1 : (k : Int) < xs.length := by omega
          have e2 : (k : Int) < ys.length := by omega
          have hn := take_next xs ys k ht.out hlt hlt2
          generalize hX : xs.getD k 0 = X at c1 hn
          generalize hY : ys.getD k 0 = Y at c2 hn
          have HX := Lib.hid hX
          have HY := Lib.hid hY
          have HN := Lib.hid hn
          clear hX hY hn hg hg'
          by_cases he : X = Y
          · subst he
            go_wp2_with fail
            go_quiet (fail)
            go_wp2_with fail
            go_roundw
            case rel => exact ⟨k + 1, n + nq, by go_num, by omega, HN.out (by trivial), by simp⟩
            case measure => simp only [intOf]; omega
          · have he' : (X != Y) = true := by rw [bne_iff_ne]; exact he
            have hne : xs ≠ ys := fun h => he (by rw [← HX.out, ← HY.out, h])
            go_wp2_with fail
            go_quiet (fail)
            go_wp2_with fail
            go_ret
            exact ⟨ret_bool (by simp [hne]), n + nq, by simp⟩
        · have hfin : xs = ys := by
            have h2 := ht.out
            rw [List.take_of_length_le (by omega), List.take_of_length_le (by have := HL.out; omega)] at h2
            exact h2
          have hlt' : decide ((k : Int) < xs.length) = false := by simp; omega
          clear hg hg'
          have HF := Lib.hid hfin
          clear hfin
          go_wp2
          go_ret
          exact ⟨ret_bool (by simp [HF.out]), n, rfl⟩
  · have hl' : ((xs.length : Int) != (ys.length : Int)) = true := by rw [bne_iff_ne]; omega
    have hne : xs ≠ ys := fun h => hl (by rw [h])
    have HN := Lib.hid hne
    clear hne ha hb
    go_enter Tryd.func23, Tryd.ntmps23
    go_wp2
    go_ret
    exact ⟨ret_bool (by simp [HN.out]), 0, rfl⟩

end Go.Proofs.YtckkgjgfjnfeoaaDoor
