/- Contracts of toIntS, and of eqIntS for long lists; what an argument of integers reads as. -/
import Derived.Test.YtdkmghbbnkppcaaMark
import Derived.Test.YtdkmghbbnkppcaaGList
set_option linter.unusedVariables false
namespace Go.Proofs.Ytdkmghbbnkppcaa

set_option maxRecDepth 4000
open Go.ChangeShapes Go.WideShapes Go.ChangeAt Go.RowKit Go.Joins

theorem Reads.of_row {w : World} {a : Option Addr} {len cap : Nat} {zs : List Int} (h : IsRow .i64 w a len cap zs) : Reads w (.slice a len cap) (zs.take len) ∧ (zs.take len).length = len := by
  rcases h with ⟨rfl, rfl, rfl, rfl⟩ | ⟨x, rfl, hl, hm, hz, hc, hw⟩
  · exact ⟨⟨none, 0, rfl, fun h => absurd rfl h⟩, rfl⟩
  · have hlen : (zs.take len).length = len := by rw [List.length_take]; omega
    refine ⟨⟨some x, cap, by rw [hlen], fun h0 => ?_⟩, hlen⟩
    have hl0 : 0 < len := by
      rcases Nat.eq_zero_or_pos len with e | e
      · exact absurd (by rw [e]; rfl) h0
      · exact e
    obtain ⟨b, off, spot⟩ := x
    have h1 := hc 0 (by omega)
    have hspot : spot = none := by simpa [Addr.add] using World.cell?_spot h1
    subst hspot
    refine ⟨b, off, rfl, fun i hi => ?_⟩
    have h2 := hc i (by omega)
    rw [Addr.add_lit] at h2
    rw [h2, List.getD_eq_getElem?_getD, List.getD_eq_getElem?_getD, List.getElem?_take_of_lt (by omega)]

set_option maxHeartbeats 1000000 in
theorem eqIntS_big (v u : Value) (xs ys : List Int) (w : World) (hv : Reads w v xs) (hu : Reads w u ys) (hx : xs.length ≤ 2000000) (hy : ys.length ≤ 2000000) :
    Calls Try.prog 49 #[v, u] w fun e w' => e = .returned (.bool (decide (xs = ys))) ∧ ∃ n, w' = w.drewN n := by
  obtain ⟨a, cap, rfl, ha⟩ := hv
  obtain ⟨b, cap', rfl, hb⟩ := hu
  by_cases hl : xs.length = ys.length
  · have hl' : ((xs.length : Int) != (ys.length : Int)) = false := by simp; omega
    by_cases h0 : xs = []
    · subst h0
      have h1 : ys = [] := List.length_eq_zero_iff.1 hl.symm
      subst h1
      clear hl hl' ha hb
      go_enter Try.func49, Try.ntmps49
      go_wp2_with fail
      go_loopw [5] (fun i wr => i = .int .i64 0 ∧ wr = w) (fun _ _ => 0)
      case atStart => exact ⟨rfl, rfl⟩
      case round =>
        obtain ⟨rfl, rfl⟩ := hrel
        go_wp2
        go_ret
        exact ⟨ret_bool (by simp), 0, rfl⟩
    · have h1 : ys ≠ [] := fun h => h0 (List.length_eq_zero_iff.1 (by rw [hl, h]; rfl))
      obtain ⟨g, off, rfl, hg⟩ := ha h0
      obtain ⟨g', off', rfl, hg'⟩ := hb h1
      have HL := Lib.hid hl
      clear hl ha hb
      have hly := HL.out
      go_enter Try.func49, Try.ntmps49
      clear hly
      go_wp2_with fail
      go_loopw [5] (fun i wr => ∃ k n : Nat, i = .int .i64 k ∧ k ≤ xs.length ∧ Hid (xs.take k = ys.take k) ∧ wr = w.drewN n) (fun i _ => (xs.length - (intOf i).toNat))
      case atStart => exact ⟨0, 0, rfl, by omega, rfl, rfl⟩
      case round =>
        obtain ⟨k, n, rfl, hk, ht, rfl⟩ := hrel
        by_cases hlt : k < xs.length
        · have hlt2 : k < ys.length := by have := HL.out; omega
          have c1 := hg k hlt
          have c2 := hg' k hlt2
          have e1 : (k : Int) < xs.length := by omega
          have e2 : (k : Int) < ys.length := by omega
          have hn := take_next xs ys k ht.out hlt hlt2
          generalize hX : xs.getD k 0 = X at c1 hn
          generalize hY : ys.getD k 0 = Y at c2 hn
          have HX := Lib.hid hX
          have HY := Lib.hid hY
          have HN := Lib.hid hn
          clear hX hY hn hg hg'
          by_cases he : X = Y
          · subst he
            go_wp2_with fail
            go_quiet (fail)
            go_wp2_with fail
            go_roundw
            case rel => exact ⟨k + 1, n + nq, by go_num, by omega, HN.out (by trivial), by simp⟩
            case measure => simp only [intOf]; omega
          · have he' : (X != Y) = true := by rw [bne_iff_ne]; exact he
            have hne : xs ≠ ys := fun h => he (by rw [← HX.out, ← HY.out, h])
            go_wp2_with fail
            go_quiet (fail)
            go_wp2_with fail
            go_ret
            exact ⟨ret_bool (by simp [hne]), n + nq, by simp⟩
        · have hfin : xs = ys := by
            have h2 := ht.out
            rw [List.take_of_length_le (by omega), List.take_of_length_le (by have := HL.out; omega)] at h2
            exact h2
          have hlt' : decide ((k : Int) < xs.length) = false := by simp; omega
          clear hg hg'
          have HF := Lib.hid hfin
          clear hfin
          go_wp2
          go_ret
          exact ⟨ret_bool (by simp [HF.out]), n, rfl⟩
  · have hl' : ((xs.length : Int) != (ys.length : Int)) = true := by rw [bne_iff_ne]; omega
    have hne : xs ≠ ys := fun h => hl (by rw [h])
    have HN := Lib.hid hne
    clear hne ha hb
    go_enter Try.func49, Try.ntmps49
    go_wp2
    go_ret
    exact ⟨ret_bool (by simp [HN.out]), 0, rfl⟩


set_option maxHeartbeats 2000000 in
theorem toIntS_any (v : Value) (xs : List Int) (w : World) (hv : Reads w v xs) (hx : xs.length ≤ 1048576) :
    Calls Try.prog 52 #[v] w (ListPost xs w) := by
  obtain ⟨m, hm⟩ : ∃ m, xs.length = m := ⟨_, rfl⟩
  obtain ⟨a, cap, rfl, HC0⟩ := hv.cells hm
  rw [hm] at hx
  obtain ⟨i0, hi, iz0, iz1, iz2⟩ := info_parts infoInt
  have Hi := Lib.hid hi
  have HM := Lib.hid hm
  have HC : Hid (∀ j, j < m → ∃ g off, a = some ⟨g, off, none⟩ ∧ g < w.heap.size ∧ w.cell? ⟨g, off + j, none⟩ = some (.int .i64 (xs.getD j 0))) := fun j hj => by
    obtain ⟨g, off, e, h⟩ := HC0 (by omega)
    exact ⟨g, off, e, World.block_lt_of_cell? w _ (h.out j hj), h.out j hj⟩
  clear hi HC0 hv hm
  go_enter Try.func52, Try.ntmps52
  go_wp2_with (at_make; refine wpList_make_full _ rfl _ _ 26 rfl w.heap.size 3 i0 (.int .i64 0) 1 Try.underlying26 Hi.out iz0 iz1 .i64 .i64 _ _ m rfl rfl rfl rfl (by rw [iz2]; omega) (by unfold maxLen; omega) (by omega) ?_)
  intro w2 hown hgrow
  have hB2 : Below w.heap.size w w2 := ⟨hgrow.os, hgrow.tape, hgrow.output, hgrow.size, fun k hk => hgrow.block k hk (by simp)⟩
  obtain ⟨cur0, hr0, hs0, _⟩ := RowAt.of_own hown
  have hg0 := hr0.lt
  clear hown hgrow
  generalize hG : w.heap.size = G at *
  go_wp2_with fail
  go_loopw [4] (fun x wr => ∃ (k : Nat) (cur : Array Value), x = .int .i64 k ∧ k ≤ m ∧ RowAt wr G cur ∧ cur.size = m ∧ Hid (∀ i, i < k → cur[i]? = some (.int .i64 (xs.getD i 0))) ∧ Below G w wr) (fun x _ => m - (intOf x).toNat)
  case atStart => exact ⟨0, cur0, rfl, by omega, hr0, hs0, fun i hi => by omega, hB2⟩
  case round =>
    obtain ⟨k, cur, rfl, hk, hr, hs, hd, hB3⟩ := hrel
    clear hr0 hs0 hB2
    by_cases hkm : k < m
    · have hkm' : (k : Int) < m := by omega
      obtain ⟨g, off, rfl, g1, c1⟩ := HC.out k hkm
      have ck := (hB3.cell (p := ⟨g, off + k, none⟩) g1).trans c1
      have c4 := hr.cell k
      obtain ⟨z4, e4⟩ : ∃ z, cur[k]? = some z := ⟨_, Array.getElem?_eq_getElem (by omega)⟩
      rw [e4] at c4
      have f4 := hr.free k
      have HD2 : Hid (∀ X, xs.getD k 0 = X → ∀ i, i < k + 1 → (cur.setIfInBounds k (.int .i64 X))[i]? = some (.int .i64 (xs.getD i 0))) := by
        intro X hX i hi
        by_cases hik : i = k
        · subst hik
          rw [hX, Array.getElem?_setIfInBounds_self_of_lt (by rw [hs]; exact hkm)]
        · rw [Array.getElem?_setIfInBounds, if_neg (by omega)]
          exact hd.out i (by omega)
      obtain ⟨X, hX⟩ : ∃ X, xs.getD k 0 = X := ⟨_, rfl⟩
      have HD3 := Lib.hid (HD2.out X hX)
      rw [hX] at ck
      have r5 := hr.set k (.int .i64 X)
      have HS := Lib.hid hs
      clear hr c1 hX HD2 e4 hs
      go_wp2_with fail
      go_roundw
      case rel => exact ⟨k + 1, cur.setIfInBounds k (.int .i64 X), by go_num, by omega, r5, by simp [HS.out], HD3.out, hB3.setCell (Nat.le_refl _) _⟩
      case measure => simp only [intOf]; omega
    · obtain rfl : k = m := by omega
      have hkm' : decide ((k : Int) < k) = false := by simp
      have ho : OwnL wr G (.slice (some ⟨G, 0, none⟩) k k) xs := by
        have h := RowAt.ownCap (b := G) (cap := k) (xs := xs) hr (Nat.le_refl _) (by unfold maxLen; omega) (by rw [HM.out]; exact Nat.le_refl _) hs (fun i hi => by rw [HM.out] at hi; exact hd.out i hi)
        rwa [HM.out] at h
      subst hG
      clear hr hd
      go_wp2
      go_ret
      exact ⟨_, rfl, ho, hB3⟩
end Go.Proofs.Ytdkmghbbnkppcaa
