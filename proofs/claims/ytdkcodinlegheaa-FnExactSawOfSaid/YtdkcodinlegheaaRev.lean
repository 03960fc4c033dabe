/- The contract of slices.Reverse on a list of the call's own, and the program's letters of a list. -/
import Derived.Test.YtdkcodinlegheaaGList
import Derived.Test.YtdkcodinlegheaaMark
set_option linter.unusedVariables false
namespace Go.Proofs.Ytdkcodinlegheaa

set_option maxRecDepth 4000
open Go.ChangeShapes Go.WideShapes Go.ChangeAt Go.RowKit Go.Joins

/-- the list with its first and last i numbers turned about -/
def revAt (xs : List Int) (i j : Nat) : Int := if j < i ∨ xs.length ≤ j + i then xs.getD (xs.length - 1 - j) 0 else xs.getD j 0

theorem revAt_zero (xs : List Int) (j : Nat) (h : j < xs.length) : revAt xs 0 j = xs.getD j 0 := by unfold revAt; rw [if_neg (by omega)]

theorem revAt_end (xs : List Int) (i j : Nat) (h : xs.length ≤ 2 * i + 1) (hj : j < xs.length) : revAt xs i j = xs.reverse.getD j 0 := by
  have e : xs.reverse.getD j 0 = xs.getD (xs.length - 1 - j) 0 := by
    rw [List.getD_eq_getElem?_getD, List.getD_eq_getElem?_getD, List.getElem?_reverse hj]
  rw [e]
  unfold revAt
  by_cases c : j < i ∨ xs.length ≤ j + i
  · rw [if_pos c]
  · rw [if_neg c, show xs.length - 1 - j = j by omega]

theorem revAt_lo (xs : List Int) (i : Nat) (h : 2 * i + 1 < xs.length) : revAt xs i i = xs.getD i 0 ∧ revAt xs i (xs.length - 1 - i) = xs.getD (xs.length - 1 - i) 0 := by
  unfold revAt
  exact ⟨if_neg (by omega), if_neg (by omega)⟩

theorem revAt_next (xs : List Int) (i j : Nat) (h : 2 * i + 1 < xs.length) (hj : j < xs.length) :
    revAt xs (i + 1) j = if j = i then xs.getD (xs.length - 1 - i) 0 else if j = xs.length - 1 - i then xs.getD i 0 else revAt xs i j := by
  unfold revAt
  by_cases c1 : j = i
  · subst c1; rw [if_pos rfl, if_pos (by omega)]
  · rw [if_neg c1]
    by_cases c2 : j = xs.length - 1 - i
    · subst c2
      rw [if_pos rfl, if_pos (by omega), show xs.length - 1 - (xs.length - 1 - i) = i by omega]
    · rw [if_neg c2]
      by_cases c3 : j < i ∨ xs.length ≤ j + i
      · rw [if_pos c3, if_pos (by omega)]
      · rw [if_neg c3, if_neg (by omega)]

def RevPost (b : Nat) (v : Value) (xs : List Int) (w : World) (e : Ending) (w' : World) : Prop :=
  e = .returned (.tuple #[]) ∧ OwnL w' b v xs.reverse ∧ Below b w w' ∧ ∀ q, v.ownBlock ≠ some q → w'.heap[q]? = w.heap[q]?

theorem OwnL.rowI {w : World} {b : Nat} {v : Value} {xs : List Int} {N : Nat} (h : OwnL w b v xs) (hN : xs.length = N) (h0 : N ≠ 0) :
    ∃ g cap cur, v = .slice (some ⟨g, 0, none⟩) N cap ∧ b ≤ g ∧ RowAt w g cur ∧ cur.size = cap ∧ N ≤ cap ∧ cap ≤ maxLen ∧ ∀ i, i < N → cur[i]? = some (.int .i64 (xs.getD i 0)) := by
  subst hN
  obtain ⟨_, h⟩ := h
  rcases h with ⟨rfl, e⟩ | ⟨g, cap, cur, rfl, hb, hg, hn, hm, hs, ht⟩
  · exact absurd e h0
  · refine ⟨g, cap, cur, rfl, hb, hg, by omega, hn, hm, fun i hi => ?_⟩
    have e : (cur.toList.take (xs.length * 1))[i]? = (xs.map (Value.int .i64))[i]? := by rw [ht]
    rw [Nat.mul_one, List.getElem?_take_of_lt hi, List.getElem?_map, List.getElem?_eq_getElem hi] at e
    have e2 : cur[i]? = cur.toList[i]? := by simp
    rw [e2, e, List.getD_eq_getElem?_getD, List.getElem?_eq_getElem hi]
    rfl

set_option maxHeartbeats 2000000 in
theorem reverse_any (b : Nat) (v : Value) (xs : List Int) (w : World) (hv : OwnL w b v xs) (h0 : 1 ≤ xs.length) (hx : xs.length ≤ 1000) :
    Calls Try.prog 55 #[v] w (RevPost b v xs w) := by
  obtain ⟨n, hn⟩ : ∃ n, xs.length = n := ⟨_, rfl⟩
  obtain ⟨g, cap, cur, rfl, hbg, hr0, hs0, hnc, hm, hc0⟩ := hv.rowI hn (by omega)
  have hlast : Hid (∀ i, n ≤ 2 * i + 1 → ∀ j, j < n → revAt xs i j = xs.reverse.getD j 0) := fun i h j hj => revAt_end xs i j (by omega) (by omega)
  have hnext : Hid (∀ i j, 2 * i + 1 < n → j < n → revAt xs (i + 1) j = if j = i then xs.getD (n - 1 - i) 0 else if j = n - 1 - i then xs.getD i 0 else revAt xs i j) := fun i j h hj => by
    have := revAt_next xs i j (by omega) (by omega)
    rwa [hn] at this
  have hlo : Hid (∀ i, 2 * i + 1 < n → revAt xs i i = xs.getD i 0 ∧ revAt xs i (n - 1 - i) = xs.getD (n - 1 - i) 0) := fun i h => by
    have := revAt_lo xs i (by omega)
    rwa [hn] at this
  have hst : Hid (∀ j, j < n → cur[j]? = some (.int .i64 (revAt xs 0 j))) := fun j hj => by rw [hc0 j hj, revAt_zero xs j (by omega)]
  have HN := Lib.hid hn
  have hB0 := Below.refl b w
  have hn1 : n ≤ 1000 := by omega
  have hn2 : 1 ≤ n := by omega
  have hw0 : IntKind.i64.wrap ((n : Int) - 1) = (n : Int) - 1 := IntWalk.i64_in _ (by omega)
  clear hv hc0 hn
  go_enter Try.func55, Try.ntmps55
  go_wp2_with fail
  go_loopw [2, 3] (fun x y wr => ∃ (i : Nat) (c : Array Value), x = .int .i64 i ∧ y = .int .i64 ((n : Int) - 1 - i) ∧ 2 * i ≤ n + 1 ∧ RowAt wr g c ∧ c.size = cap ∧ Hid (∀ j, j < n → c[j]? = some (.int .i64 (revAt xs i j))) ∧ Hid (∀ q, q ≠ g → wr.heap[q]? = w.heap[q]?) ∧ Below b w wr) (fun x _ _ => n - (intOf x).toNat)
  case atStart => exact ⟨0, cur, rfl, by simp, by omega, hr0, hs0, hst, fun q _ => rfl, hB0⟩
  case round =>
    obtain ⟨i, c, rfl, rfl, hi, hr, hs, hd, HK, hB⟩ := hrel
    clear hr0 hs0 hst hB0
    by_cases hin : 2 * i + 1 < n
    · have hin' : (i : Int) < (n : Int) - 1 - i := by omega
      obtain ⟨d, hdd⟩ : ∃ d, n - 1 - i = d := ⟨_, rfl⟩
      have hdi : (n : Int) - 1 - i = d := by omega
      obtain ⟨l1, l2⟩ := hlo.out i hin
      have hnx := hnext.out i
      rw [hdd] at l2 hnx
      have a1 := hd.out i (by omega)
      have a2 := hd.out d (by omega)
      rw [l1] at a1
      rw [l2] at a2
      have c1 := hr.cell i
      have c2 := hr.cell d
      rw [a1] at c1
      rw [a2] at c2
      have f1 := hr.free i
      have f2 := hr.free d
      have hlt := hr.lt
      generalize hX : xs.getD i 0 = X at *
      generalize hY : xs.getD d 0 = Y at *
      have hid : i ≠ d := by omega
      have r5 := (hr.set i (.int .i64 Y)).set d (.int .i64 X)
      have hB5 := (hB.setCell (p := ⟨g, i, none⟩) (by simp; omega) (.int .i64 Y)).setCell (p := ⟨g, d, none⟩) (by simp; omega) (.int .i64 X)
      have r6 := (hr.set d (.int .i64 X)).set i (.int .i64 Y)
      have hnx' : Hid (∀ j, j < n → revAt xs (i + 1) j = if j = i then Y else if j = d then X else revAt xs i j) := fun j hj => hnx j hin hj
      have HX := Lib.hid hX
      have HY := Lib.hid hY
      have HD := Lib.hid hdd
      have HS := Lib.hid hs
      rw [hdi]
      have e1 : (d : Int) < n := by omega
      have e2 : (i : Int) < d := by omega
      have e3 : (i : Int) < n := by omega
      have hwd : IntKind.i64.wrap ((d : Int) - 1) = (d : Int) - 1 := IntWalk.i64_in _ (by omega)
      have hwi : IntKind.i64.wrap ((i : Int) + 1) = (i : Int) + 1 := IntWalk.i64_in _ (by omega)
      clear hnx l1 l2 hX hY hs hin'
      go_wp2_with fail
      go_region
      go_wp2_with fail
      go_roundw
      case rel =>
        refine ⟨i + 1, _, by go_num, ?_, by omega, r5, by simp [HS.out], fun j hj => ?_, fun q hq => ?_, Below.drew hB5⟩
        · rw [show (n : Int) - 1 - ((i + 1 : Nat) : Int) = (d : Int) - 1 by omega]
        · rw [hnx'.out j hj]
          by_cases j1 : j = i
          · subst j1
            rw [if_pos rfl, Array.getElem?_setIfInBounds, if_neg (by omega), Array.getElem?_setIfInBounds, if_pos rfl, if_pos (by rw [HS.out]; omega)]
          · rw [if_neg j1]
            by_cases j2 : j = d
            · subst j2
              rw [if_pos rfl, Array.getElem?_setIfInBounds, if_pos rfl, if_pos (by simp [HS.out]; omega)]
            · rw [if_neg j2, Array.getElem?_setIfInBounds, if_neg (by omega), Array.getElem?_setIfInBounds, if_neg (by omega)]
              exact hd.out j hj
        · refine Eq.trans ?_ (HK.out q hq)
          exact (Below.heap_setCell _ _ _ _ (by show q ≠ g; exact hq)).trans (Below.heap_setCell _ _ _ _ (by show q ≠ g; exact hq))
      case measure => simp only [intOf]; omega
    · have hin' : ¬ (i : Int) < (n : Int) - 1 - i := by omega
      have ho : OwnL wr b (.slice (some ⟨g, 0, none⟩) n cap) xs.reverse := by
        have hl : xs.reverse.length = n := by rw [List.length_reverse]; exact HN.out
        have h := RowAt.ownCap (b := b) (cap := cap) (xs := xs.reverse) hr hbg hm (by omega) hs (fun j hj => by
          rw [hl] at hj
          rw [hd.out j hj, hlast.out i (by omega) j hj])
        rwa [hl] at h
      clear hr hs hd
      go_wp2
      go_end0
      exact ⟨rfl, ho, hB, fun q hq => HK.out q (fun e => hq (by rw [e]; rfl))⟩
end Go.Proofs.Ytdkcodinlegheaa
