/- Contracts of countBelow and hasEachNumber of the program, and of PlaceIn and TurnedPairs, of the program and of the model. Contract of OrderOf of the program. Contract of OrderOf of the model. -/
import Derived.Test.YtdkcodinlegheaaGKinds
import Derived.Test.YtdkcodinlegheaaGOrd
import Derived.Test.YtdkcodinlegheaaGSort
set_option linter.unusedVariables false
namespace Go.Proofs.Ytdkcodinlegheaa
open Go.ChangeShapes Go.WideShapes Go.ChangeAt Go.RowKit Go.Joins N

/-- how many numbers of a row are less -/
def cntB (xs : List Int) (x : Int) : Nat := xs.countP fun y => decide (y < x)

theorem cntB_take {xs : List Int} {x X : Int} {k c : Nat} (h : k < xs.length) (hX : xs.getD k 0 = X) (hc : cntB (xs.take k) x = c) : cntB (xs.take (k + 1)) x = if X < x then c + 1 else c := by
  unfold cntB at *
  rw [take_one xs h, List.countP_append, hc, hX]
  by_cases e : X < x
  · rw [if_pos e]; simp [e]
  · rw [if_neg e]; simp [e]

theorem cntB_le (xs : List Int) (x : Int) : cntB xs x ≤ xs.length := List.countP_le_length

set_option maxHeartbeats 1000000 in
theorem countBelow_any (v : Value) (xs : List Int) (x : Int) (w : World) (hv : Reads w v xs) (hx : xs.length ≤ 1000000) :
    Calls Try.prog 61 #[v, .int .i64 x] w fun e w' => e = .returned (.int .i64 ((cntB xs x : Nat) : Int)) ∧ w = w' := by
  obtain ⟨N, hN⟩ : ∃ N, xs.length = N := ⟨_, rfl⟩
  obtain ⟨a, cap, rfl, HC0⟩ := hv.cells hN
  clear hv
  rw [hN] at hx
  by_cases h0 : N = 0
  · subst h0
    obtain rfl := nil_of_len hN
    clear HC0 hN
    go_enter Try.func61, Try.ntmps61
    go_wp2_with fail
    go_loop [5, 10] (fun y i => y = .int .i64 0 ∧ i = .int .i64 0) (fun _ _ => 0)
    case atStart => exact ⟨rfl, rfl⟩
    case round =>
      obtain ⟨rfl, rfl⟩ := hrel
      go_wp2
      go_ret
      exact ⟨rfl, rfl⟩
  · obtain ⟨g, off, rfl, HC⟩ := HC0 h0
    have HN := Lib.hid hN
    clear HC0 hN
    go_enter Try.func61, Try.ntmps61
    go_wp2_with fail
    go_loop [5, 10] (fun y i => ∃ k c : Nat, i = .int .i64 k ∧ y = .int .i64 c ∧ k ≤ N ∧ c ≤ k ∧ Hid (cntB (xs.take k) x = c)) (fun _ i => N - (intOf i).toNat)
    case atStart => exact ⟨0, 0, rfl, rfl, by omega, by omega, by show _ = _; simp [cntB]⟩
    case round =>
      obtain ⟨k, c, rfl, rfl, hk, hc, HK⟩ := hrel
      by_cases hkm : k < N
      · have hkm' : (k : Int) < N := by omega
        have ck := HC.out k hkm
        have hS : ∀ X, xs.getD k 0 = X → cntB (xs.take (k + 1)) x = if X < x then c + 1 else c := fun X hX => cntB_take (by rw [HN.out]; exact hkm) hX HK.out
        generalize xs.getD k 0 = X at *
        have hS2 := hS X rfl
        clear hS
        by_cases he : X < x
        · rw [if_pos he] at hS2
          have HK2 := Lib.hid hS2
          clear hS2
          go_wp2_with fail
          go_round
          case rel => exact ⟨k + 1, c + 1, by go_num, by go_num, by omega, by omega, HK2.out⟩
          case measure => simp only [intOf]; omega
        · rw [if_neg he] at hS2
          have HK2 := Lib.hid hS2
          have he' : decide (X < x) = false := by simpa using he
          clear hS2
          go_wp2_with fail
          go_round
          case rel => exact ⟨k + 1, c, by go_num, by trivial, by omega, by omega, HK2.out⟩
          case measure => simp only [intOf]; omega
      · obtain rfl : k = N := by omega
        have hkm' : decide ((k : Int) < k) = false := by simp
        have HK2 : Hid (cntB xs x = c) := by
          have h := HK.out
          rwa [List.take_of_length_le (by rw [HN.out]; omega)] at h
        clear HC
        go_wp2
        go_ret
        exact ⟨ret_int (by rw [HK2.out]), rfl⟩

/-- has a row each number that is less than its length -/
def eachN (xs : List Int) : Prop := ∀ i : Nat, i < xs.length → (i : Int) ∈ xs

/-- a truth value comes back, which says whether p holds; nothing has changed -/
def BoolPost (p : Prop) (w : World) (e : Ending) (w' : World) : Prop := (∃ b : Bool, e = .returned (.bool b) ∧ (b = true ↔ p)) ∧ w = w'

/-- how many of the first so many points are less -/
def placeF (n s m i : Int) : Int := if tok n s = true ∧ 1 ≤ m ∧ m ≤ n ∧ 0 ≤ i ∧ i < m then (lessT n s (pt n s i) m.toNat : Nat) else -1

theorem placeF_yes {n s : Int} {m i : Nat} (h : tok n s = true) (h1 : 1 ≤ m) (hm : (m : Int) ≤ n) (hi : i < m) : placeF n s m i = (lessT n s (pt n s i) m : Nat) := by
  unfold placeF
  rw [if_pos ⟨h, by omega, hm, by omega, by omega⟩, Int.toNat_natCast]

theorem placeF_no {n s m i : Int} (h : ¬ (tok n s = true ∧ 1 ≤ m ∧ m ≤ n ∧ 0 ≤ i ∧ i < m)) : placeF n s m i = -1 := if_neg h

theorem cntB_pts (n s x : Int) (m : Nat) : cntB (ptsL n s m) x = lessT n s x m := by
  unfold cntB ptsL lessT
  rw [List.countP_map]
  rfl

theorem cntB_ptsTake {n s x : Int} {m k : Nat} (h : k ≤ m) : cntB ((ptsL n s m).take k) x = lessT n s x k := by
  have e : (ptsL n s m).take k = ptsL n s k := by
    unfold ptsL
    rw [← List.map_take, List.take_range, Nat.min_eq_left h]
  rw [e, cntB_pts]

end Go.Proofs.Ytdkcodinlegheaa

set_option linter.unusedVariables false
namespace Go.Proofs.Ytdkcodinlegheaa
open Go.ChangeShapes Go.WideShapes Go.ChangeAt Go.RowKit Go.Joins N

def orderF (n s m : Int) : List Int := if tok n s = true ∧ 1 ≤ m ∧ m ≤ n then ordT n s m.toNat else []

theorem orderF_yes {n s : Int} {m : Nat} (h : tok n s = true) (h0 : 1 ≤ m) (h1 : (m : Int) ≤ n) : orderF n s m = ordT n s m := by
  unfold orderF
  rw [if_pos ⟨h, by omega, h1⟩, Int.toNat_natCast]

theorem orderF_no {n s m : Int} (h : ¬ (tok n s = true ∧ 1 ≤ m ∧ m ≤ n)) : orderF n s m = [] := if_neg h

theorem orderF_len (n s m : Int) : (orderF n s m).length ≤ 60 := by
  unfold orderF
  split
  · rename_i h
    have := tok_bd h.1
    rw [ordT_length]; omega
  · simp

/-- each place holds the time whose place it is -/
theorem place_ordT {n s : Int} (ht : tok n s = true) {m : Nat} (hm : (m : Int) ≤ n) {i : Nat} (hi : i < m) : ∃ t : Nat, t < m ∧ (ordT n s m).getD i 0 = t ∧ lessT n s (pt n s t) m = i := by
  obtain ⟨t, t1, t2, t3⟩ := ordT_at ht hm hi
  obtain ⟨p1, _, p3⟩ := place_at ht hm t1
  refine ⟨t, t1, t2, ?_⟩
  generalize lessT n s (pt n s t) m = j at *
  have h := srt_asc (turns_of ht) hm
  rcases Nat.lt_trichotomy i j with c | c | c
  · have := asc_getD h n c (by rw [srt_length]; exact p1); omega
  · exact c.symm
  · have := asc_getD h n c (by rw [srt_length]; exact hi); omega

end Go.Proofs.Ytdkcodinlegheaa

set_option linter.unusedVariables false
namespace Go.Proofs.Ytdkcodinlegheaa
open Go.ChangeShapes Go.WideShapes Go.ChangeAt Go.RowKit Go.Joins N

theorem ordT_put {n s : Int} (ht : tok n s = true) {m : Nat} (hm : (m : Int) < n) :
    ordT n s (m + 1) = (ordT n s m).take (lessT n s (pt n s m) m) ++ (m : Int) :: (ordT n s m).drop (lessT n s (pt n s m) m) := by
  have e : timeF n s (pt n s m) = m := timeF_of ht (by omega) (by omega) rfl
  unfold ordT
  rw [srt_more (turns_of ht) hm, List.map_append, List.map_cons, e, List.map_take, List.map_drop]

end Go.Proofs.Ytdkcodinlegheaa
