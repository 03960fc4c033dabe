/- Contracts of slices.Min, quotientsOk and slices.Backward. -/
import Derived.Test.YtbdgginamnllaaaFromS
import Derived.RangeFuncBox
import Derived.RangeFuncNested
import Derived.RangeFuncBound
import Derived.RangeFuncCalls
import Derived.RangeFuncLeaves
import Derived.Shelf.Abstract
import Derived.Shelf.RegionOpen
import Derived.OwnWalkIn
import Derived.TacticsInMore
import Derived.LoopNIn
import Derived.LoopIn
import Derived.Sort.QuietIn
set_option linter.unusedVariables false
set_option linter.unusedSimpArgs false
namespace Go.Proofs.Ytbdgginamnllaaa

set_option maxRecDepth 4000
open Go.ChangeShapes Go.WideShapes Go.ChangeAt Go.RowKit Go.Joins Go.Shelf

theorem take_one' (xs : List Int) {k : Nat} (h : k < xs.length) : xs.take (k + 1) = xs.take k ++ [xs.getD k 0] := by
  rw [List.take_succ_eq_append_getElem h, List.getD_eq_getElem?_getD, List.getElem?_eq_getElem h]; rfl

set_option maxHeartbeats 1000000 in
theorem min_any (g off N cap : Nat) (xs : List Int) (w : World) (hN : xs.length = N) (h1 : 1 ≤ N) (h8 : N ≤ 1000) (HC : Hid (∀ j, j < N → w.cell? ⟨g, off + j, none⟩ = some (.int .i64 (xs.getD j 0)))) :
    Calls Try.prog 68 #[.slice (some ⟨g, off, none⟩) N cap] w fun e w' => (∃ m : Int, e = .returned (.int .i64 m) ∧ ∀ c : Int, c ≤ m ↔ ∀ x ∈ xs, c ≤ x) ∧ w = w' := by
  have c0 := HC.out 0 (by omega)
  rw [Nat.add_zero] at c0
  have HN := Lib.hid hN
  have hn1 : decide ((N : Int) < 1) = false := by simp; omega
  have hn2 : (0 : Int) < N := by omega
  have H0 : Hid (∀ c : Int, c ≤ xs.getD 0 0 ↔ ∀ x ∈ xs.take 1, c ≤ x) := by
    show ∀ _, _
    intro c
    rw [take_one' xs (by omega)]
    simp
  generalize xs.getD 0 0 = x0 at *
  clear hN
  go_enter Try.func68, Try.ntmps68
  go_wp2_with fail
  go_loop [3, 4] (fun xm xi => ∃ (k : Nat) (m : Int), xm = .int .i64 m ∧ xi = .int .i64 k ∧ 1 ≤ k ∧ k ≤ N ∧ Hid (∀ c : Int, c ≤ m ↔ ∀ x ∈ xs.take k, c ≤ x)) (fun _ xi => N - (intOf xi).toNat)
  case atStart => exact ⟨1, x0, rfl, rfl, by omega, by omega, H0⟩
  case round =>
    obtain ⟨k, m, rfl, rfl, hk1, hk, HM⟩ := hrel
    by_cases hkm : k < N
    · have hkm' : (k : Int) < N := by omega
      have ck := HC.out k hkm
      have ht := take_one' xs (k := k) (by rw [HN.out]; exact hkm)
      generalize xs.getD k 0 = x at *
      have HM2 : Hid (∀ c : Int, c ≤ (if x < m then x else m) ↔ ∀ y ∈ xs.take (k + 1), c ≤ y) := by
        show ∀ _, _
        intro c
        rw [ht]
        have := HM.out c
        have hi : (if x < m then x else m) = min m x := by split <;> omega
        rw [hi]
        simp only [List.mem_append, List.mem_singleton]
        constructor
        · intro h y hy
          rcases hy with hy | rfl
          · exact this.1 (by omega) y hy
          · omega
        · intro h
          have h1 := this.2 (fun y hy => h y (.inl hy))
          have h2 := h x (.inr rfl)
          omega
      clear HM ht
      go_wp2_with fail
      go_round
      case rel => exact ⟨k + 1, _, rfl, by go_num, by omega, by omega, HM2⟩
      case measure => simp only [intOf]; omega
    · obtain rfl : k = N := by omega
      have hkm' : decide ((k : Int) < k) = false := by simp
      have HF : Hid (∀ c : Int, c ≤ m ↔ ∀ x ∈ xs, c ≤ x) := by
        have h := HM.out
        rw [List.take_of_length_le (by rw [HN.out]; exact Nat.le_refl _)] at h
        exact h
      clear HM
      go_wp2
      go_ret
      exact ⟨⟨_, rfl, HF.out⟩, rfl⟩

def qok (xs : List Int) : Prop := (1 ≤ xs.length ∧ xs.length ≤ 8 ∧ 2 ≤ xs.getD (xs.length - 1) 0) ∧ ∀ x ∈ xs, 1 ≤ x

set_option maxHeartbeats 1000000 in
theorem quotientsOk_any (v : Value) (xs : List Int) (w : World) (hv : Reads w v xs) (hx : xs.length ≤ 2000000) :
    Calls Try.prog 60 #[v] w fun e w' => (∃ b : Bool, e = .returned (.bool b) ∧ (b = true ↔ qok xs)) ∧ w = w' := by
  obtain ⟨N, hN⟩ : ∃ N, xs.length = N := ⟨_, rfl⟩
  obtain ⟨a, cap, rfl, HC0⟩ := hv.cells hN
  clear hv
  rw [hN] at hx
  by_cases h1 : N < 1
  · have h1' : (N : Int) < 1 := by omega
    have HQ : Hid (¬ qok xs) := fun h => by have := h.1.1; omega
    clear HC0 hN
    go_enter Try.func60, Try.ntmps60
    go_wp2
    go_ret
    exact ⟨⟨false, rfl, ⟨fun h => absurd h (by decide), fun h => absurd h HQ.out⟩⟩, rfl⟩
  · obtain ⟨g, off, rfl, HC⟩ := HC0 (by omega)
    have h1' : decide ((N : Int) < 1) = false := by simp; omega
    by_cases h2 : 8 < N
    · have h2' : (8 : Int) < N := by omega
      have HQ : Hid (¬ qok xs) := fun h => by have := h.1.2.1; omega
      clear HC0 hN
      go_enter Try.func60, Try.ntmps60
      go_wp2
      go_ret
      exact ⟨⟨false, rfl, ⟨fun h => absurd h (by decide), fun h => absurd h HQ.out⟩⟩, rfl⟩
    · have h2' : decide ((8 : Int) < N) = false := by simp; omega
      have cl := HC.out (N - 1) (by omega)
      have q0 : (0 : Int) ≤ (N : Int) - 1 := by omega
      have q1 : (N : Int) - 1 < N := by omega
      have q2 : ((N : Int) - 1).toNat = N - 1 := by omega
      have q3 : (1 : Int) ≤ N := by omega
      by_cases h3 : xs.getD (N - 1) 0 < 2
      · have HQ : Hid (¬ qok xs) := fun h => by have := h.1.2.2; rw [hN] at this; omega
        generalize xs.getD (N - 1) 0 = G at *
        clear HC0 hN
        go_enter Try.func60, Try.ntmps60
        go_wp2
        go_ret
        exact ⟨⟨false, rfl, ⟨fun h => absurd h (by decide), fun h => absurd h HQ.out⟩⟩, rfl⟩
      · have HQ : Hid (qok xs ↔ ∀ x ∈ xs, 1 ≤ x) := by
          show _ ↔ _
          exact ⟨fun h => h.2, fun h => ⟨by rw [hN]; omega, h⟩⟩
        have h3' : decide (xs.getD (N - 1) 0 < 2) = false := decide_eq_false h3
        have hm := min_any g off N cap xs w hN (by omega) (by omega) HC
        generalize xs.getD (N - 1) 0 = G at *
        clear HC0 hN
        go_enter Try.func60, Try.ntmps60
        go_wp2_with fail
        refine hm.mono ?_; rintro e w1 ⟨⟨m, rfl, hmm⟩, rfl⟩
        have HM : Hid (decide (1 ≤ m) = true ↔ qok xs) := by
          show _ ↔ _
          rw [HQ.out, decide_eq_true_iff]
          exact hmm 1
        clear hmm
        go_wp2
        go_ret
        exact ⟨⟨_, rfl, HM.out⟩, rfl⟩

set_option maxHeartbeats 400000 in
theorem backward_any (a : Option Addr) (len cap : Nat) (w : World) :
    Calls Try.prog 61 #[.slice a len cap] w fun e w' => e = .returned (.func (.func 69) #[] #[.pointer (some ⟨w.heap.size, 0, none⟩)]) ∧ w' = w.alloc (.cells #[.slice a len cap] 26) := by
  go_enter Try.func61, Try.ntmps61
  go_wp2
  go_ret
  exact ⟨rfl, rfl⟩
end Go.Proofs.Ytbdgginamnllaaa
