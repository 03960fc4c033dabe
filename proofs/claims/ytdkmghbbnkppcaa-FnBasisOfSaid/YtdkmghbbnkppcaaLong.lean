/- Contracts of GapsLong, of the program and of the model, and of ascend. -/
import Derived.Test.YtdkmghbbnkppcaaGKinds
set_option linter.unusedVariables false
namespace Go.Proofs.Ytdkmghbbnkppcaa
open Go.ChangeShapes Go.WideShapes Go.ChangeAt Go.RowKit Go.Joins N

def longF (n s m x : Int) : Int := if gapsF n s m = [] then -1 else ((gapsF n s m).count x : Nat)

/-- is each number less than the next one -/
def ascB (xs : List Int) (k : Nat) : Prop := ∀ i, i + 1 < k → xs.getD i 0 < xs.getD (i + 1) 0

theorem ascB_iff (xs : List Int) : ascB xs xs.length ↔ xs.Pairwise (· < ·) := by
  constructor
  · intro h
    refine List.pairwise_iff_getElem.2 fun i j hi hj hij => ?_
    have key : ∀ d, i + (d + 1) < xs.length → xs.getD i 0 < xs.getD (i + (d + 1)) 0 := by
      intro d
      induction d with
      | zero => intro hd; exact h i hd
      | succ d ih =>
        intro hd
        have a := ih (by omega)
        have b := h (i + (d + 1)) (by omega)
        rw [show i + (d + 1 + 1) = i + (d + 1) + 1 by omega]
        omega
    have := key (j - i - 1) (by omega)
    rw [show i + (j - i - 1 + 1) = j by omega, List.getD_eq_getElem?_getD, List.getD_eq_getElem?_getD, List.getElem?_eq_getElem hi, List.getElem?_eq_getElem hj] at this
    exact this
  · intro h i hi
    exact asc_getD h 0 (by omega) hi

set_option maxHeartbeats 1000000 in
theorem ascend_any (v : Value) (xs : List Int) (w : World) (hv : Reads w v xs) (hx : xs.length ≤ 1000000) (hasc : xs.Pairwise (· < ·)) :
    Calls Try.prog 27 #[v] w fun e w' => e = .returned (.bool true) ∧ ∃ n, w' = w.drewN n := by
  obtain ⟨N, hN⟩ : ∃ N, xs.length = N := ⟨_, rfl⟩
  obtain ⟨a, cap, rfl, HC0⟩ := hv.cells hN
  have HA := Lib.hid hasc
  rw [hN] at hx
  by_cases h0 : N = 0
  · subst h0
    clear HC0
    go_enter Try.func27, Try.ntmps27
    go_wp2_with fail
    go_loopw [3] (fun i wr => i = .int .i64 1 ∧ wr = w) (fun _ _ => 0)
    case atStart => exact ⟨rfl, rfl⟩
    case round =>
      obtain ⟨rfl, rfl⟩ := hrel
      go_wp2
      go_ret
      exact ⟨rfl, 0, rfl⟩
  · obtain ⟨g, off, rfl, HC⟩ := HC0 h0
    have HN := Lib.hid hN
    clear HC0 hN hasc
    go_enter Try.func27, Try.ntmps27
    go_wp2_with fail
    go_loopw [3] (fun i wr => ∃ k q : Nat, i = .int .i64 ((k : Int) + 1) ∧ k + 1 ≤ N ∧ wr = w.drewN q) (fun i _ => N - (intOf i).toNat)
    case atStart => exact ⟨0, 0, rfl, by omega, rfl⟩
    case round =>
      obtain ⟨k, q, rfl, hk, rfl⟩ := hrel
      by_cases hlt : k + 1 < N
      · have hlt' : (k : Int) + 1 < N := by omega
        have hlt2 : (k : Int) < N := by omega
        have c1 := HC.out k (by omega)
        have c2 := HC.out (k + 1) hlt
        have hd := asc_getD HA.out 0 (by omega : k < k + 1) (by rw [HN.out]; exact hlt)
        generalize xs.getD k 0 = X at *
        generalize xs.getD (k + 1) 0 = Y at *
        have hd' : decide (Y ≤ X) = false := by simp; omega
        go_wp2_with fail
        go_quiet (fail)
        go_wp2_with fail
        go_roundw
        case rel => exact ⟨k + 1, q + nq, by go_num, by omega, by simp⟩
        case measure => simp only [intOf]; omega
      · have hlt' : decide ((k : Int) + 1 < N) = false := by simp; omega
        go_wp2
        go_ret
        exact ⟨rfl, q, rfl⟩
end Go.Proofs.Ytdkmghbbnkppcaa
