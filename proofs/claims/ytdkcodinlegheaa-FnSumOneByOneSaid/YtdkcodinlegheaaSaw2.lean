/- Plain numbers: the turned pairs of the points of a turn, by the sum of products. -/
import Derived.Test.YtdkcodinlegheaaSaw
import Derived.Test.YtdkcodinlegheaaGOrd
import Derived.Test.YtdkcodinlegheaaGVis
set_option linter.unusedVariables false
namespace Go.Proofs.Ytdkcodinlegheaa
open N

theorem sumI_add (f g : Nat → Int) (m : Nat) : sumI (fun j => f j + g j) m = sumI f m + sumI g m := by
  induction m with
  | zero => rfl
  | succ m ih =>
    show sumI (fun j => f j + g j) m + (f m + g m) = sumI f m + f m + (sumI g m + g m)
    omega

theorem sumI_const (c : Int) (m : Nat) : sumI (fun _ => c) m = m * c := by
  induction m with
  | zero => simp [sumI]
  | succ m ih =>
    show sumI (fun _ => c) m + c = _
    rw [ih, show ((m + 1 : Nat) : Int) = (m : Int) + 1 by omega, Int.add_mul, Int.one_mul]

theorem sumI_first (f : Nat → Int) (m : Nat) : sumI f (m + 1) = f 0 + sumI (fun i => f (i + 1)) m := by
  induction m with
  | zero => show 0 + f 0 = f 0 + 0; omega
  | succ m ih =>
    show sumI f (m + 1) + f (m + 1) = f 0 + (sumI (fun i => f (i + 1)) m + f (m + 1))
    omega

theorem sumI_rev (f : Nat → Int) (m : Nat) : sumI f m = sumI (fun i => f (m - 1 - i)) m := by
  induction m with
  | zero => rfl
  | succ m ih =>
    rw [sumI_first (fun i => f (m + 1 - 1 - i))]
    show sumI f m + f m = f (m + 1 - 1 - 0) + _
    rw [ih]
    have e : sumI (fun i => f (m + 1 - 1 - (i + 1))) m = sumI (fun i => f (m - 1 - i)) m := sumI_congr fun i hi => by
      show f (m + 1 - 1 - (i + 1)) = f (m - 1 - i)
      rw [show m + 1 - 1 - (i + 1) = m - 1 - i by omega]
    rw [e, show m + 1 - 1 - 0 = m by omega]
    omega

/-- the points before that are greater -/
theorem greater_count {n s : Int} (h0 : 2 ≤ n) (m : Nat) (k : Nat) (hk : k ≤ m) :
    n * (((ptsL n s k).countP fun y => decide (pt n s m < y) : Nat) : Int) = sumI (fun i => pt n s i + pt n s ((m - i : Nat) : Int) - pt n s m) k := by
  induction k with
  | zero => simp [ptsL, sumI]
  | succ k ih =>
    have i := ih (by omega)
    rw [ptsL_succ, List.countP_append]
    show _ = sumI _ k + (pt n s k + pt n s ((m - k : Nat) : Int) - pt n s m)
    rw [← i]
    have hp := pt_add (n := n) s (k : Int) ((m - k : Nat) : Int) h0
    rw [show (k : Int) + ((m - k : Nat) : Int) = m by omega] at hp
    have l1 := pt_lo (n := n) s ((m - k : Nat) : Int) h0
    have l2 := pt_hi (n := n) s ((m - k : Nat) : Int) h0
    have e : (List.countP (fun y => decide (pt n s m < y)) [(k : Int) * s % n]) = if pt n s m < pt n s k then 1 else 0 := by
      show List.countP (fun y => decide (pt n s m < y)) [pt n s k] = _
      by_cases c : pt n s m < pt n s k
      · rw [if_pos c]; simp [c]
      · rw [if_neg c]; simp; omega
    rw [e]
    rcases hp with ⟨a, b⟩ | ⟨a, b⟩
    · rw [if_neg (by omega), Nat.add_zero]; omega
    · rw [if_pos (by omega), Int.natCast_add, Int.mul_add]
      simp
      omega

def sumP (n s : Int) (m : Nat) : Int := sumI (fun i => pt n s i) m

def sumQ (n s : Int) (m : Nat) : Int := sumI (fun i => (i : Int) * pt n s i) m

/-- the turned pairs of the first points -/
theorem pairs_sum {n s : Int} (h0 : 2 ≤ n) (m : Nat) : n * ((invL (ptsL n s m) : Nat) : Int) = (2 * m - 1) * sumP n s m - 3 * sumQ n s m := by
  induction m with
  | zero => simp [ptsL, invL, sumP, sumQ, sumI]
  | succ m ih =>
    rw [ptsL_succ, invL_snoc]
    have g := greater_count (s := s) h0 m m (Nat.le_refl _)
    have e : sumI (fun i => pt n s i + pt n s ((m - i : Nat) : Int) - pt n s m) m = 2 * sumP n s m + pt n s m - m * pt n s m := by
      rw [sumI_sub (fun i => pt n s i + pt n s ((m - i : Nat) : Int)) (fun _ => pt n s m), sumI_add (fun i => pt n s (i : Int)) (fun i => pt n s ((m - i : Nat) : Int)), sumI_const]
      have r : sumI (fun i => pt n s ((m - i : Nat) : Int)) m = sumP n s m + pt n s m := by
        have a := sumI_first (fun i => pt n s (i : Int)) m
        have b : sumI (fun i => pt n s ((m - i : Nat) : Int)) m = sumI (fun i => pt n s ((i + 1 : Nat) : Int)) m := by
          rw [sumI_rev (fun i => pt n s ((i + 1 : Nat) : Int))]
          exact sumI_congr fun i hi => by
            show pt n s ((m - i : Nat) : Int) = pt n s ((m - 1 - i + 1 : Nat) : Int)
            rw [show m - 1 - i + 1 = m - i by omega]
        have c : pt n s ((0 : Nat) : Int) = 0 := pt0 n s
        have d : sumI (fun i => pt n s (i : Int)) (m + 1) = sumP n s m + pt n s m := rfl
        rw [b]
        omega
      rw [r]
      show sumP n s m + (sumP n s m + pt n s m) - _ = _
      omega
    rw [e] at g
    have hp : sumP n s (m + 1) = sumP n s m + pt n s m := rfl
    have hq : sumQ n s (m + 1) = sumQ n s m + m * pt n s m := rfl
    rw [hp, hq, Int.natCast_add, Int.mul_add, ih]
    show _ + n * ((List.countP (fun y => decide (pt n s m < y)) (ptsL n s m) : Nat) : Int) = _
    rw [g]
    generalize sumP n s m = A
    generalize sumQ n s m = Q
    generalize pt n s m = p
    rw [show (2 * ((m + 1 : Nat) : Int) - 1) = 2 * (m : Int) - 1 + 2 by omega, Int.add_mul (2 * (m : Int) - 1) 2, Int.mul_add (2 * (m : Int) - 1), Int.sub_mul (2 * (m : Int)) 1 p, Int.mul_assoc, Int.one_mul]
    generalize (m : Int) * p = z
    generalize (2 * (m : Int) - 1) * A = y
    omega
end Go.Proofs.Ytdkcodinlegheaa
