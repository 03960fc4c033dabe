/- How even points are: what chapter 11's functions answer, and what the laws say of it. -/
import Derived.Test.YtnpaicdbmmfdhaaFar
import Derived.Test.YtnpaicdbmmfdhaaNumG
import Derived.Test.YtnpaicdbmmfdhaaNumF
set_option linter.unusedVariables false
namespace Go.Proofs.Ytnpaicdbmmfdhaa

set_option maxRecDepth 4000
open N

/-- the greatest of so many numbers, without their signs, and 0 -/
def maxI (f : Nat → Int) : Nat → Int
  | 0 => 0
  | k + 1 => max (maxI f k) (max (f k) (-(f k)))

theorem maxI_succ (f : Nat → Int) (k : Nat) : maxI f (k + 1) = max (maxI f k) (max (f k) (-(f k))) := rfl

theorem maxI_pos (f : Nat → Int) (k : Nat) : 0 ≤ maxI f k := by
  induction k with
  | zero => exact Int.le_refl 0
  | succ k ih => rw [maxI_succ]; omega

theorem maxI_ge (f : Nat → Int) : ∀ k j, j < k → f j ≤ maxI f k ∧ -(f j) ≤ maxI f k := by
  intro k
  induction k with
  | zero => intro j h; omega
  | succ k ih =>
    intro j hj
    rw [maxI_succ]
    by_cases c : j = k
    · subst c; omega
    · have := ih j (by omega); omega

theorem maxI_le {f : Nat → Int} {B : Int} (h0 : 0 ≤ B) : ∀ k, (∀ j, j < k → f j ≤ B ∧ -B ≤ f j) → maxI f k ≤ B := by
  intro k
  induction k with
  | zero => intro _; exact h0
  | succ k ih =>
    intro h
    have a := ih fun j hj => h j (by omega)
    have b := h k (by omega)
    rw [maxI_succ]; omega

theorem maxI_zero {f : Nat → Int} (k : Nat) (h : ∀ j, j < k → f j = 0) : maxI f k = 0 := by
  have a := maxI_le (f := f) (Int.le_refl 0) k fun j hj => by rw [h j hj]; omega
  have b := maxI_pos f k
  omega

def farOkF (n s m : Int) : Bool := tok n s && (decide (0 ≤ m) && decide (m ≤ n))

theorem farOk_iff {n s m : Int} : farOkF n s m = true ↔ tok n s = true ∧ 0 ≤ m ∧ m ≤ n := by
  unfold farOkF
  simp only [Bool.and_eq_true, decide_eq_true_eq]

def farF (n s m : Int) : Int := if farOkF n s m = true then maxI (fun w => exC n s (w : Int) m.toNat) (n.toNat + 1) else -1

def fromFF (n s m u : Int) : Int := if farOkF n s m = true ∧ 0 ≤ u ∧ u ≤ n then maxI (fun f => devI n s (f : Int) u m.toNat) n.toNat else -1

theorem farF_no {n s m : Int} (h : ¬ farOkF n s m = true) : farF n s m = -1 := if_neg h

theorem fromFF_no {n s m u : Int} (h : ¬ (farOkF n s m = true ∧ 0 ≤ u ∧ u ≤ n)) : fromFF n s m u = -1 := if_neg h

theorem farF_yes {n s m : Nat} (ht : tokN n s = true) (hm : m ≤ n) : farF n s m = maxI (fun w => exC n s (w : Int) m) (n + 1) := by
  unfold farF
  rw [if_pos (farOk_iff.2 ⟨tok_of_tokN ht, by omega, by omega⟩)]
  rfl

theorem fromFF_yes {n s m u : Nat} (ht : tokN n s = true) (hm : m ≤ n) (hu : u ≤ n) : fromFF n s m u = maxI (fun f => devI n s (f : Int) u m) n := by
  unfold fromFF
  rw [if_pos ⟨farOk_iff.2 ⟨tok_of_tokN ht, by omega, by omega⟩, by omega, by omega⟩]
  rfl

/-- no arc is off by more than twice the size, for each digit -/
theorem far_sum {n s m : Nat} (ht : tokN n s = true) (hm : m < n) : Far n s m (2 * (n : Int) * ((sumD (digD (basAt n s) (bmN n s) m) (bmN n s) : Nat) : Int)) := by
  obtain ⟨b1, b2, _⟩ := tokN_bd ht
  have hs := bas_scale ht
  have hlt : m < basAt n s (bmN n s) := by rw [bas_end ht]; exact hm
  have h := Far.digits (n := (n : Int)) (s := (s : Int)) (by omega) (B := basAt n s) (d := digD (basAt n s) (bmN n s) m) (C := 2 * (n : Int)) (bmN n s) fun i hi => by
    have hq : basAt n s i ∈ basN n s := by
      rw [basAt_get hi, List.getD_eq_getElem?_getD, List.getElem?_eq_getElem (show i < (basN n s).length from hi)]
      simp
    exact far_near ht (bas_near _ hq) (bas_lt ht hi)
  rwa [dig_number hs hlt] at h

theorem far_bas {n s q : Nat} (ht : tokN n s = true) (hq : q ∈ basN n s) (hn : q < n) : Far n s q (2 * (n : Int)) := far_near ht (bas_near _ hq) hn

theorem farF_le {n s m : Nat} (ht : tokN n s = true) (hm : m ≤ n) {B : Int} (h0 : 0 ≤ B) (h : Far n s m B) : farF n s m ≤ B := by
  obtain ⟨b1, b2, _⟩ := tokN_bd ht
  rw [farF_yes ht hm]
  exact maxI_le h0 _ fun j hj => by
    have := h 0 j (by omega) (by omega) (by omega) (by omega)
    rw [devI_zero] at this
    exact this

theorem fromFF_le {n s m u : Nat} (ht : tokN n s = true) (hm : m ≤ n) (hu : u ≤ n) {B : Int} (h0 : 0 ≤ B) (h : Far n s m B) : fromFF n s m u ≤ B := by
  obtain ⟨b1, b2, _⟩ := tokN_bd ht
  rw [fromFF_yes ht hm hu]
  exact maxI_le h0 _ fun j hj => h j u (by omega) (by omega) (by omega) (by omega)

theorem farF_none {n s : Nat} (ht : tokN n s = true) : farF n s (0 : Nat) = 0 := by
  obtain ⟨b1, b2, _⟩ := tokN_bd ht
  rw [farF_yes ht (by omega)]
  refine maxI_zero _ fun j hj => ?_
  rw [← devI_zero]
  have h := (Far.zero (n := (n : Int)) (s := (s : Int))) 0 j (by omega) (by omega) (by omega) (by omega)
  omega

theorem farF_all {n s : Nat} (ht : tokN n s = true) : farF n s (n : Nat) = 0 := by
  rw [farF_yes ht (Nat.le_refl _)]
  exact maxI_zero _ fun j hj => exC_full (tok_of_tokN ht) (by omega) rfl

theorem fromFF_lo {n s m u : Nat} (ht : tokN n s = true) (hm : m ≤ n) (hu : u ≤ n) : exC n s u m ≤ fromFF n s m u ∧ -(exC n s u m) ≤ fromFF n s m u := by
  obtain ⟨b1, b2, _⟩ := tokN_bd ht
  rw [fromFF_yes ht hm hu]
  have h := maxI_ge (fun f => devI n s (f : Int) u m) n 0 (by omega)
  have e : devI n s ((0 : Nat) : Int) u m = exC n s u m := devI_zero _ _ _ _
  simp only [e] at h
  exact h

/-- what lacks of the circle is as much off, the other way -/
theorem dev_rest {n s f w : Int} (h0 : 2 ≤ n) (f0 : 0 ≤ f) (f1 : f < n) (w0 : 0 ≤ w) (w1 : w ≤ n) (m : Nat) : devI n s ((f + w) % n) (n - w) m = -devI n s f w m := by
  have r := vis_rest (s := s) h0 f0 f1 w0 w1 m
  unfold devI
  have r' : (m : Int) = ((visC n s f w m : Nat) : Int) + ((visC n s ((f + w) % n) (n - w) m : Nat) : Int) := by omega
  have e1 : n * ((visC n s f w m : Nat) : Int) + n * ((visC n s ((f + w) % n) (n - w) m : Nat) : Int) = n * m := by rw [← Int.mul_add, ← r']
  have e2 : (m : Int) * (n - w) = n * m - m * w := by rw [Int.mul_sub, Int.mul_comm (m : Int) n]
  omega

theorem fromFF_half {n s m u : Nat} (ht : tokN n s = true) (hm : m ≤ n) (hu : u ≤ n) : fromFF n s m ((n - u : Nat) : Int) ≤ fromFF n s m u := by
  obtain ⟨b1, b2, _⟩ := tokN_bd ht
  rw [fromFF_yes ht hm (by omega), fromFF_yes ht hm hu]
  refine maxI_le (maxI_pos _ _) _ fun j hj => ?_
  have e := dev_rest (n := (n : Int)) (s := (s : Int)) (f := j) (w := ((n - u : Nat) : Int)) (by omega) (by omega) (by omega) (by omega) (by omega) m
  rw [show (n : Int) - ((n - u : Nat) : Int) = u by omega] at e
  have g0 := Int.emod_nonneg ((j : Int) + ((n - u : Nat) : Int)) (by omega : (n : Int) ≠ 0)
  have g1 : ((j : Int) + ((n - u : Nat) : Int)) % n < n := Int.emod_lt_of_pos _ (by omega)
  obtain ⟨k, hk⟩ := Int.eq_ofNat_of_zero_le g0
  rw [hk] at e g1
  have h := maxI_ge (fun f => devI n s (f : Int) u m) n k (by omega)
  simp only [e] at h
  omega

theorem fromFF_rest {n s m u : Nat} (ht : tokN n s = true) (hm : m ≤ n) (hu : u ≤ n) : fromFF n s m ((n - u : Nat) : Int) = fromFF n s m u := by
  have a := fromFF_half ht hm hu
  have b := fromFF_half ht hm (u := n - u) (by omega)
  rw [show n - (n - u) = u by omega] at b
  omega
end Go.Proofs.Ytnpaicdbmmfdhaa
