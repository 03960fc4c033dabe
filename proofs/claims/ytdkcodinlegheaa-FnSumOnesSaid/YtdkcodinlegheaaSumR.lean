/- Plain numbers: one round of the program's rule, and points counted row by row. -/
import Derived.Test.YtdkcodinlegheaaSumS
set_option linter.unusedVariables false
namespace Go.Proofs.Ytdkcodinlegheaa

set_option maxRecDepth 4000

theorem rule_roundI {M B T A S X : Nat} (hB : 1 ≤ B) (hM : M ≤ 200) (hB2 : B ≤ 200) (hT : T ≤ 200) (hA : A ≤ 200) (hX : S + fsum M B T A = X) :
    (T / B ≤ 200 ∧ A / B ≤ 200 ∧ M * (M - 1) / 2 ≤ 20000 ∧ T / B * (M * (M - 1) / 2) ≤ 4000000 ∧ A / B * M ≤ 40000 ∧ T % B < B ∧ A % B < B ∧ M * (T % B) ≤ 40000) ∧
    (M * (T % B) + A % B) / B ≤ M ∧ (M * (T % B) + A % B) % B < B ∧ S + (T / B * (M * (M - 1) / 2) + A / B * M) ≤ X ∧
    (M * (T % B) + A % B < B → S + (T / B * (M * (M - 1) / 2) + A / B * M) = X) ∧
    (¬ M * (T % B) + A % B < B → T % B ≠ 0 ∧ S + (T / B * (M * (M - 1) / 2) + A / B * M) + fsum ((M * (T % B) + A % B) / B) (T % B) B ((M * (T % B) + A % B) % B) = X) := by
  obtain ⟨r1, r2, r3, r4, r5, r6, r7, r8, r9, r10, r11, r12, r13⟩ := rule_round hB hM hB2 hT hA hX
  rw [Nat.mul_comm (T % B) M] at r8 r9 r10 r13
  refine ⟨⟨r1, r2, r3, r4, r5, r6, r7, r8⟩, r9, r10, by omega, fun h => ?_, fun h => ?_⟩
  · by_cases c : T % B = 0
    · have := r12 c; omega
    · have h13 := r13 c
      rw [Nat.div_eq_of_lt h, fsum_zero] at h13
      omega
  · have c : T % B ≠ 0 := fun c => by
      rw [c, Nat.mul_zero, Nat.zero_add] at h
      exact h r7
    have := r13 c
    exact ⟨c, by omega⟩

/-- what the rows up to one have -/
def capS (Q : Nat → Nat) (j : Nat) (M : Nat) : Nat := sumF (fun k => min j (Q k)) M

theorem capS_zero (Q : Nat → Nat) (M : Nat) : capS Q 0 M = 0 := by
  induction M with
  | zero => rfl
  | succ M ih => show capS Q 0 M + min 0 (Q M) = 0; rw [ih]; omega

theorem capS_le (Q : Nat → Nat) (j : Nat) (M : Nat) : capS Q j M ≤ sumF Q M := by
  induction M with
  | zero => exact Nat.le_refl _
  | succ M ih => show capS Q j M + min j (Q M) ≤ sumF Q M + Q M; omega

theorem capS_all {Q : Nat → Nat} {j M : Nat} (h : ∀ k, k < M → Q k ≤ j) : capS Q j M = sumF Q M := by
  induction M with
  | zero => rfl
  | succ M ih =>
    show capS Q j M + min j (Q M) = sumF Q M + Q M
    rw [ih (fun k hk => h k (by omega))]
    have := h M (by omega)
    omega

theorem capS_succ {Q : Nat → Nat} {j f : Nat} : ∀ {M : Nat}, f ≤ M → (∀ k, k < f → Q k ≤ j) → (∀ k, f ≤ k → k < M → j + 1 ≤ Q k) → capS Q (j + 1) M = capS Q j M + (M - f) := by
  intro M
  induction M with
  | zero => intro hf _ _; obtain rfl : f = 0 := by omega
            rfl
  | succ M ih =>
    intro hf hlo hhi
    show capS Q (j + 1) M + min (j + 1) (Q M) = capS Q j M + min j (Q M) + (M + 1 - f)
    by_cases c : f = M + 1
    · have e : capS Q (j + 1) M = capS Q j M := by
        rw [capS_all (fun k hk => by have := hlo k (by omega); omega), capS_all (fun k hk => hlo k (by omega))]
      have := hlo M (by omega)
      omega
    · rw [ih (by omega) hlo (fun k h1 h2 => hhi k h1 (by omega))]
      have := hhi M (by omega) (by omega)
      omega

/-- one number over the line or under it -/
theorem row_test {B x j : Nat} (hB : 1 ≤ B) : x < (j + 1) * B ↔ x / B ≤ j := by
  have := Nat.div_lt_iff_lt_mul (k := B) (x := x) (y := j + 1) (by omega)
  omega

theorem row_more {B T A k l : Nat} (h : k ≤ l) : (T * k + A) / B ≤ (T * l + A) / B := Nat.div_le_div_right (Nat.add_le_add_right (Nat.mul_le_mul_left T h) A)

/-- where a row's count stands: all numbers before it are under the line -/
structure SweepAt (M B T A j f P : Nat) : Prop where
  le : f ≤ M
  under : ∀ k, k < f → (T * k + A) / B ≤ j
  cnt : P = capS (fun k => (T * k + A) / B) j M

theorem SweepAt.first (M B T A : Nat) : SweepAt M B T A 0 0 0 := ⟨Nat.zero_le _, fun k hk => by omega, (capS_zero _ _).symm⟩

theorem SweepAt.step {M B T A j f P : Nat} (hB : 1 ≤ B) (h : SweepAt M B T A j f P) (hf : f < M) (ht : T * f + A < (j + 1) * B) : SweepAt M B T A j (f + 1) P :=
  ⟨hf, fun k hk => by
    by_cases c : k < f
    · exact h.under k c
    · obtain rfl : k = f := by omega
      exact (row_test hB).1 ht, h.cnt⟩

theorem SweepAt.done {M B T A j P : Nat} (h : SweepAt M B T A j M P) : P = fsum M B T A := by rw [h.cnt, capS_all h.under]; rfl

theorem SweepAt.next {M B T A j f P : Nat} (hB : 1 ≤ B) (h : SweepAt M B T A j f P) (hf : f < M) (ht : ¬ T * f + A < (j + 1) * B) : SweepAt M B T A (j + 1) f (P + (M - f)) ∧ P + (M - f) ≤ fsum M B T A ∧ j + 1 ≤ (T * f + A) / B := by
  have hq : j + 1 ≤ (T * f + A) / B := Nat.lt_of_not_le fun g => ht ((row_test hB).2 g)
  have e := capS_succ (Q := fun k => (T * k + A) / B) h.le h.under (fun k h1 h2 => Nat.le_trans hq (row_more h1))
  have e2 := h.cnt
  refine ⟨⟨h.le, fun k hk => Nat.le_trans (h.under k hk) (by omega), by rw [e, ← e2]⟩, ?_, hq⟩
  have := capS_le (fun k => (T * k + A) / B) (j + 1) M
  rw [e, ← e2] at this
  exact this
end Go.Proofs.Ytdkcodinlegheaa
