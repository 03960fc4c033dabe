/- The rule of remainders for the opposite step, as plain numbers. -/
import Derived.Test.YtokmmbmkfpfmgaaGMath
set_option linter.unusedVariables false
namespace Go.Proofs.Ytokmmbmkfpfmgaa
set_option maxRecDepth 4000

structure OppInv (n s c d f g : Int) : Prop where
  d0 : 0 ≤ d
  c2 : 2 ≤ c
  dc : d < c
  cn : c ≤ n
  co : Nat.gcd c.toNat d.toNat = 1
  ef : ∃ i, f * s = c + i * n
  eg : ∃ j, g * s = d + j * n
  bd : (0 ≤ g ∧ f ≤ 0 ∧ g * c - f * d = n) ∨ (g ≤ 0 ∧ 0 ≤ f ∧ f * d - g * c = n)

theorem OppInv.start {n s : Int} (h : tok n s = true) : OppInv n s n s 0 1 := by
  rw [tok_iff] at h
  obtain ⟨h1, h2, h3, h4, h5⟩ := h
  exact ⟨by omega, h1, h4, by omega, h5, ⟨-1, by omega⟩, ⟨0, by omega⟩, .inl ⟨by omega, by omega, by omega⟩⟩

theorem OppInv.step {n s c d f g : Int} (h : OppInv n s c d f g) (h1 : 1 < d) : OppInv n s d (c - c / d * d) g (f - c / d * g) := by
  obtain ⟨d0, c2, dc, cn, co, ⟨i, ef⟩, ⟨j, eg⟩, bd⟩ := h
  have hr : c - c / d * d = c % d := by have := Int.emod_add_mul_ediv c d; rw [Int.mul_comm] at this; omega
  have r0 : 0 ≤ c % d := Int.emod_nonneg _ (by omega)
  have r1 : c % d < d := Int.emod_lt_of_pos _ (by omega)
  have q0 : 0 ≤ c / d := Int.ediv_nonneg (by omega) (by omega)
  refine ⟨by omega, by omega, by omega, by omega, ?_, ⟨j, eg⟩, ⟨i - c / d * j, ?_⟩, ?_⟩
  · rw [hr]
    have e : (c % d).toNat = c.toNat % d.toNat := by
      have hd : d = (d.toNat : Int) := by omega
      have hc : c = (c.toNat : Int) := by omega
      rw [hc, hd, ← Int.natCast_emod, Int.toNat_natCast, Int.toNat_natCast, Int.toNat_natCast]
    rw [e, gcd_step, co]
  · generalize c / d = q at *
    grind
  · generalize c / d = q at *
    have hqg1 : 0 ≤ g → 0 ≤ q * g := fun x => Int.mul_nonneg q0 x
    have hqg2 : g ≤ 0 → q * g ≤ 0 := fun x => Int.mul_nonpos_of_nonneg_of_nonpos q0 x
    rcases bd with ⟨a, b, e⟩ | ⟨a, b, e⟩
    · have := hqg1 a
      exact .inr ⟨by omega, by omega, by grind⟩
    · have := hqg2 a
      exact .inl ⟨by omega, by omega, by grind⟩

theorem le_mul_of_pos {a b : Int} (ha : 0 ≤ a) (hb : 1 ≤ b) : a ≤ a * b := by
  have := Int.mul_le_mul_of_nonneg_left hb ha
  omega

/-- all numbers of the rule are small -/
theorem OppInv.small {n s c d f g : Int} (h : OppInv n s c d f g) (hn : n ≤ 60) (h1 : 1 < d) : -60 ≤ f ∧ f ≤ 60 ∧ -60 ≤ g ∧ g ≤ 60 ∧ 0 ≤ c / d ∧ c / d ≤ 60 ∧ -3600 ≤ c / d * g ∧ c / d * g ≤ 3600 := by
  obtain ⟨d0, c2, dc, cn, co, _, _, bd⟩ := h
  have q0 : 0 ≤ c / d := Int.ediv_nonneg (by omega) (by omega)
  have q1 : c / d ≤ c := Int.ediv_le_self _ (by omega)
  have hf : -60 ≤ f ∧ f ≤ 60 ∧ -60 ≤ g ∧ g ≤ 60 := by
    rcases bd with ⟨a, b, e⟩ | ⟨a, b, e⟩
    · have h1 := le_mul_of_pos a (by omega : 1 ≤ c)
      have h2 := le_mul_of_pos (by omega : 0 ≤ -f) (by omega : 1 ≤ d)
      rw [Int.neg_mul] at h2
      omega
    · have h1 := le_mul_of_pos b (by omega : 1 ≤ d)
      have h2 := le_mul_of_pos (by omega : 0 ≤ -g) (by omega : 1 ≤ c)
      rw [Int.neg_mul] at h2
      omega
  obtain ⟨f1, f2, g1, g2⟩ := hf
  have m1 : c / d * g ≤ c / d * 60 := Int.mul_le_mul_of_nonneg_left g2 q0
  have m2 : c / d * (-60) ≤ c / d * g := Int.mul_le_mul_of_nonneg_left g1 q0
  exact ⟨f1, f2, g1, g2, q0, by omega, by omega, by omega⟩

theorem OppInv.last {n s c d f g : Int} (h : OppInv n s c d f g) (ht : tok n s = true) (h1 : ¬ 1 < d) : (g < 0 → g + n = invF n s) ∧ (¬ g < 0 → g = invF n s) ∧ -60 ≤ g ∧ g ≤ 60 := by
  obtain ⟨d0, c2, dc, cn, co, _, ⟨j, eg⟩, bd⟩ := h
  have hb := tok_bd ht
  have hd : d = 1 := by
    rcases Int.lt_or_le d 1 with hd | hd
    · have hd' : d = 0 := by omega
      subst hd'
      simp at co
      omega
    · omega
  subst hd
  have hg : -n < g ∧ g < n := by
    have h2 : (2 : Int) ≤ c := by omega
    rcases bd with ⟨a, b, e⟩ | ⟨a, b, e⟩
    · have h3 := Int.mul_le_mul_of_nonneg_left h2 a
      omega
    · have h3 := Int.mul_le_mul_of_nonneg_left h2 (by omega : 0 ≤ -g)
      simp only [Int.neg_mul] at h3
      omega
  refine ⟨fun hn => ?_, fun hn => ?_, by omega, by omega⟩
  · refine inv_unique ht (by omega) (by omega) ?_
    have e : (g + n) * s = 1 + (j + s) * n := by grind
    rw [e, Int.add_mul_emod_self_right]
    exact Int.emod_eq_of_lt (by omega) (by omega)
  · refine inv_unique ht (by omega) (by omega) ?_
    rw [eg, Int.add_mul_emod_self_right]
    exact Int.emod_eq_of_lt (by omega) (by omega)
end Go.Proofs.Ytokmmbmkfpfmgaa
