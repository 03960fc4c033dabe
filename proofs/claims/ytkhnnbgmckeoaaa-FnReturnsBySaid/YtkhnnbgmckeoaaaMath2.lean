/- Plain numbers: the opposite turn, and the turn the other way. -/
import Derived.Test.YtkhnnbgmckeoaaaMath
set_option linter.unusedVariables false
namespace Go.Proofs.Ytkhnnbgmckeoaaa

def invOk2 (n s : Nat) : Bool := !(decide (2 ≤ n) && decide (1 ≤ s) && decide (Nat.gcd n s = 1)) || decide (Nat.gcd n (invN n s) = 1)

theorem inv_all2 : ((List.range 61).all fun n => (List.range n).all fun s => invOk2 n s) = true := by decide +kernel

theorem tok_inv {n s : Int} (h : tok n s = true) : tok n (invF n s) = true := by
  obtain ⟨a, b, _⟩ := invF_spec h
  rw [tok_iff] at h
  obtain ⟨h1, h2, h3, h4, h5⟩ := h
  rw [tok_iff]
  refine ⟨h1, h2, a, b, ?_⟩
  have h := inv_all2
  rw [List.all_eq_true] at h
  have h6 := h n.toNat (by simp; omega)
  rw [List.all_eq_true] at h6
  have h7 := h6 s.toNat (by simp; omega)
  unfold invOk2 at h7
  have g1 : 2 ≤ n.toNat := by omega
  have g2 : 1 ≤ s.toNat := by omega
  simp [g1, g2, h5] at h7
  unfold invF
  rw [Int.toNat_natCast]
  exact h7

theorem inv_inv {n s : Int} (h : tok n s = true) : invF n (invF n s) = s := by
  obtain ⟨_, _, e⟩ := invF_spec h
  have hb := tok_bd h
  rw [Int.mul_comm] at e
  exact (inv_unique (tok_inv h) (by omega) (by omega) e).symm

theorem pointF_inv {n s p : Int} (h : tok n s = true) (h0 : 0 ≤ p) (h1 : p < n) : pointF n (invF n s) p = timeF n s p := by
  rw [pointF_yes (tok_inv h) h0 h1, timeF_yes h h0 h1]

theorem gcd_back (n s : Nat) (h : s ≤ n) : Nat.gcd n (n - s) = Nat.gcd n s := by
  apply Nat.dvd_antisymm
  · refine Nat.dvd_gcd (Nat.gcd_dvd_left _ _) ?_
    have h1 : Nat.gcd n (n - s) ∣ n - (n - s) := Nat.dvd_sub (Nat.gcd_dvd_left _ _) (Nat.gcd_dvd_right _ _)
    rwa [show n - (n - s) = s by omega] at h1
  · exact Nat.dvd_gcd (Nat.gcd_dvd_left _ _) (Nat.dvd_sub (Nat.gcd_dvd_left _ _) (Nat.gcd_dvd_right _ _))

theorem tok_back {n s : Int} : tok n (n - s) = tok n s := by
  rw [Bool.eq_iff_iff, tok_iff, tok_iff]
  by_cases h : 1 ≤ s ∧ s < n
  · have e : (n - s).toNat = n.toNat - s.toNat := by omega
    rw [e, gcd_back _ _ (by omega)]
    omega
  · omega

/-- at each time but 0 both points are together the size -/
theorem back_points {n s k : Int} (h : tok n s = true) (h0 : 1 ≤ k) (h1 : k < n) : pointF n s k + pointF n (n - s) k = n := by
  have hb := tok_bd h
  have hn : 0 < n := by omega
  have hz : pointF n s k ≠ 0 := by
    intro e
    have h2 := timeF_pointF h (by omega : 0 ≤ k) h1
    rw [e, timeF_yes h (by omega) (by omega)] at h2
    simp at h2
    omega
  rw [pointF_yes h (by omega) h1] at hz ⊢
  rw [pointF_yes (by rw [tok_back]; exact h) (by omega) h1]
  have e : k * (n - s) = -(k * s) + k * n := by rw [Int.mul_sub]; omega
  rw [e, Int.add_mul_emod_self_right]
  have h3 := Int.emod_nonneg (k * s) (by omega : n ≠ 0)
  have h4 := Int.emod_lt_of_pos (k * s) hn
  have e2 : -(k * s) % n = n - k * s % n := by
    have e3 : -(k * s) = (n - k * s % n) + (-(k * s / n) - 1) * n := by
      have := Int.emod_add_mul_ediv (k * s) n
      rw [Int.sub_mul, Int.neg_mul, Int.mul_comm (k * s / n)]
      omega
    rw [e3, Int.add_mul_emod_self_right]
    exact Int.emod_eq_of_lt (by omega) (by omega)
  rw [e2]
  omega
end Go.Proofs.Ytkhnnbgmckeoaaa
