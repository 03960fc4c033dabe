/- Plain numbers: inverse steps, points and times of a turn. -/
import Derived.Test.YtkhnnbgmckeoaaaTurn
set_option linter.unusedVariables false
namespace Go.Proofs.Ytkhnnbgmckeoaaa

/-- the inverse of a step -/
def invN (n s : Nat) : Nat := ((List.range n).find? fun x => x * s % n == 1).getD 0

def invOk (n s : Nat) : Bool := !(decide (2 ≤ n) && decide (1 ≤ s) && decide (Nat.gcd n s = 1)) || (decide (1 ≤ invN n s) && decide (invN n s < n) && decide (invN n s * s % n = 1))

theorem inv_all : ((List.range 61).all fun n => (List.range n).all fun s => invOk n s) = true := by decide +kernel

theorem invN_spec (n s : Nat) (h2 : 2 ≤ n) (h60 : n ≤ 60) (hs : 1 ≤ s) (hsn : s < n) (hg : Nat.gcd n s = 1) : 1 ≤ invN n s ∧ invN n s < n ∧ invN n s * s % n = 1 := by
  have h := inv_all
  rw [List.all_eq_true] at h
  have h1 := h n (by simp; omega)
  rw [List.all_eq_true] at h1
  have h3 := h1 s (by simp; omega)
  unfold invOk at h3
  simp [h2, hs, hg] at h3
  exact ⟨h3.1.1, h3.1.2, h3.2⟩

def invF (n s : Int) : Int := invN n.toNat s.toNat

theorem invF_spec {n s : Int} (h : tok n s = true) : 1 ≤ invF n s ∧ invF n s < n ∧ invF n s * s % n = 1 := by
  rw [tok_iff] at h
  obtain ⟨h1, h2, h3, h4, h5⟩ := h
  obtain ⟨a, b, c⟩ := invN_spec n.toNat s.toNat (by omega) (by omega) (by omega) (by omega) h5
  unfold invF
  refine ⟨by omega, by omega, ?_⟩
  have e : ((invN n.toNat s.toNat * s.toNat % n.toNat : Nat) : Int) = 1 := by rw [c]; rfl
  rw [Int.natCast_emod, Int.natCast_mul, Int.toNat_of_nonneg (by omega : 0 ≤ s), Int.toNat_of_nonneg (by omega : 0 ≤ n)] at e
  exact e

/-- a number below n is told by its point -/
theorem from_point {n s : Int} (h : tok n s = true) (k : Int) (h0 : 0 ≤ k) (h1 : k < n) : (k * s % n) * invF n s % n = k := by
  obtain ⟨_, _, e⟩ := invF_spec h
  have e1 : (k * s % n) * invF n s % n = k * (invF n s * s) % n := by
    rw [Int.mul_emod, Int.emod_emod, ← Int.mul_emod]
    congr 1
    rw [Int.mul_assoc, Int.mul_comm s]
  rw [e1, Int.mul_emod, e, Int.mul_one, Int.emod_emod]
  exact Int.emod_eq_of_lt h0 h1

theorem from_time {n s : Int} (h : tok n s = true) (p : Int) (h0 : 0 ≤ p) (h1 : p < n) : (p * invF n s % n) * s % n = p := by
  obtain ⟨_, _, e⟩ := invF_spec h
  have e1 : (p * invF n s % n) * s % n = p * (invF n s * s) % n := by
    rw [Int.mul_emod, Int.emod_emod, ← Int.mul_emod, Int.mul_assoc]
  rw [e1, Int.mul_emod, e, Int.mul_one, Int.emod_emod]
  exact Int.emod_eq_of_lt h0 h1

theorem inv_unique {n s x : Int} (h : tok n s = true) (h0 : 0 ≤ x) (h1 : x < n) (e : x * s % n = 1) : x = invF n s := by
  have h2 := from_point h x h0 h1
  rw [e, Int.one_mul] at h2
  obtain ⟨a, b, _⟩ := invF_spec h
  rw [Int.emod_eq_of_lt (by omega) b] at h2
  exact h2.symm

def pointF (n s k : Int) : Int := if tok n s = true ∧ 0 ≤ k ∧ k < n then k * s % n else -1

def timeF (n s p : Int) : Int := if tok n s = true ∧ 0 ≤ p ∧ p < n then p * invF n s % n else -1

theorem pointF_yes {n s k : Int} (h : tok n s = true) (h0 : 0 ≤ k) (h1 : k < n) : pointF n s k = k * s % n := if_pos ⟨h, h0, h1⟩

theorem pointF_no {n s k : Int} (h : ¬ (tok n s = true ∧ 0 ≤ k ∧ k < n)) : pointF n s k = -1 := if_neg h

theorem timeF_yes {n s k : Int} (h : tok n s = true) (h0 : 0 ≤ k) (h1 : k < n) : timeF n s k = k * invF n s % n := if_pos ⟨h, h0, h1⟩

theorem timeF_no {n s k : Int} (h : ¬ (tok n s = true ∧ 0 ≤ k ∧ k < n)) : timeF n s k = -1 := if_neg h

theorem timeF_of {n s k p : Int} (h : tok n s = true) (h0 : 0 ≤ k) (h1 : k < n) (e : k * s % n = p) : timeF n s p = k := by
  have hn : 0 < n := by omega
  subst e
  rw [timeF_yes h (Int.emod_nonneg _ (by omega)) (Int.emod_lt_of_pos _ hn)]
  exact from_point h k h0 h1

theorem tok_bd {n s : Int} (h : tok n s = true) : 2 ≤ n ∧ n ≤ 60 ∧ 1 ≤ s ∧ s < n := by rw [tok_iff] at h; omega

theorem timeF_bd {n s p : Int} (h : tok n s = true) (h0 : 0 ≤ p) (h1 : p < n) : 0 ≤ timeF n s p ∧ timeF n s p < n := by
  have hn : 0 < n := by omega
  rw [timeF_yes h h0 h1]; exact ⟨Int.emod_nonneg _ (by omega), Int.emod_lt_of_pos _ hn⟩

theorem pointF_bd {n s p : Int} (h : tok n s = true) (h0 : 0 ≤ p) (h1 : p < n) : 0 ≤ pointF n s p ∧ pointF n s p < n := by
  have hn : 0 < n := by omega
  rw [pointF_yes h h0 h1]; exact ⟨Int.emod_nonneg _ (by omega), Int.emod_lt_of_pos _ hn⟩

theorem pointF_timeF {n s p : Int} (h : tok n s = true) (h0 : 0 ≤ p) (h1 : p < n) : pointF n s (timeF n s p) = p := by
  obtain ⟨a, b⟩ := timeF_bd h h0 h1
  rw [pointF_yes h a b, timeF_yes h h0 h1]; exact from_time h p h0 h1

theorem timeF_pointF {n s p : Int} (h : tok n s = true) (h0 : 0 ≤ p) (h1 : p < n) : timeF n s (pointF n s p) = p :=
  timeF_of h h0 h1 (pointF_yes h h0 h1).symm

theorem timeF_one {n s : Int} (h : tok n s = true) : timeF n s 1 = invF n s := by
  obtain ⟨a, b, c⟩ := invF_spec h
  have := tok_bd h
  rw [timeF_yes h (by omega) (by omega), Int.one_mul]
  exact Int.emod_eq_of_lt (by omega) b
end Go.Proofs.Ytkhnnbgmckeoaaa
