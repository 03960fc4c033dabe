/- Plain numbers: what the functions of chapter 6 answer. -/
import Derived.Test.YtojbchihdnbdkaaVis
set_option linter.unusedVariables false
namespace Go.Proofs.Ytojbchihdnbdkaa
open N

def visF (n s m f w : Int) : Int := if tok n s = true ∧ 0 ≤ m ∧ m ≤ n ∧ 0 ≤ f ∧ f < n ∧ 0 ≤ w ∧ w ≤ n then ((visC n s f w m.toNat : Nat) : Int) else -1

theorem visF_yes {n s m f w : Int} (h : tok n s = true) (m0 : 0 ≤ m) (m1 : m ≤ n) (f0 : 0 ≤ f) (f1 : f < n) (w0 : 0 ≤ w) (w1 : w ≤ n) : visF n s m f w = ((visC n s f w m.toNat : Nat) : Int) := if_pos ⟨h, m0, m1, f0, f1, w0, w1⟩

theorem visF_no {n s m f w : Int} (h : ¬ (tok n s = true ∧ 0 ≤ m ∧ m ≤ n ∧ 0 ≤ f ∧ f < n ∧ 0 ≤ w ∧ w ≤ n)) : visF n s m f w = -1 := if_neg h

def excF (n s m w : Int) : Int := if tok n s = true ∧ 0 ≤ m ∧ m ≤ n ∧ 0 ≤ w ∧ w ≤ n then exC n s w m.toNat else 0

def excT (n s m w : Int) : Bool := tok n s && decide (0 ≤ m) && decide (m ≤ n) && decide (0 ≤ w) && decide (w ≤ n)

theorem excF_yes {n s m w : Int} (h : tok n s = true) (m0 : 0 ≤ m) (m1 : m ≤ n) (w0 : 0 ≤ w) (w1 : w ≤ n) : excF n s m w = exC n s w m.toNat := if_pos ⟨h, m0, m1, w0, w1⟩

theorem excF_no {n s m w : Int} (h : ¬ (tok n s = true ∧ 0 ≤ m ∧ m ≤ n ∧ 0 ≤ w ∧ w ≤ n)) : excF n s m w = 0 := if_neg h

theorem excT_iff (n s m w : Int) : excT n s m w = true ↔ tok n s = true ∧ 0 ≤ m ∧ m ≤ n ∧ 0 ≤ w ∧ w ≤ n := by unfold excT; simp [and_assoc]

theorem excT_yes {n s m w : Int} (h : tok n s = true) (m0 : 0 ≤ m) (m1 : m ≤ n) (w0 : 0 ≤ w) (w1 : w ≤ n) : excT n s m w = true := (excT_iff ..).2 ⟨h, m0, m1, w0, w1⟩

theorem excT_no {n s m w : Int} (h : ¬ (tok n s = true ∧ 0 ≤ m ∧ m ≤ n ∧ 0 ≤ w ∧ w ≤ n)) : excT n s m w = false := by
  cases e : excT n s m w with
  | false => rfl
  | true => exact absurd ((excT_iff ..).1 e) h

def exbF (n s m t : Int) : Int := if tok n s = true ∧ 0 ≤ m ∧ m ≤ n ∧ 0 ≤ t ∧ t < n then exB n s m.toNat t.toNat else 0

def exbT (n s m t : Int) : Bool := tok n s && decide (0 ≤ m) && decide (m ≤ n) && decide (0 ≤ t) && decide (t < n)

theorem exbF_yes {n s m t : Int} (h : tok n s = true) (m0 : 0 ≤ m) (m1 : m ≤ n) (t0 : 0 ≤ t) (t1 : t < n) : exbF n s m t = exB n s m.toNat t.toNat := if_pos ⟨h, m0, m1, t0, t1⟩

theorem exbF_no {n s m t : Int} (h : ¬ (tok n s = true ∧ 0 ≤ m ∧ m ≤ n ∧ 0 ≤ t ∧ t < n)) : exbF n s m t = 0 := if_neg h

theorem exbT_iff (n s m t : Int) : exbT n s m t = true ↔ tok n s = true ∧ 0 ≤ m ∧ m ≤ n ∧ 0 ≤ t ∧ t < n := by unfold exbT; simp [and_assoc]

theorem exbT_yes {n s m t : Int} (h : tok n s = true) (m0 : 0 ≤ m) (m1 : m ≤ n) (t0 : 0 ≤ t) (t1 : t < n) : exbT n s m t = true := (exbT_iff ..).2 ⟨h, m0, m1, t0, t1⟩

theorem exbT_no {n s m t : Int} (h : ¬ (tok n s = true ∧ 0 ≤ m ∧ m ≤ n ∧ 0 ≤ t ∧ t < n)) : exbT n s m t = false := by
  cases e : exbT n s m t with
  | false => rfl
  | true => exact absurd ((exbT_iff ..).1 e) h

def loE (n s w : Int) : Nat → Int
  | 0 => 0
  | k + 1 => min (loE n s w k) (exC n s w k)

def hiE (n s w : Int) : Nat → Int
  | 0 => 0
  | k + 1 => max (hiE n s w k) (exC n s w k)

def spanF (n s w : Int) : Int := if tok n s = true ∧ 0 ≤ w ∧ w ≤ n then hiE n s w (n + 1).toNat - loE n s w (n + 1).toNat else -1

theorem spanF_yes {n s w : Int} (h : tok n s = true) (w0 : 0 ≤ w) (w1 : w ≤ n) : spanF n s w = hiE n s w (n + 1).toNat - loE n s w (n + 1).toNat := if_pos ⟨h, w0, w1⟩

theorem spanF_no {n s w : Int} (h : ¬ (tok n s = true ∧ 0 ≤ w ∧ w ≤ n)) : spanF n s w = -1 := if_neg h

theorem exC_bd {n s w : Int} (h0 : 2 ≤ n) (h1 : n ≤ 60) (w0 : 0 ≤ w) (w1 : w ≤ n) {m : Nat} (hm : (m : Int) ≤ n) : -3600 ≤ exC n s w m ∧ exC n s w m ≤ 3600 := by
  have a := visC_le n s 0 w m
  unfold exC
  have b1 : n * (visC n s 0 w m : Nat) ≤ 60 * 60 := Int.mul_le_mul h1 (by omega) (by omega) (by omega)
  have b0 : 0 ≤ n * (visC n s 0 w m : Nat) := Int.mul_nonneg (by omega) (by omega)
  have c1 : (m : Int) * w ≤ 60 * 60 := Int.mul_le_mul (by omega) (by omega) (by omega) (by omega)
  have c0 : 0 ≤ (m : Int) * w := Int.mul_nonneg (by omega) (by omega)
  omega

theorem loE_bd {n s w : Int} (h0 : 2 ≤ n) (h1 : n ≤ 60) (w0 : 0 ≤ w) (w1 : w ≤ n) (k : Nat) (hk : (k : Int) ≤ n + 1) : -3600 ≤ loE n s w k ∧ loE n s w k ≤ 0 := by
  induction k with
  | zero => exact ⟨by show (-3600 : Int) ≤ 0; omega, Int.le_refl _⟩
  | succ k ih =>
    have a := ih (by omega)
    have b := exC_bd (s := s) h0 h1 w0 w1 (m := k) (by omega)
    show -3600 ≤ min _ _ ∧ min _ _ ≤ 0
    omega

theorem hiE_bd {n s w : Int} (h0 : 2 ≤ n) (h1 : n ≤ 60) (w0 : 0 ≤ w) (w1 : w ≤ n) (k : Nat) (hk : (k : Int) ≤ n + 1) : 0 ≤ hiE n s w k ∧ hiE n s w k ≤ 3600 := by
  induction k with
  | zero => exact ⟨Int.le_refl _, by show (0 : Int) ≤ 3600; omega⟩
  | succ k ih =>
    have a := ih (by omega)
    have b := exC_bd (s := s) h0 h1 w0 w1 (m := k) (by omega)
    show 0 ≤ max _ _ ∧ max _ _ ≤ 3600
    omega

/-- all differ by at most B, so the greatest and the least one do -/
theorem span_le {n s w B : Int} (h : ∀ i j : Nat, exC n s w i - exC n s w j ≤ B) (k : Nat) : hiE n s w k - loE n s w k ≤ B := by
  have hB : 0 ≤ B := by have := h 0 0; omega
  have z := exC_zero n s w
  have hi : ∀ j k : Nat, hiE n s w k - exC n s w j ≤ B := fun j k => by
    induction k with
    | zero => have := h 0 j; rw [z] at this; exact this
    | succ k ih => have := h k j; show max _ _ - _ ≤ B; omega
  have h0 : ∀ k : Nat, hiE n s w k ≤ B := fun k => by have := hi 0 k; rw [z] at this; omega
  have key : ∀ k' : Nat, hiE n s w k - loE n s w k' ≤ B := fun k' => by
    induction k' with
    | zero => have := h0 k; show _ - 0 ≤ B; omega
    | succ k' ih => have := hi k' k; show _ - min _ _ ≤ B; omega
  exact key k

theorem span_nil {n s w : Int} (h : ∀ i : Nat, (i : Int) ≤ n → exC n s w i = 0) (k : Nat) (hk : (k : Int) ≤ n + 1) : hiE n s w k = 0 ∧ loE n s w k = 0 := by
  induction k with
  | zero => exact ⟨rfl, rfl⟩
  | succ k ih =>
    have a := ih (by omega)
    have b := h k (by omega)
    show max _ _ = 0 ∧ min _ _ = 0
    omega

/-- the excess of the points below a point is told by as many points as its time -/
theorem exC_at {n s w : Int} (ht : tok n s = true) (w0 : 0 ≤ w) (w1 : w < n) (m : Nat) : exC n s w m = exB n s m (timeF n s w).toNat := by
  have hb := tok_bd ht
  have h1 := timeF_bd ht w0 w1
  have h2 := pointF_timeF ht w0 w1
  rw [pointF_yes ht h1.1 h1.2] at h2
  have h3 := ex_by (n := n) (s := s) (by omega) (timeF n s w).toNat m
  have e : pt n s ((timeF n s w).toNat : Int) = w := by rw [Int.toNat_of_nonneg h1.1]; exact h2
  rwa [e] at h3
end Go.Proofs.Ytojbchihdnbdkaa
