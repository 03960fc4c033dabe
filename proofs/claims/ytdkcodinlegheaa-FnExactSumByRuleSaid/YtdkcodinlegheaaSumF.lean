/- Sums of divisions, and sums of products of a turn: what chapter 10's functions answer. -/
import Derived.Test.YtdkcodinlegheaaSums
import Derived.Test.YtdkcodinlegheaaSaw2
import Derived.Test.YtdkcodinlegheaaGMath
set_option linter.unusedVariables false
namespace Go.Proofs.Ytdkcodinlegheaa

set_option maxRecDepth 4000

/-! ### divisions -/

def sokF (m b t a : Int) : Bool := (decide (0 ≤ m) && decide (m ≤ 200)) && ((decide (1 ≤ b) && decide (b ≤ 200)) && ((decide (0 ≤ t) && decide (t ≤ 200)) && (decide (0 ≤ a) && decide (a ≤ 200))))

theorem sok_iff {m b t a : Int} : sokF m b t a = true ↔ (0 ≤ m ∧ m ≤ 200) ∧ (1 ≤ b ∧ b ≤ 200) ∧ (0 ≤ t ∧ t ≤ 200) ∧ (0 ≤ a ∧ a ≤ 200) := by
  unfold sokF
  simp only [Bool.and_eq_true, decide_eq_true_eq]

def sumG (m b t a : Int) : Int := if sokF m b t a = true then ((fsum m.toNat b.toNat t.toNat a.toNat : Nat) : Int) else -1

theorem sumG_no {m b t a : Int} (h : sokF m b t a = false) : sumG m b t a = -1 := by unfold sumG; rw [h]; rfl

/-- the numbers of a sum, as plain numbers -/
theorem sok_nat {m b t a : Int} (h : sokF m b t a = true) : ∃ M B T A : Nat, m = M ∧ b = B ∧ t = T ∧ a = A ∧ M ≤ 200 ∧ 1 ≤ B ∧ B ≤ 200 ∧ T ≤ 200 ∧ A ≤ 200 ∧ sumG m b t a = ((fsum M B T A : Nat) : Int) := by
  have g := sok_iff.1 h
  refine ⟨m.toNat, b.toNat, t.toNat, a.toNat, by omega, by omega, by omega, by omega, by omega, by omega, by omega, by omega, by omega, ?_⟩
  unfold sumG
  rw [if_pos h]

theorem sok_of {M B T A : Nat} (h1 : M ≤ 200) (h2 : 1 ≤ B) (h3 : B ≤ 200) (h4 : T ≤ 200) (h5 : A ≤ 200) : sokF M B T A = true := sok_iff.2 ⟨⟨by omega, by omega⟩, ⟨by omega, by omega⟩, ⟨by omega, by omega⟩, by omega, by omega⟩

theorem sumG_yes {M B T A : Nat} (h1 : M ≤ 200) (h2 : 1 ≤ B) (h3 : B ≤ 200) (h4 : T ≤ 200) (h5 : A ≤ 200) : sumG M B T A = ((fsum M B T A : Nat) : Int) := by
  unfold sumG
  rw [if_pos (sok_of h1 h2 h3 h4 h5)]
  rfl

theorem fsum_le {B T A : Nat} (h4 : T ≤ 200) (h5 : A ≤ 200) : ∀ n, n ≤ 201 → fsum n B T A ≤ n * 40400 := by
  intro n
  induction n with
  | zero => intro _; exact Nat.le_refl _
  | succ n ih =>
    intro hn
    have i := ih (by omega)
    rw [fsum_succ]
    have h1 : T * n ≤ 200 * 200 := Nat.mul_le_mul h4 (by omega)
    have h2 : (T * n + A) / B ≤ T * n + A := Nat.div_le_self _ _
    omega

theorem sumG_lo (m b t a : Int) : -1 ≤ sumG m b t a := by
  unfold sumG
  split <;> omega

theorem sumG_hi (m b t a : Int) : sumG m b t a ≤ 10000000 := by
  cases h : sokF m b t a with
  | false => rw [sumG_no h]; omega
  | true =>
    obtain ⟨M, B, T, A, rfl, rfl, rfl, rfl, h1, h2, h3, h4, h5, e⟩ := sok_nat h
    rw [e]
    have := fsum_le (B := B) h4 h5 M (by omega)
    omega

/-! ### products -/

theorem saw_alg (n j p : Int) : (2 * j - n) * (2 * p - n) = 4 * (j * p) - 2 * (n * j) - 2 * (n * p) + n * n := by
  rw [Int.sub_mul, Int.mul_sub, Int.mul_sub]
  have h1 : 2 * j * (2 * p) = 4 * (j * p) := by rw [Int.mul_assoc, Int.mul_left_comm j 2 p]; omega
  have h2 : 2 * j * n = 2 * (n * j) := by rw [Int.mul_assoc, Int.mul_comm j n]
  have h3 : n * (2 * p) = 2 * (n * p) := Int.mul_left_comm ..
  rw [h1, h2, h3]
  generalize j * p = x
  generalize n * j = y
  generalize n * p = z
  generalize n * n = u
  omega

theorem saw_expand (n : Int) (p : Nat → Int) (m : Nat) : sumI (fun j => (2 * (j : Int) - n) * (2 * p j - n)) m = 4 * sumI (fun j => (j : Int) * p j) m - 2 * (n * sumI (fun j => (j : Int)) m) - 2 * (n * sumI p m) + m * (n * n) := by
  induction m with
  | zero => simp [sumI]
  | succ m ih =>
    show sumI (fun j => (2 * (j : Int) - n) * (2 * p j - n)) m + (2 * (m : Int) - n) * (2 * p m - n) = 4 * (sumI (fun j => (j : Int) * p j) m + (m : Int) * p m) - 2 * (n * (sumI (fun j => (j : Int)) m + (m : Int))) - 2 * (n * (sumI p m + p m)) + ((m + 1 : Nat) : Int) * (n * n)
    rw [ih, saw_alg, Int.mul_add n, Int.mul_add n, show ((m + 1 : Nat) : Int) = (m : Int) + 1 by omega, Int.add_mul (m : Int) 1 (n * n), Int.one_mul]
    generalize (m : Int) * p m = x
    generalize n * (m : Int) = y
    generalize n * p m = z
    generalize n * n = u
    generalize (m : Int) * u = v
    generalize n * sumI (fun j => (j : Int)) m = a
    generalize n * sumI p m = b
    omega

theorem sumI_cast (f : Nat → Nat) (m : Nat) : sumI (fun j => ((f j : Nat) : Int)) m = ((sumF f m : Nat) : Int) := by
  induction m with
  | zero => rfl
  | succ m ih =>
    show sumI _ m + ((f m : Nat) : Int) = ((sumF f m + f m : Nat) : Int)
    rw [ih]; omega

theorem sumI_id (m : Nat) : 2 * sumI (fun j => (j : Int)) m = (m : Int) * ((m : Int) - 1) := by
  induction m with
  | zero => rfl
  | succ m ih =>
    show 2 * (sumI (fun j => (j : Int)) m + (m : Int)) = _
    rw [Int.mul_add, ih, show ((m + 1 : Nat) : Int) = (m : Int) + 1 by omega, Int.add_sub_cancel, Int.add_mul, Int.mul_sub]
    generalize (m : Int) * (m : Int) = u
    omega

/-- the sum of the first k products -/
def sawS (n s k : Nat) : Int := sumI (fun j => (2 * ((j + 1 : Nat) : Int) - n) * (2 * (((j + 1) * s % n : Nat) : Int) - n)) k

def sawV (n s : Nat) : Int := sawS n s (n - 1)

theorem sawS_succ (n s k : Nat) : sawS n s (k + 1) = sawS n s k + (2 * ((k + 1 : Nat) : Int) - n) * (2 * (((k + 1) * s % n : Nat) : Int) - n) := rfl

theorem saw_term {n s : Nat} (hn : 1 ≤ n) (hn60 : n ≤ 60) (k : Nat) (hk : k + 1 < n) : -3600 ≤ (2 * ((k + 1 : Nat) : Int) - n) * (2 * (((k + 1) * s % n : Nat) : Int) - n) ∧ (2 * ((k + 1 : Nat) : Int) - n) * (2 * (((k + 1) * s % n : Nat) : Int) - n) ≤ 3600 := by
  have hp := Nat.mod_lt ((k + 1) * s) (show 0 < n by omega)
  generalize (k + 1) * s % n = p at *
  have a1 : -60 ≤ 2 * ((k + 1 : Nat) : Int) - n := by omega
  have a2 : 2 * ((k + 1 : Nat) : Int) - n ≤ 60 := by omega
  have b1 : -60 ≤ 2 * (p : Int) - n := by omega
  have b2 : 2 * (p : Int) - n ≤ 60 := by omega
  generalize 2 * ((k + 1 : Nat) : Int) - n = x at *
  generalize 2 * (p : Int) - n = y at *
  have h : (x * y).natAbs ≤ 60 * 60 := by rw [Int.natAbs_mul]; exact Nat.mul_le_mul (by omega) (by omega)
  omega

theorem sawS_bd {n s : Nat} (hn : 1 ≤ n) (hn60 : n ≤ 60) : ∀ k, k < n → -(k * 3600 : Int) ≤ sawS n s k ∧ sawS n s k ≤ k * 3600 := by
  intro k
  induction k with
  | zero => intro _; exact ⟨by simp [sawS, sumI], by simp [sawS, sumI]⟩
  | succ k ih =>
    intro hk
    have i := ih (by omega)
    have t := saw_term (s := s) hn hn60 k hk
    rw [sawS_succ]
    omega

theorem sawV_eq {n s : Nat} (ht : tokN n s = true) : sawV n s = 4 * ((sawP n s : Nat) : Int) - (n : Int) * (n : Int) * ((n : Int) - 1) := by
  obtain ⟨b1, b2, _⟩ := tokN_bd ht
  have hf := sumI_first (fun j => (2 * (j : Int) - n) * (2 * ((j * s % n : Nat) : Int) - n)) (n - 1)
  have hx := saw_expand (n : Int) (fun j => ((j * s % n : Nat) : Int)) n
  have hp := saw_pts ht
  have hid := sumI_id n
  have hq : sumI (fun j => (j : Int) * ((j * s % n : Nat) : Int)) n = ((sawP n s : Nat) : Int) := by
    unfold sawP
    rw [← sumI_cast]
    exact sumI_congr fun i hi => by simp
  have hpc : sumI (fun j => ((j * s % n : Nat) : Int)) n = ((sumF (fun k => k * s % n) n : Nat) : Int) := sumI_cast _ _
  have hp2 : 2 * ((sumF (fun k => k * s % n) n : Nat) : Int) = (n : Int) * ((n : Int) - 1) := by
    have e : ((2 * sumF (fun k => k * s % n) n : Nat) : Int) = ((n * (n - 1) : Nat) : Int) := by rw [hp]
    rw [Int.natCast_mul, Int.natCast_mul, show ((n - 1 : Nat) : Int) = (n : Int) - 1 by omega] at e
    exact e
  rw [show n - 1 + 1 = n by omega] at hf
  have h0 : (2 * ((0 : Nat) : Int) - n) * (2 * ((0 * s % n : Nat) : Int) - n) = (n : Int) * n := by
    rw [Nat.zero_mul, Nat.zero_mod]
    simp [Int.neg_mul_neg]
  rw [hx, h0, hq, hpc] at hf
  have hv : sawV n s = sumI (fun i => (2 * ((i + 1 : Nat) : Int) - n) * (2 * (((i + 1) * s % n : Nat) : Int) - n)) (n - 1) := rfl
  rw [hv]
  have e1 : 2 * ((n : Int) * sumI (fun j => (j : Int)) n) = (n : Int) * ((n : Int) * ((n : Int) - 1)) := by rw [Int.mul_left_comm, hid]
  have e2 : 2 * ((n : Int) * ((sumF (fun k => k * s % n) n : Nat) : Int)) = (n : Int) * ((n : Int) * ((n : Int) - 1)) := by rw [Int.mul_left_comm, hp2]
  rw [e1, e2] at hf
  have e3 : (n : Int) * ((n : Int) * ((n : Int) - 1)) = (n : Int) * ((n : Int) * n) - (n : Int) * n := by rw [Int.mul_sub, Int.mul_sub, Int.mul_one]
  have e4 : (n : Int) * n * ((n : Int) - 1) = (n : Int) * ((n : Int) * n) - (n : Int) * n := by rw [Int.mul_sub, Int.mul_one, Int.mul_assoc]
  rw [e3] at hf
  rw [e4]
  generalize (n : Int) * ((n : Int) * n) = u at *
  generalize (n : Int) * n = v at *
  omega

def sawF (n s : Int) : Int := if tok n s = true then sawV n.toNat s.toNat else 0

theorem sawF_yes {n s : Nat} (h : tokN n s = true) : sawF n s = sawV n s := by unfold sawF; rw [if_pos (tok_of_tokN h)]; rfl

theorem sawF_no {n s : Int} (h : ¬ tok n s = true) : sawF n s = 0 := if_neg h

theorem sawV_bd {n s : Nat} (ht : tokN n s = true) : -216000 ≤ sawV n s ∧ sawV n s ≤ 216000 := by
  obtain ⟨b1, b2, _⟩ := tokN_bd ht
  have := sawS_bd (s := s) (show 1 ≤ n by omega) b2 (n - 1) (by omega)
  unfold sawV
  omega

theorem sawF_bd (n s : Int) : -216000 ≤ sawF n s ∧ sawF n s ≤ 216000 := by
  by_cases h : tok n s = true
  · obtain ⟨N, S, rfl, rfl, hN⟩ := tokN_of h
    rw [sawF_yes hN]; exact sawV_bd hN
  · rw [sawF_no h]; omega

/-- the step is 1 -/
theorem sawV_one {n : Nat} (ht : tokN n 1 = true) : 3 * sawV n 1 = (n : Int) * ((n : Int) - 1) * ((n : Int) - 2) := by
  obtain ⟨b1, b2, _⟩ := tokN_bd ht
  have h := saw_one ht
  have e : ((12 * sawP n 1 : Nat) : Int) = ((n * (n - 1) * (n - 2) + 3 * (n * n * (n - 1)) : Nat) : Int) := by rw [h]
  simp only [Int.natCast_mul, Int.natCast_add, show ((n - 1 : Nat) : Int) = (n : Int) - 1 by omega, show ((n - 2 : Nat) : Int) = (n : Int) - 2 by omega] at e
  rw [sawV_eq ht]
  generalize (n : Int) * ((n : Int) - 1) * ((n : Int) - 2) = x at *
  generalize (n : Int) * (n : Int) * ((n : Int) - 1) = y at *
  generalize ((sawP n 1 : Nat) : Int) = p at *
  have e' : (12 : Int) * p = x + 3 * y := e
  omega

/-- both numbers change their parts -/
theorem sawV_inner {n s : Nat} (ht : tokN n s = true) (h2 : 2 ≤ s) (hi : tokN s (n % s) = true) :
    3 * (s : Int) * s * sawV n s + 3 * (n : Int) * n * sawV s (n % s) = (n : Int) * s * ((s : Int) * s + (n : Int) * n + 1 - 3 * (n : Int) * s) := by
  obtain ⟨b1, b2, b3, b4, _⟩ := tokN_bd ht
  have h := saw_inner ht h2
  have e : ((12 * (s * s) * sawP n s + 12 * (n * n) * sawP s (n % s) + 3 * (n * n * (s * s)) : Nat) : Int) = ((n * s * (s * s + n * n + 1) + 3 * (s * s) * (n * n * (n - 1)) + 3 * (n * n) * (s * s * (s - 1)) : Nat) : Int) := by rw [h]
  simp only [Int.natCast_mul, Int.natCast_add, show ((n - 1 : Nat) : Int) = (n : Int) - 1 by omega, show ((s - 1 : Nat) : Int) = (s : Int) - 1 by omega] at e
  rw [sawV_eq ht, sawV_eq hi]
  generalize ((sawP n s : Nat) : Int) = P at *
  generalize ((sawP s (n % s) : Nat) : Int) = P' at *
  have q1 : 3 * (s : Int) * s * (4 * P - (n : Int) * n * ((n : Int) - 1)) = 12 * ((s : Int) * s) * P - 3 * ((s : Int) * s) * ((n : Int) * n * ((n : Int) - 1)) := by
    rw [Int.mul_sub, Int.mul_assoc 3 (s : Int) s]
    generalize (s : Int) * s = u
    rw [Int.mul_assoc 12 u P, Int.mul_left_comm (3 * u) 4 P, Int.mul_assoc 3 u P]
    generalize u * P = v
    generalize 3 * u * ((n : Int) * n * ((n : Int) - 1)) = y
    omega
  have q2 : 3 * (n : Int) * n * (4 * P' - (s : Int) * s * ((s : Int) - 1)) = 12 * ((n : Int) * n) * P' - 3 * ((n : Int) * n) * ((s : Int) * s * ((s : Int) - 1)) := by
    rw [Int.mul_sub, Int.mul_assoc 3 (n : Int) n]
    generalize (n : Int) * n = u
    rw [Int.mul_assoc 12 u P', Int.mul_left_comm (3 * u) 4 P', Int.mul_assoc 3 u P']
    generalize u * P' = v
    generalize 3 * u * ((s : Int) * s * ((s : Int) - 1)) = y
    omega
  have q3 : (n : Int) * s * ((s : Int) * s + (n : Int) * n + 1 - 3 * (n : Int) * s) = (n : Int) * s * ((s : Int) * s + (n : Int) * n + 1) - 3 * ((n : Int) * n * ((s : Int) * s)) := by
    rw [Int.mul_sub]
    have r : (n : Int) * s * (3 * (n : Int) * s) = 3 * ((n : Int) * n * ((s : Int) * s)) := by
      rw [Int.mul_assoc 3 (n : Int) s, Int.mul_left_comm ((n : Int) * s) 3, Int.mul_assoc (n : Int) s, Int.mul_left_comm (s : Int) (n : Int) s, ← Int.mul_assoc (n : Int) (n : Int)]
    rw [r]
  rw [q1, q2, q3]
  generalize 12 * ((s : Int) * s) * P = x1 at *
  generalize 12 * ((n : Int) * n) * P' = x2 at *
  generalize 3 * ((s : Int) * s) * ((n : Int) * n * ((n : Int) - 1)) = x3 at *
  generalize 3 * ((n : Int) * n) * ((s : Int) * s * ((s : Int) - 1)) = x4 at *
  generalize (n : Int) * n * ((s : Int) * s) = x5 at *
  generalize (n : Int) * s * ((s : Int) * s + (n : Int) * n + 1) = x6 at *
  omega

theorem sawV_opp {n s : Nat} (ht : tokN n s = true) (hi : tokN n (invN n s) = true) : sawV n (invN n s) = sawV n s := by rw [sawV_eq ht, sawV_eq hi, saw_opp ht]

theorem sawV_back {n s : Nat} (ht : tokN n s = true) (hi : tokN n (n - s) = true) : sawV n (n - s) = - sawV n s := by
  obtain ⟨b1, b2, _⟩ := tokN_bd ht
  rw [sawV_eq ht, sawV_eq hi]
  have h := saw_back ht
  have e : ((2 * sawP n s + 2 * sawP n (n - s) : Nat) : Int) = ((n * n * (n - 1) : Nat) : Int) := by rw [h]
  simp only [Int.natCast_mul, Int.natCast_add, show ((n - 1 : Nat) : Int) = (n : Int) - 1 by omega] at e
  generalize (n : Int) * n * ((n : Int) - 1) = x at *
  generalize ((sawP n s : Nat) : Int) = p at *
  generalize ((sawP n (n - s) : Nat) : Int) = q at *
  have e' : (2 : Int) * p + 2 * q = x := e
  omega
end Go.Proofs.Ytdkcodinlegheaa
