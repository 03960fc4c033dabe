/- Plain numbers: inverse steps, points and times of a turn. Plain numbers: the opposite turn, and the turn the other way. Plain numbers: the nearest points above and below, and the rule of the next time. Plain lists: rows in ascending order, gaps, and kinds. -/
import Derived.Test.YtokmmbmkfpfmgaaGKit
set_option linter.unusedVariables false
namespace Go.Proofs.Ytokmmbmkfpfmgaa
set_option maxRecDepth 4000

/-- the inverse of a step -/
def invN (n s : Nat) : Nat := ((List.range n).find? fun x => x * s % n == 1).getD 0

def invOk (n s : Nat) : Bool := !(decide (2 ≤ n) && decide (1 ≤ s) && decide (Nat.gcd n s = 1)) || (decide (1 ≤ invN n s) && decide (invN n s < n) && decide (invN n s * s % n = 1))

theorem inv_all : ((List.range 61).all fun n => (List.range n).all fun s => invOk n s) = true := by decide +kernel

theorem invN_spec (n s : Nat) (h2 : 2 ≤ n) (h60 : n ≤ 60) (hs : 1 ≤ s) (hsn : s < n) (hg : Nat.gcd n s = 1) : 1 ≤ invN n s ∧ invN n s < n ∧ invN n s * s % n = 1 := by
  have h := inv_all
  rw [List.all_eq_true] at h
  have h1 := h n (by simp; omega)
  rw [List.all_eq_true] at h1
  have h3 := h1 s (by simp; omega)
  unfold invOk at h3
  simp [h2, hs, hg] at h3
  exact ⟨h3.1.1, h3.1.2, h3.2⟩

def invF (n s : Int) : Int := invN n.toNat s.toNat

theorem invF_spec {n s : Int} (h : tok n s = true) : 1 ≤ invF n s ∧ invF n s < n ∧ invF n s * s % n = 1 := by
  rw [tok_iff] at h
  obtain ⟨h1, h2, h3, h4, h5⟩ := h
  obtain ⟨a, b, c⟩ := invN_spec n.toNat s.toNat (by omega) (by omega) (by omega) (by omega) h5
  unfold invF
  refine ⟨by omega, by omega, ?_⟩
  have e : ((invN n.toNat s.toNat * s.toNat % n.toNat : Nat) : Int) = 1 := by rw [c]; rfl
  rw [Int.natCast_emod, Int.natCast_mul, Int.toNat_of_nonneg (by omega : 0 ≤ s), Int.toNat_of_nonneg (by omega : 0 ≤ n)] at e
  exact e

/-- a number below n is told by its point -/
theorem from_point {n s : Int} (h : tok n s = true) (k : Int) (h0 : 0 ≤ k) (h1 : k < n) : (k * s % n) * invF n s % n = k := by
  obtain ⟨_, _, e⟩ := invF_spec h
  have e1 : (k * s % n) * invF n s % n = k * (invF n s * s) % n := by
    rw [Int.mul_emod, Int.emod_emod, ← Int.mul_emod]
    congr 1
    rw [Int.mul_assoc, Int.mul_comm s]
  rw [e1, Int.mul_emod, e, Int.mul_one, Int.emod_emod]
  exact Int.emod_eq_of_lt h0 h1

theorem from_time {n s : Int} (h : tok n s = true) (p : Int) (h0 : 0 ≤ p) (h1 : p < n) : (p * invF n s % n) * s % n = p := by
  obtain ⟨_, _, e⟩ := invF_spec h
  have e1 : (p * invF n s % n) * s % n = p * (invF n s * s) % n := by
    rw [Int.mul_emod, Int.emod_emod, ← Int.mul_emod, Int.mul_assoc]
  rw [e1, Int.mul_emod, e, Int.mul_one, Int.emod_emod]
  exact Int.emod_eq_of_lt h0 h1

theorem inv_unique {n s x : Int} (h : tok n s = true) (h0 : 0 ≤ x) (h1 : x < n) (e : x * s % n = 1) : x = invF n s := by
  have h2 := from_point h x h0 h1
  rw [e, Int.one_mul] at h2
  obtain ⟨a, b, _⟩ := invF_spec h
  rw [Int.emod_eq_of_lt (by omega) b] at h2
  exact h2.symm

def pointF (n s k : Int) : Int := if tok n s = true ∧ 0 ≤ k ∧ k < n then k * s % n else -1

def timeF (n s p : Int) : Int := if tok n s = true ∧ 0 ≤ p ∧ p < n then p * invF n s % n else -1

theorem pointF_yes {n s k : Int} (h : tok n s = true) (h0 : 0 ≤ k) (h1 : k < n) : pointF n s k = k * s % n := if_pos ⟨h, h0, h1⟩

theorem pointF_no {n s k : Int} (h : ¬ (tok n s = true ∧ 0 ≤ k ∧ k < n)) : pointF n s k = -1 := if_neg h

theorem timeF_yes {n s k : Int} (h : tok n s = true) (h0 : 0 ≤ k) (h1 : k < n) : timeF n s k = k * invF n s % n := if_pos ⟨h, h0, h1⟩

theorem timeF_no {n s k : Int} (h : ¬ (tok n s = true ∧ 0 ≤ k ∧ k < n)) : timeF n s k = -1 := if_neg h

theorem timeF_of {n s k p : Int} (h : tok n s = true) (h0 : 0 ≤ k) (h1 : k < n) (e : k * s % n = p) : timeF n s p = k := by
  have hn : 0 < n := by omega
  subst e
  rw [timeF_yes h (Int.emod_nonneg _ (by omega)) (Int.emod_lt_of_pos _ hn)]
  exact from_point h k h0 h1

theorem tok_bd {n s : Int} (h : tok n s = true) : 2 ≤ n ∧ n ≤ 60 ∧ 1 ≤ s ∧ s < n := by rw [tok_iff] at h; omega

theorem timeF_bd {n s p : Int} (h : tok n s = true) (h0 : 0 ≤ p) (h1 : p < n) : 0 ≤ timeF n s p ∧ timeF n s p < n := by
  have hn : 0 < n := by omega
  rw [timeF_yes h h0 h1]; exact ⟨Int.emod_nonneg _ (by omega), Int.emod_lt_of_pos _ hn⟩

theorem pointF_bd {n s p : Int} (h : tok n s = true) (h0 : 0 ≤ p) (h1 : p < n) : 0 ≤ pointF n s p ∧ pointF n s p < n := by
  have hn : 0 < n := by omega
  rw [pointF_yes h h0 h1]; exact ⟨Int.emod_nonneg _ (by omega), Int.emod_lt_of_pos _ hn⟩

theorem pointF_timeF {n s p : Int} (h : tok n s = true) (h0 : 0 ≤ p) (h1 : p < n) : pointF n s (timeF n s p) = p := by
  obtain ⟨a, b⟩ := timeF_bd h h0 h1
  rw [pointF_yes h a b, timeF_yes h h0 h1]; exact from_time h p h0 h1

theorem timeF_pointF {n s p : Int} (h : tok n s = true) (h0 : 0 ≤ p) (h1 : p < n) : timeF n s (pointF n s p) = p :=
  timeF_of h h0 h1 (pointF_yes h h0 h1).symm

theorem timeF_one {n s : Int} (h : tok n s = true) : timeF n s 1 = invF n s := by
  obtain ⟨a, b, c⟩ := invF_spec h
  have := tok_bd h
  rw [timeF_yes h (by omega) (by omega), Int.one_mul]
  exact Int.emod_eq_of_lt (by omega) b
end Go.Proofs.Ytokmmbmkfpfmgaa

set_option linter.unusedVariables false
namespace Go.Proofs.Ytokmmbmkfpfmgaa

def invOk2 (n s : Nat) : Bool := !(decide (2 ≤ n) && decide (1 ≤ s) && decide (Nat.gcd n s = 1)) || decide (Nat.gcd n (invN n s) = 1)

theorem inv_all2 : ((List.range 61).all fun n => (List.range n).all fun s => invOk2 n s) = true := by decide +kernel

theorem tok_inv {n s : Int} (h : tok n s = true) : tok n (invF n s) = true := by
  obtain ⟨a, b, _⟩ := invF_spec h
  rw [tok_iff] at h
  obtain ⟨h1, h2, h3, h4, h5⟩ := h
  rw [tok_iff]
  refine ⟨h1, h2, a, b, ?_⟩
  have h := inv_all2
  rw [List.all_eq_true] at h
  have h6 := h n.toNat (by simp; omega)
  rw [List.all_eq_true] at h6
  have h7 := h6 s.toNat (by simp; omega)
  unfold invOk2 at h7
  have g1 : 2 ≤ n.toNat := by omega
  have g2 : 1 ≤ s.toNat := by omega
  simp [g1, g2, h5] at h7
  unfold invF
  rw [Int.toNat_natCast]
  exact h7

theorem inv_inv {n s : Int} (h : tok n s = true) : invF n (invF n s) = s := by
  obtain ⟨_, _, e⟩ := invF_spec h
  have hb := tok_bd h
  rw [Int.mul_comm] at e
  exact (inv_unique (tok_inv h) (by omega) (by omega) e).symm

theorem pointF_inv {n s p : Int} (h : tok n s = true) (h0 : 0 ≤ p) (h1 : p < n) : pointF n (invF n s) p = timeF n s p := by
  rw [pointF_yes (tok_inv h) h0 h1, timeF_yes h h0 h1]

theorem gcd_back (n s : Nat) (h : s ≤ n) : Nat.gcd n (n - s) = Nat.gcd n s := by
  apply Nat.dvd_antisymm
  · refine Nat.dvd_gcd (Nat.gcd_dvd_left _ _) ?_
    have h1 : Nat.gcd n (n - s) ∣ n - (n - s) := Nat.dvd_sub (Nat.gcd_dvd_left _ _) (Nat.gcd_dvd_right _ _)
    rwa [show n - (n - s) = s by omega] at h1
  · exact Nat.dvd_gcd (Nat.gcd_dvd_left _ _) (Nat.dvd_sub (Nat.gcd_dvd_left _ _) (Nat.gcd_dvd_right _ _))

theorem tok_back {n s : Int} : tok n (n - s) = tok n s := by
  rw [Bool.eq_iff_iff, tok_iff, tok_iff]
  by_cases h : 1 ≤ s ∧ s < n
  · have e : (n - s).toNat = n.toNat - s.toNat := by omega
    rw [e, gcd_back _ _ (by omega)]
    omega
  · omega

/-- at each time but 0 both points are together the size -/
theorem back_points {n s k : Int} (h : tok n s = true) (h0 : 1 ≤ k) (h1 : k < n) : pointF n s k + pointF n (n - s) k = n := by
  have hb := tok_bd h
  have hn : 0 < n := by omega
  have hz : pointF n s k ≠ 0 := by
    intro e
    have h2 := timeF_pointF h (by omega : 0 ≤ k) h1
    rw [e, timeF_yes h (by omega) (by omega)] at h2
    simp at h2
    omega
  rw [pointF_yes h (by omega) h1] at hz ⊢
  rw [pointF_yes (by rw [tok_back]; exact h) (by omega) h1]
  have e : k * (n - s) = -(k * s) + k * n := by rw [Int.mul_sub]; omega
  rw [e, Int.add_mul_emod_self_right]
  have h3 := Int.emod_nonneg (k * s) (by omega : n ≠ 0)
  have h4 := Int.emod_lt_of_pos (k * s) hn
  have e2 : -(k * s) % n = n - k * s % n := by
    have e3 : -(k * s) = (n - k * s % n) + (-(k * s / n) - 1) * n := by
      have := Int.emod_add_mul_ediv (k * s) n
      rw [Int.sub_mul, Int.neg_mul, Int.mul_comm (k * s / n)]
      omega
    rw [e3, Int.add_mul_emod_self_right]
    exact Int.emod_eq_of_lt (by omega) (by omega)
  rw [e2]
  omega
end Go.Proofs.Ytokmmbmkfpfmgaa

set_option linter.unusedVariables false
namespace Go.Proofs.Ytokmmbmkfpfmgaa.N

/-- the point at a time -/
def pt (n s k : Int) : Int := k * s % n
structure Turns (n s : Int) : Prop where
  n2 : 2 ≤ n
  inj : ∀ j k : Int, 0 ≤ j → j < n → 0 ≤ k → k < n → pt n s j = pt n s k → j = k

def IsMin (n s m p : Int) : Prop := 1 ≤ p ∧ p < m ∧ ∀ j, 1 ≤ j → j < m → pt n s p ≤ pt n s j

def IsMax (n s m p : Int) : Prop := 1 ≤ p ∧ p < m ∧ ∀ j, 0 ≤ j → j < m → pt n s j ≤ pt n s p

def IsNext (n s m t b : Int) : Prop :=
  (b = 0 ∧ ∀ j, 0 ≤ j → j < m → pt n s j ≤ pt n s t) ∨
  (1 ≤ b ∧ b < m ∧ pt n s t < pt n s b ∧ ∀ j, 0 ≤ j → j < m → pt n s t < pt n s j → pt n s b ≤ pt n s j)

theorem pt0 (n s : Int) : pt n s 0 = 0 := by simp [pt]

theorem pt_lo {n : Int} (s k : Int) (hn : 2 ≤ n) : 0 ≤ pt n s k := Int.emod_nonneg _ (by omega)

theorem pt_hi {n : Int} (s k : Int) (hn : 2 ≤ n) : pt n s k < n := Int.emod_lt_of_pos _ (by omega)

theorem mod_cases {n x : Int} (h0 : 0 ≤ x) (h1 : x < n + n) (hn : 0 < n) : (x < n ∧ x % n = x) ∨ (n ≤ x ∧ x % n = x - n) := by
  by_cases h : x < n
  · exact .inl ⟨h, Int.emod_eq_of_lt h0 h⟩
  · refine .inr ⟨by omega, ?_⟩
    rw [← Int.sub_emod_right]
    exact Int.emod_eq_of_lt (by omega) (by omega)

theorem pt_add {n : Int} (s j k : Int) (hn : 2 ≤ n) : (pt n s j + pt n s k < n ∧ pt n s (j + k) = pt n s j + pt n s k) ∨ (n ≤ pt n s j + pt n s k ∧ pt n s (j + k) = pt n s j + pt n s k - n) := by
  have e : pt n s (j + k) = (pt n s j + pt n s k) % n := by
    unfold pt
    rw [← Int.add_emod, Int.add_mul]
  rw [e]
  have a1 := pt_lo s j hn; have a2 := pt_hi s j hn; have a3 := pt_lo s k hn; have a4 := pt_hi s k hn
  exact mod_cases (by omega) (by omega) (by omega)

theorem pt_sub {n : Int} (s j k : Int) (hn : 2 ≤ n) : (pt n s k ≤ pt n s j ∧ pt n s (j - k) = pt n s j - pt n s k) ∨ (pt n s j < pt n s k ∧ pt n s (j - k) = pt n s j - pt n s k + n) := by
  have h := pt_add s (j - k) k hn
  rw [Int.sub_add_cancel] at h
  have a1 := pt_lo s (j - k) hn; have a2 := pt_hi s (j - k) hn
  omega

variable {n s : Int}

theorem Turns.pos (h : Turns n s) {k : Int} (h0 : 1 ≤ k) (h1 : k < n) : 0 < pt n s k := by
  have a := pt_lo s k h.n2
  by_cases e : pt n s k = 0
  · have := h.inj k 0 (by omega) h1 (by omega) (by omega) (by rw [pt0]; exact e)
    omega
  · omega

theorem Turns.ne (h : Turns n s) {j k : Int} (h0 : 0 ≤ j) (h1 : j < n) (h2 : 0 ≤ k) (h3 : k < n) (e : j ≠ k) : pt n s j ≠ pt n s k :=
  fun x => e (h.inj j k h0 h1 h2 h3 x)

theorem min_unique (h : Turns n s) {m p p' : Int} (hm : m ≤ n) (a : IsMin n s m p) (b : IsMin n s m p') : p = p' := by
  obtain ⟨a1, a2, a3⟩ := a; obtain ⟨b1, b2, b3⟩ := b
  have x := a3 p' b1 b2; have y := b3 p a1 a2
  exact h.inj p p' (by omega) (by omega) (by omega) (by omega) (by omega)

theorem max_unique (h : Turns n s) {m p p' : Int} (hm : m ≤ n) (a : IsMax n s m p) (b : IsMax n s m p') : p = p' := by
  obtain ⟨a1, a2, a3⟩ := a; obtain ⟨b1, b2, b3⟩ := b
  have x := a3 p' (by omega) b2; have y := b3 p (by omega) a2
  exact h.inj p p' (by omega) (by omega) (by omega) (by omega) (by omega)

theorem next_unique (h : Turns n s) {m t p p' : Int} (hm : m ≤ n) (a : IsNext n s m t p) (b : IsNext n s m t p') : p = p' := by
  rcases a with ⟨rfl, a⟩ | ⟨a1, a2, a3, a4⟩ <;> rcases b with ⟨rfl, b⟩ | ⟨b1, b2, b3, b4⟩
  · rfl
  · have := a p' (by omega) b2; omega
  · have := b p (by omega) a2; omega
  · have x := a4 p' (by omega) b2 b3; have y := b4 p (by omega) a2 a3
    exact h.inj p p' (by omega) (by omega) (by omega) (by omega) (by omega)

theorem min_ex (h : Turns n s) (m : Nat) (h2 : 2 ≤ m) : ∃ p, IsMin n s m p := by
  induction m with
  | zero => omega
  | succ m ih =>
    by_cases h3 : m = 1
    · subst h3
      refine ⟨1, by omega, by omega, fun j a b => ?_⟩
      have e : j = 1 := by omega
      rw [e]; exact Int.le_refl _
    · obtain ⟨p, a, b, c⟩ := ih (by omega)
      by_cases hc : pt n s m < pt n s p
      · refine ⟨m, by omega, by omega, fun j x y => ?_⟩
        by_cases e : j = m
        · subst e; omega
        · have := c j x (by omega); omega
      · refine ⟨p, by omega, by omega, fun j x y => ?_⟩
        by_cases e : j = m
        · subst e; omega
        · exact c j x (by omega)

theorem max_ex (h : Turns n s) (m : Nat) (h2 : 2 ≤ m) : ∃ p, IsMax n s m p := by
  induction m with
  | zero => omega
  | succ m ih =>
    by_cases h3 : m = 1
    · subst h3
      refine ⟨1, by omega, by omega, fun j a b => ?_⟩
      by_cases e : j = 0
      · subst e; rw [pt0]; exact pt_lo _ _ h.n2
      · have e1 : j = 1 := by omega
        rw [e1]; exact Int.le_refl _
    · obtain ⟨p, a, b, c⟩ := ih (by omega)
      by_cases hc : pt n s p < pt n s m
      · refine ⟨m, by omega, by omega, fun j x y => ?_⟩
        by_cases e : j = m
        · subst e; omega
        · have := c j x (by omega); omega
      · refine ⟨p, by omega, by omega, fun j x y => ?_⟩
        by_cases e : j = m
        · subst e; omega
        · exact c j x (by omega)

/-- both near times are together at least the points -/
theorem near_sum (h : Turns n s) {m p q : Int} (hm : m ≤ n) (hp : IsMin n s m p) (hq : IsMax n s m q) : m ≤ p + q := by
  obtain ⟨p1, p2, p3⟩ := hp; obtain ⟨q1, q2, q3⟩ := hq
  by_cases hlt : m ≤ p + q
  · exact hlt
  have a := pt_add s p q h.n2
  have b := h.pos (k := p + q) (by omega) (by omega)
  have c := h.pos (k := p) (by omega) (by omega)
  have d := pt_hi s q h.n2
  have e := p3 (p + q) (by omega) (by omega)
  have f := q3 (p + q) (by omega) (by omega)
  omega

/-- the next time is told by three numbers -/
theorem next_rule (h : Turns n s) {m p q t : Int} (hm : m ≤ n) (hp : IsMin n s m p) (hq : IsMax n s m q) (t0 : 0 ≤ t) (t1 : t < m) :
    IsNext n s m t (if t + p < m then t + p else if 0 ≤ t - q then t - q else t + p - q) ∧
    (if t + p < m then pt n s (t + p) = pt n s t + pt n s p else if 0 ≤ t - q then (if t = q then True else pt n s (t - q) = pt n s t + (n - pt n s q)) else pt n s (t + p - q) = pt n s t + pt n s p + (n - pt n s q)) := by
  have hs := near_sum h hm hp hq
  obtain ⟨p1, p2, p3⟩ := hp; obtain ⟨q1, q2, q3⟩ := hq
  have pp := h.pos (k := p) (by omega) (by omega)
  have qp := h.pos (k := q) (by omega) (by omega)
  have qh := pt_hi s q h.n2
  have tl := pt_lo s t h.n2
  by_cases c1 : t + p < m
  · rw [if_pos c1, if_pos c1]
    have b := h.pos (k := t + p) (by omega) (by omega)
    have e := p3 (t + p) (by omega) (by omega)
    have a : pt n s (t + p) = pt n s t + pt n s p := by
      rcases pt_add s t p h.n2 with ⟨_, a⟩ | ⟨a0, a⟩
      · exact a
      · have := pt_hi s t h.n2; omega
    refine ⟨.inr ⟨by omega, c1, by omega, fun j j0 j1 jt => ?_⟩, a⟩
    by_cases hjt : t < j
    · have x := pt_sub s j t h.n2
      have y := p3 (j - t) (by omega) (by omega)
      omega
    · have hne : j ≠ t := fun e => by subst e; omega
      have x := pt_sub s t j h.n2
      have z := pt_add s (t - j) p h.n2
      have y := p3 (t - j + p) (by omega) (by omega)
      have v := h.pos (k := t - j + p) (by omega) (by omega)
      omega
  · rw [if_neg c1, if_neg c1]
    by_cases c2 : 0 ≤ t - q
    · rw [if_pos c2, if_pos c2]
      have tm := q3 t t0 t1
      by_cases c3 : t = q
      · subst c3
        rw [if_pos rfl]
        exact ⟨.inl ⟨by omega, q3⟩, trivial⟩
      · rw [if_neg c3]
        have hne := h.ne t0 (by omega) (by omega : 0 ≤ q) (by omega) c3
        have a : pt n s (t - q) = pt n s t + (n - pt n s q) := by
          have := pt_sub s t q h.n2; omega
        refine ⟨.inr ⟨by omega, by omega, by omega, fun j j0 j1 jt => ?_⟩, a⟩
        by_cases hjt : t < j
        · have x := pt_sub s j t h.n2
          have z := pt_add s (j - t) q h.n2
          have y := q3 (j - t + q) (by omega) (by omega)
          omega
        · have x := pt_sub s t j h.n2
          have y := q3 (t - j) (by omega) (by omega)
          omega
    · rw [if_neg c2, if_neg c2]
      have tm := q3 t t0 t1
      have hne := h.ne t0 (by omega) (by omega : 0 ≤ q) (by omega) (by omega)
      have a : pt n s (t + p - q) = pt n s t + pt n s p + (n - pt n s q) := by
        have u := pt_add s t p h.n2
        have v := pt_sub s (t + p) q h.n2
        have r := h.pos (k := t + p - q) (by omega) (by omega)
        have r2 := p3 (t + p - q) (by omega) (by omega)
        omega
      refine ⟨.inr ⟨by omega, by omega, by omega, fun j j0 j1 jt => ?_⟩, a⟩
      by_cases hjt : t < j
      · have x := pt_sub s j t h.n2
        have y := p3 (j - t) (by omega) (by omega)
        have z := h.ne (j := j - t) (k := p) (by omega) (by omega) (by omega) (by omega) (by omega)
        by_cases hi : p < j - t
        · have u := pt_sub s (j - t) p h.n2
          have u2 := pt_add s (j - t - p) q h.n2
          have u3 := q3 (j - t - p + q) (by omega) (by omega)
          omega
        · have u := pt_sub s p (j - t) h.n2
          have u3 := q3 (p - (j - t)) (by omega) (by omega)
          omega
      · have hne : j ≠ t := fun e => by subst e; omega
        have x := pt_sub s t j h.n2
        have y := q3 (t - j) (by omega) (by omega)
        have z := h.ne (j := t - j) (k := q) (by omega) (by omega) (by omega) (by omega) (by omega)
        have u := pt_sub s q (t - j) h.n2
        have u3 := p3 (q - (t - j)) (by omega) (by omega)
        omega

/-- a further point is nearer only if it comes at both times together -/
theorem near_step (h : Turns n s) {m p q : Int} (hm : m < n) (h2 : 2 ≤ m) (hp : IsMin n s m p) (hq : IsMax n s m q) :
    (IsMin n s (m + 1) p ∧ IsMax n s (m + 1) q) ∨ (m = p + q ∧ IsMin n s (m + 1) m ∧ IsMax n s (m + 1) q ∧ pt n s m = pt n s p + pt n s q - n) ∨
    (m = p + q ∧ IsMin n s (m + 1) p ∧ IsMax n s (m + 1) m ∧ pt n s m = pt n s p + pt n s q) := by
  have hs := near_sum h (by omega) hp hq
  obtain ⟨p1, p2, p3⟩ := hp; obtain ⟨q1, q2, q3⟩ := hq
  have pp := h.pos (k := p) (by omega) (by omega)
  have qp := h.pos (k := q) (by omega) (by omega)
  have qh := pt_hi s q h.n2
  have mp := h.pos (k := m) (by omega) (by omega)
  have mh := pt_hi s m h.n2
  have ph := pt_hi s p h.n2
  have n1 := h.ne (j := m) (k := p) (by omega) (by omega) (by omega) (by omega) (by omega)
  have n2 := h.ne (j := m) (k := q) (by omega) (by omega) (by omega) (by omega) (by omega)
  by_cases hpq : m = p + q
  · right
    have a := pt_add s p q h.n2
    rw [← hpq] at a
    by_cases hc : pt n s p + pt n s q < n
    · right
      refine ⟨hpq, ⟨p1, by omega, fun j j0 j1 => ?_⟩, ⟨by omega, by omega, fun j j0 j1 => ?_⟩, by omega⟩
      · by_cases e : j = m
        · subst e; omega
        · exact p3 j j0 (by omega)
      · by_cases e : j = m
        · subst e; omega
        · have := q3 j j0 (by omega); omega
    · left
      refine ⟨hpq, ⟨by omega, by omega, fun j j0 j1 => ?_⟩, ⟨q1, by omega, fun j j0 j1 => ?_⟩, by omega⟩
      · by_cases e : j = m
        · subst e; omega
        · have := p3 j j0 (by omega); omega
      · by_cases e : j = m
        · subst e; omega
        · exact q3 j j0 (by omega)
  · left
    have lo : pt n s p < pt n s m := by
      by_cases hc : pt n s p < pt n s m
      · exact hc
      have a := pt_sub s m p h.n2
      have b := q3 (m - p) (by omega) (by omega)
      have b2 := h.ne (j := m - p) (k := q) (by omega) (by omega) (by omega) (by omega) (by omega)
      have c := pt_sub s q (m - p) h.n2
      have d := p3 (q - (m - p)) (by omega) (by omega)
      omega
    have hi : pt n s m < pt n s q := by
      by_cases hc : pt n s m < pt n s q
      · exact hc
      have a := pt_sub s m q h.n2
      have b := p3 (m - q) (by omega) (by omega)
      have b2 := h.ne (j := m - q) (k := p) (by omega) (by omega) (by omega) (by omega) (by omega)
      have c := pt_sub s p (m - q) h.n2
      have d := q3 (p - (m - q)) (by omega) (by omega)
      omega
    refine ⟨⟨p1, by omega, fun j j0 j1 => ?_⟩, ⟨q1, by omega, fun j j0 j1 => ?_⟩⟩
    · by_cases e : j = m
      · subst e; omega
      · exact p3 j j0 (by omega)
    · by_cases e : j = m
      · subst e; omega
      · exact q3 j j0 (by omega)

/-- the size is a sum of two products -/
theorem near_size (h : Turns n s) (h1 : 1 ≤ s) (h2 : s < n) (m : Nat) (m2 : 2 ≤ m) (hm : (m : Int) ≤ n) : ∀ {p q : Int}, IsMin n s m p → IsMax n s m q → pt n s p * q + (n - pt n s q) * p = n := by
  induction m with
  | zero => omega
  | succ m ih =>
    intro p q hp hq
    by_cases h3 : m = 1
    · subst h3
      have e1 : p = 1 := by have := hp.1; have := hp.2.1; omega
      have e2 : q = 1 := by have := hq.1; have := hq.2.1; omega
      subst e1 e2
      have e : pt n s 1 = s := by unfold pt; rw [Int.one_mul]; exact Int.emod_eq_of_lt (by omega) h2
      rw [e]; omega
    · obtain ⟨p', hp'⟩ := min_ex h m (by omega)
      obtain ⟨q', hq'⟩ := max_ex h m (by omega)
      have i := ih (by omega) (by omega) hp' hq'
      have hm' : ((m + 1 : Nat) : Int) = (m : Int) + 1 := by omega
      rw [hm'] at hp hq
      rcases near_step h (by omega) (by omega) hp' hq' with ⟨a, b⟩ | ⟨e, a, b, c⟩ | ⟨e, a, b, c⟩
      · rw [min_unique h (by omega) hp a, max_unique h (by omega) hq b]; exact i
      · rw [min_unique h (by omega) hp a, max_unique h (by omega) hq b, c, e]
        generalize pt n s p' = A at *
        generalize pt n s q' = B at *
        rw [Int.mul_add]
        have e1 : (A + B - n) * q' = A * q' - (n - B) * q' := by rw [← Int.sub_mul]; congr 1; omega
        omega
      · rw [min_unique h (by omega) hp a, max_unique h (by omega) hq b, c, e]
        generalize pt n s p' = A at *
        generalize pt n s q' = B at *
        rw [Int.mul_add]
        have e1 : (n - (A + B)) * p' = (n - B) * p' - A * p' := by rw [← Int.sub_mul]; congr 1; omega
        omega
end Go.Proofs.Ytokmmbmkfpfmgaa.N
namespace Go.Proofs.Ytokmmbmkfpfmgaa
open N

theorem turns_of {n s : Int} (h : tok n s = true) : Turns n s := by
  have hb := tok_bd h
  refine ⟨by omega, fun j k j0 j1 k0 k1 e => ?_⟩
  unfold pt at e
  have h1 := from_point h j j0 j1
  have h2 := from_point h k k0 k1
  rw [e, h2] at h1
  exact h1.symm

def minN (n s : Int) : Nat → Int
  | 0 => 1
  | m + 1 => if 1 ≤ m ∧ pt n s m < pt n s (minN n s m) then m else minN n s m

def maxN (n s : Int) : Nat → Int
  | 0 => 1
  | m + 1 => if 1 ≤ m ∧ pt n s (maxN n s m) < pt n s m then m else maxN n s m

def nextN (n s t : Int) : Nat → Int
  | 0 => 0
  | m + 1 => if pt n s t < pt n s m ∧ (nextN n s t m = 0 ∨ pt n s m < pt n s (nextN n s t m)) then m else nextN n s t m

theorem minN_is {n s : Int} (h : Turns n s) (m : Nat) (h2 : 2 ≤ m) : IsMin n s m (minN n s m) := by
  induction m with
  | zero => omega
  | succ m ih =>
    by_cases h3 : m = 1
    · subst h3
      have e1 : minN n s 1 = 1 := if_neg (fun x => absurd x.1 (by decide))
      have e2 : minN n s (1 + 1) = 1 := by
        unfold minN
        split
        · rfl
        · exact e1
      rw [e2]
      refine ⟨by decide, by decide, fun j a b => ?_⟩
      have e : j = 1 := by omega
      rw [e]; exact Int.le_refl _
    · obtain ⟨a, b, c⟩ := ih (by omega)
      unfold minN
      by_cases hc : pt n s m < pt n s (minN n s m)
      · rw [if_pos ⟨by omega, hc⟩]
        refine ⟨by omega, by omega, fun j x y => ?_⟩
        by_cases e : j = m
        · subst e; omega
        · have := c j x (by omega); omega
      · rw [if_neg (fun x => hc x.2)]
        refine ⟨by omega, by omega, fun j x y => ?_⟩
        by_cases e : j = m
        · subst e; omega
        · exact c j x (by omega)

theorem maxN_is {n s : Int} (h : Turns n s) (m : Nat) (h2 : 2 ≤ m) : IsMax n s m (maxN n s m) := by
  induction m with
  | zero => omega
  | succ m ih =>
    by_cases h3 : m = 1
    · subst h3
      have e1 : maxN n s 1 = 1 := if_neg (fun x => absurd x.1 (by decide))
      have e2 : maxN n s (1 + 1) = 1 := by
        unfold maxN
        split
        · rfl
        · exact e1
      rw [e2]
      refine ⟨by decide, by decide, fun j a b => ?_⟩
      by_cases e : j = 0
      · subst e; rw [pt0]; exact pt_lo _ _ h.n2
      · have e1 : j = 1 := by omega
        rw [e1]; exact Int.le_refl _
    · obtain ⟨a, b, c⟩ := ih (by omega)
      unfold maxN
      by_cases hc : pt n s (maxN n s m) < pt n s m
      · rw [if_pos ⟨by omega, hc⟩]
        refine ⟨by omega, by omega, fun j x y => ?_⟩
        by_cases e : j = m
        · subst e; omega
        · have := c j x (by omega); omega
      · rw [if_neg (fun x => hc x.2)]
        refine ⟨by omega, by omega, fun j x y => ?_⟩
        by_cases e : j = m
        · subst e; omega
        · exact c j x (by omega)

theorem next_step_yes {n s k t b : Int} (h : tok n s = true) (k0 : 0 ≤ k) (hb : IsNext n s k t b) (h1 : pt n s t < pt n s k) (h2 : b = 0 ∨ pt n s k < pt n s b) : IsNext n s (k + 1) t k := by
  have hn := tok_bd h
  have e : k ≠ 0 := fun e => by
    rw [e, pt0] at h1
    have := pt_lo (n := n) s t (by omega)
    omega
  refine .inr ⟨by omega, by omega, h1, fun j j0 j1 x => ?_⟩
  by_cases e : j = k
  · rw [e]; exact Int.le_refl _
  · rcases hb with ⟨b0, c⟩ | ⟨b1, b2, b3, c⟩
    · have := c j j0 (by omega); omega
    · have := c j j0 (by omega) x; omega

theorem next_step_no {n s k t b : Int} (hb : IsNext n s k t b) (h : pt n s t < pt n s k → ¬ b = 0 ∧ pt n s b ≤ pt n s k) : IsNext n s (k + 1) t b := by
  rcases hb with ⟨b0, c⟩ | ⟨b1, b2, b3, c⟩
  · refine .inl ⟨b0, fun j j0 j1 => ?_⟩
    by_cases e : j = k
    · rw [e]
      by_cases x : pt n s t < pt n s k
      · exact absurd b0 (h x).1
      · omega
    · exact c j j0 (by omega)
  · refine .inr ⟨b1, by omega, b3, fun j j0 j1 x => ?_⟩
    by_cases e : j = k
    · rw [e] at x ⊢; exact (h x).2
    · exact c j j0 (by omega) x

theorem nextN_is {n s t : Int} (h : tok n s = true) (m : Nat) : IsNext n s m t (nextN n s t m) := by
  induction m with
  | zero => exact .inl ⟨rfl, fun j j0 j1 => by omega⟩
  | succ m ih =>
    unfold nextN
    have e : ((m + 1 : Nat) : Int) = (m : Int) + 1 := by omega
    rw [e]
    by_cases hc : pt n s t < pt n s m ∧ (nextN n s t m = 0 ∨ pt n s m < pt n s (nextN n s t m))
    · rw [if_pos hc]
      exact next_step_yes h (by omega) ih hc.1 hc.2
    · rw [if_neg hc]
      refine next_step_no ih fun x => ?_
      constructor
      · intro y; exact hc ⟨x, .inl y⟩
      · by_cases y : pt n s m < pt n s (nextN n s t m)
        · exact absurd ⟨x, .inr y⟩ hc
        · omega

def nearA (n s m : Int) : Int := if tok n s = true ∧ 2 ≤ m ∧ m ≤ n then minN n s m.toNat else -1

def nearB (n s m : Int) : Int := if tok n s = true ∧ 2 ≤ m ∧ m ≤ n then maxN n s m.toNat else -1

def nextT (n s m t : Int) : Int := if tok n s = true ∧ 1 ≤ m ∧ m ≤ n ∧ 0 ≤ t ∧ t < m then nextN n s t m.toNat else -1

theorem nearA_is {n s m : Int} (h : tok n s = true) (h2 : 2 ≤ m) (hm : m ≤ n) : IsMin n s m (nearA n s m) := by
  unfold nearA
  rw [if_pos ⟨h, h2, hm⟩]
  have a := minN_is (turns_of h) m.toNat (by omega)
  rwa [Int.toNat_of_nonneg (by omega)] at a

theorem nearB_is {n s m : Int} (h : tok n s = true) (h2 : 2 ≤ m) (hm : m ≤ n) : IsMax n s m (nearB n s m) := by
  unfold nearB
  rw [if_pos ⟨h, h2, hm⟩]
  have a := maxN_is (turns_of h) m.toNat (by omega)
  rwa [Int.toNat_of_nonneg (by omega)] at a

theorem nextT_is {n s m t : Int} (h : tok n s = true) (h2 : 1 ≤ m) (hm : m ≤ n) (h0 : 0 ≤ t) (h1 : t < m) : IsNext n s m t (nextT n s m t) := by
  unfold nextT
  rw [if_pos ⟨h, h2, hm, h0, h1⟩]
  have a := nextN_is (t := t) h m.toNat
  rwa [Int.toNat_of_nonneg (by omega)] at a

theorem nearA_of {n s m p : Int} (h : tok n s = true) (h2 : 2 ≤ m) (hm : m ≤ n) (hp : IsMin n s m p) : nearA n s m = p :=
  min_unique (turns_of h) hm (nearA_is h h2 hm) hp

theorem nearB_of {n s m p : Int} (h : tok n s = true) (h2 : 2 ≤ m) (hm : m ≤ n) (hp : IsMax n s m p) : nearB n s m = p :=
  max_unique (turns_of h) hm (nearB_is h h2 hm) hp

theorem nextT_of {n s m t p : Int} (h : tok n s = true) (h2 : 1 ≤ m) (hm : m ≤ n) (h0 : 0 ≤ t) (h1 : t < m) (hp : IsNext n s m t p) : nextT n s m t = p :=
  next_unique (turns_of h) hm (nextT_is h h2 hm h0 h1) hp

theorem nearA_no {n s m : Int} (h : ¬ (tok n s = true ∧ 2 ≤ m ∧ m ≤ n)) : nearA n s m = -1 := if_neg h

theorem nearB_no {n s m : Int} (h : ¬ (tok n s = true ∧ 2 ≤ m ∧ m ≤ n)) : nearB n s m = -1 := if_neg h

theorem nextT_no {n s m t : Int} (h : ¬ (tok n s = true ∧ 1 ≤ m ∧ m ≤ n ∧ 0 ≤ t ∧ t < m)) : nextT n s m t = -1 := if_neg h

theorem next_of_min {n s m p : Int} (h : tok n s = true) (hm : m ≤ n) (hp : IsMin n s m p) : IsNext n s m 0 p := by
  obtain ⟨a, b, c⟩ := hp
  have hb := tok_bd h
  have pp := (turns_of h).pos a (by omega)
  refine .inr ⟨a, b, by rw [pt0]; exact pp, fun j j0 j1 x => ?_⟩
  by_cases e : j = 0
  · subst e; omega
  · exact c j (by omega) j1

theorem nextT_zero {n s m : Int} (h2 : 2 ≤ m) : nextT n s m 0 = nearA n s m := by
  by_cases h : tok n s = true ∧ m ≤ n
  · exact nextT_of h.1 (by omega) h.2 (by omega) (by omega) (next_of_min h.1 h.2 (nearA_is h.1 h2 h.2))
  · rw [nextT_no (fun c => h ⟨c.1, c.2.2.1⟩), nearA_no (fun c => h ⟨c.1, c.2.2⟩)]

/-- the rule for all times -/
theorem nextT_rule {n s m t : Int} (h : tok n s = true) (h2 : 2 ≤ m) (hm : m ≤ n) (h0 : 0 ≤ t) (h1 : t < m) :
    nextT n s m t = if t + nearA n s m < m then t + nearA n s m else if 0 ≤ t - nearB n s m then t - nearB n s m else t + nearA n s m - nearB n s m :=
  nextT_of h (by omega) hm h0 h1 (next_rule (turns_of h) hm (nearA_is h h2 hm) (nearB_is h h2 hm) h0 h1).1

theorem nextT_one {n s m : Int} (h : tok n s = true) (hm : m = 1) : nextT n s m 0 = 0 := by
  have hb := tok_bd h
  refine nextT_of h (by omega) (by omega) (by omega) (by omega) (.inl ⟨rfl, fun j j0 j1 => ?_⟩)
  have e : j = 0 := by omega
  rw [e]; exact Int.le_refl _

theorem nextT_bd {n s m t : Int} (h : tok n s = true) (h1 : 1 ≤ m) (hm : m ≤ n) (h0 : 0 ≤ t) (ht : t < m) : 0 ≤ nextT n s m t ∧ nextT n s m t < m := by
  by_cases h2 : 2 ≤ m
  · have a := nextT_rule h h2 hm h0 ht
    have b := near_sum (turns_of h) hm (nearA_is h h2 hm) (nearB_is h h2 hm)
    obtain ⟨c1, c2, _⟩ := nearA_is h h2 hm
    obtain ⟨d1, d2, _⟩ := nearB_is h h2 hm
    rw [a]
    split
    · omega
    · split <;> omega
  · have e : t = 0 := by omega
    subst e
    rw [nextT_one h (by omega)]
    omega

theorem near_total {n s m : Int} (h : tok n s = true) (h2 : 2 ≤ m) (hm : m ≤ n) :
    pt n s (nearA n s m) * nearB n s m + (n - pt n s (nearB n s m)) * nearA n s m = n := by
  have hb := tok_bd h
  obtain ⟨k, rfl⟩ := Int.eq_ofNat_of_zero_le (by omega : 0 ≤ m)
  exact near_size (turns_of h) hb.2.2.1 hb.2.2.2 k (by omega) hm (nearA_is h h2 hm) (nearB_is h h2 hm)

/-- the nearest one below is the nearest one above, the other way -/
theorem nearA_back {n s m : Int} : nearA n (n - s) m = nearB n s m := by
  by_cases h : tok n s = true ∧ 2 ≤ m ∧ m ≤ n
  · obtain ⟨ht, h2, hm⟩ := h
    have hb := tok_bd ht
    obtain ⟨a, b, c⟩ := nearB_is ht h2 hm
    have ht' : tok n (n - s) = true := by rw [tok_back]; exact ht
    refine nearA_of ht' h2 hm ⟨a, b, fun j j1 j2 => ?_⟩
    have x := back_points ht a (by omega)
    have y := back_points ht j1 (by omega)
    rw [pointF_yes ht (by omega) (by omega), pointF_yes ht' (by omega) (by omega)] at x y
    have z := c j (by omega) j2
    unfold pt at *
    omega
  · rw [nearB_no h, nearA_no (by rw [tok_back]; exact h)]

end Go.Proofs.Ytokmmbmkfpfmgaa

set_option linter.unusedVariables false
namespace Go.Proofs.Ytokmmbmkfpfmgaa

/-- a number put into a row in its place -/
def ins (v : Int) : List Int → List Int
  | [] => [v]
  | x :: r => if x < v then x :: ins v r else v :: x :: r

def isort (xs : List Int) : List Int := xs.foldl (fun acc x => ins x acc) []

theorem isort_snoc (xs : List Int) (x : Int) : isort (xs ++ [x]) = ins x (isort xs) := by simp [isort]

theorem ins_length (v : Int) (xs : List Int) : (ins v xs).length = xs.length + 1 := by
  induction xs with
  | nil => rfl
  | cons x r ih => unfold ins; split <;> simp [ih]

theorem ins_perm (v : Int) (xs : List Int) : (ins v xs).Perm (v :: xs) := by
  induction xs with
  | nil => exact .refl _
  | cons x r ih =>
    unfold ins
    split
    · exact (ih.cons x).trans (.swap v x r)
    · exact .refl _

theorem ins_mem {v x : Int} {xs : List Int} : x ∈ ins v xs ↔ x = v ∨ x ∈ xs := by
  rw [(ins_perm v xs).mem_iff, List.mem_cons]

theorem isort_perm (xs : List Int) : (isort xs).Perm xs := by
  have h : ∀ (ys acc : List Int), (ys.foldl (fun acc x => ins x acc) acc).Perm (acc ++ ys) := by
    intro ys
    induction ys with
    | nil => intro acc; simp
    | cons y ys ih =>
      intro acc
      rw [List.foldl_cons]
      refine (ih _).trans ?_
      refine ((ins_perm y acc).append_right ys).trans ?_
      exact List.perm_middle.symm
  simpa [isort] using h xs []

theorem isort_length (xs : List Int) : (isort xs).length = xs.length := (isort_perm xs).length_eq

theorem isort_mem {x : Int} {xs : List Int} : x ∈ isort xs ↔ x ∈ xs := (isort_perm xs).mem_iff

theorem ins_wk {v : Int} {xs : List Int} (h : xs.Pairwise (· ≤ ·)) : (ins v xs).Pairwise (· ≤ ·) := by
  induction xs with
  | nil => simp [ins]
  | cons x r ih =>
    rw [List.pairwise_cons] at h
    unfold ins
    split
    · rename_i hlt
      rw [List.pairwise_cons]
      refine ⟨fun y hy => ?_, ih h.2⟩
      rcases ins_mem.1 hy with rfl | hy
      · omega
      · exact h.1 y hy
    · rename_i hlt
      rw [List.pairwise_cons]
      refine ⟨fun y hy => ?_, List.pairwise_cons.2 h⟩
      rcases List.mem_cons.1 hy with rfl | hy
      · omega
      · have := h.1 y hy; omega

theorem isort_wk (xs : List Int) : (isort xs).Pairwise (· ≤ ·) := by
  have h : ∀ (ys acc : List Int), acc.Pairwise (· ≤ ·) → (ys.foldl (fun acc x => ins x acc) acc).Pairwise (· ≤ ·) := by
    intro ys
    induction ys with
    | nil => intro acc h; exact h
    | cons y ys ih => intro acc h; exact ih _ (ins_wk h)
  exact h xs [] .nil

/-- the place from below: all before are less, the next one is not -/
theorem ins_below (v : Int) (xs ys : List Int) (h1 : ∀ x ∈ xs, x < v) (h2 : ∀ y ∈ ys.head?, v ≤ y) : ins v (xs ++ ys) = xs ++ v :: ys := by
  induction xs with
  | nil =>
    cases ys with
    | nil => rfl
    | cons y r =>
      have := h2 y (by simp)
      show (if y < v then _ else _) = _
      rw [if_neg (by omega)]; rfl
  | cons x r ih =>
    have := h1 x (by simp)
    show (if x < v then _ else _) = _
    rw [if_pos this]
    exact congrArg (x :: ·) (ih fun y hy => h1 y (by simp [hy]))

theorem all_same (v : Int) (xs ys : List Int) (h : ∀ x ∈ xs, x = v) : v :: (xs ++ ys) = xs ++ v :: ys := by
  induction xs with
  | nil => rfl
  | cons x r ih =>
    have e := h x (by simp)
    subst e
    show x :: x :: (r ++ ys) = x :: (r ++ x :: ys)
    rw [ih fun y hy => h y (by simp [hy])]

/-- the place from above: none before is greater, all behind are -/
theorem ins_above (v : Int) (xs ys : List Int) (hs : xs.Pairwise (· ≤ ·)) (h1 : ∀ x ∈ xs, x ≤ v) (h2 : ∀ y ∈ ys, v < y) : ins v (xs ++ ys) = xs ++ v :: ys := by
  induction xs with
  | nil =>
    cases ys with
    | nil => rfl
    | cons y r =>
      have := h2 y (by simp)
      show (if y < v then _ else _) = _
      rw [if_neg (by omega)]; rfl
  | cons x r ih =>
    have h3 := h1 x (by simp)
    rw [List.pairwise_cons] at hs
    show (if x < v then _ else _) = _
    by_cases hx : x < v
    · rw [if_pos hx]
      exact congrArg (x :: ·) (ih hs.2 fun y hy => h1 y (by simp [hy]))
    · rw [if_neg hx]
      refine all_same v (x :: r) ys fun y hy => ?_
      rcases List.mem_cons.1 hy with rfl | hy'
      · omega
      · have a := hs.1 y hy'
        have b := h1 y (by simp [hy'])
        omega

theorem asc_of {xs : List Int} (h : xs.Pairwise (· ≤ ·)) (hn : xs.Nodup) : xs.Pairwise (· < ·) := by
  refine (h.and hn).imp fun ⟨a, b⟩ => ?_
  omega

theorem asc_nodup {xs : List Int} (h : xs.Pairwise (· < ·)) : xs.Nodup := h.imp fun a b => by omega

/-- two ascending rows of the same numbers are one -/
theorem asc_ext {xs ys : List Int} (hx : xs.Pairwise (· < ·)) (hy : ys.Pairwise (· < ·)) (h : ∀ x, x ∈ xs ↔ x ∈ ys) : xs = ys := by
  induction xs generalizing ys with
  | nil =>
    cases ys with
    | nil => rfl
    | cons y r => have := (h y).2 (by simp); simp at this
  | cons x r ih =>
    cases ys with
    | nil => have := (h x).1 (by simp); simp at this
    | cons y q =>
      rw [List.pairwise_cons] at hx hy
      have e : x = y := by
        rcases List.mem_cons.1 ((h x).1 (by simp)) with e | e
        · exact e
        · rcases List.mem_cons.1 ((h y).2 (by simp)) with e2 | e2
          · exact e2.symm
          · have a := hy.1 x e
            have b := hx.1 y e2
            omega
      subst e
      rw [ih hx.2 hy.2 fun z => ?_]
      constructor
      · intro hz
        have a := hx.1 z hz
        rcases List.mem_cons.1 ((h z).1 (by simp [hz])) with e | e
        · omega
        · exact e
      · intro hz
        have a := hy.1 z hz
        rcases List.mem_cons.1 ((h z).2 (by simp [hz])) with e | e
        · omega
        · exact e

theorem asc_getD {xs : List Int} (h : xs.Pairwise (· < ·)) (d : Int) {i j : Nat} (hij : i < j) (hj : j < xs.length) : xs.getD i d < xs.getD j d := by
  rw [List.getD_eq_getElem?_getD, List.getD_eq_getElem?_getD, List.getElem?_eq_getElem hj, List.getElem?_eq_getElem (by omega : i < xs.length)]
  exact List.pairwise_iff_getElem.1 h i j (by omega) hj hij

theorem getD_mem' {xs : List Int} (d : Int) {i : Nat} (hi : i < xs.length) : xs.getD i d ∈ xs := by
  rw [List.getD_eq_getElem?_getD, List.getElem?_eq_getElem hi]
  exact List.getElem_mem hi

theorem mem_getD {xs : List Int} (d : Int) {x : Int} (h : x ∈ xs) : ∃ i, i < xs.length ∧ xs.getD i d = x := by
  obtain ⟨i, hi, e⟩ := List.getElem_of_mem h
  exact ⟨i, hi, by rw [List.getD_eq_getElem?_getD, List.getElem?_eq_getElem hi]; exact e⟩

theorem getD_ge {xs : List Int} (d : Int) {i : Nat} (hi : xs.length ≤ i) : xs.getD i d = d := by
  rw [List.getD_eq_getElem?_getD, List.getElem?_eq_none hi]; rfl

/-- how far it is from each number of a row to the next one, and from the last one to n -/
def gapsL (n : Int) (xs : List Int) : List Int := (List.range xs.length).map fun i => xs.getD (i + 1) n - xs.getD i n

theorem gapsL_length (n : Int) (xs : List Int) : (gapsL n xs).length = xs.length := by simp [gapsL]

theorem gapsL_getD (n : Int) (xs : List Int) {i : Nat} (d : Int) (h : i < xs.length) : (gapsL n xs).getD i d = xs.getD (i + 1) n - xs.getD i n := by
  simp only [gapsL, List.getD_eq_getElem?_getD]
  simp [h]

theorem gapsL_take (n : Int) (xs : List Int) {k : Nat} (h : k < xs.length) : (gapsL n xs).take (k + 1) = (gapsL n xs).take k ++ [xs.getD (k + 1) n - xs.getD k n] := by
  rw [List.take_succ_eq_append_getElem (by rw [gapsL_length]; exact h)]
  congr 2
  have e := gapsL_getD n xs 0 h
  rw [List.getD_eq_getElem?_getD, List.getElem?_eq_getElem (by rw [gapsL_length]; exact h)] at e
  exact e

/-- the numbers of a row, each once, in ascending order -/
def kindsL (xs : List Int) : List Int := xs.foldl (fun ks g => if g ∈ ks then ks else ins g ks) []

theorem kindsL_snoc (xs : List Int) (x : Int) : kindsL (xs ++ [x]) = if x ∈ kindsL xs then kindsL xs else ins x (kindsL xs) := by
  unfold kindsL
  rw [List.foldl_append]
  rfl

theorem ins_asc {v : Int} {xs : List Int} (h : xs.Pairwise (· < ·)) (hv : v ∉ xs) : (ins v xs).Pairwise (· < ·) := by
  refine asc_of (ins_wk (h.imp fun a => by omega)) ?_
  rw [(ins_perm v xs).nodup_iff]
  exact List.nodup_cons.2 ⟨hv, asc_nodup h⟩

theorem kindsL_is (xs : List Int) : (kindsL xs).Pairwise (· < ·) ∧ ∀ x, x ∈ kindsL xs ↔ x ∈ xs := by
  have h : ∀ (ys acc : List Int), acc.Pairwise (· < ·) → (ys.foldl (fun ks g => if g ∈ ks then ks else ins g ks) acc).Pairwise (· < ·) ∧ ∀ x, x ∈ ys.foldl (fun ks g => if g ∈ ks then ks else ins g ks) acc ↔ x ∈ acc ∨ x ∈ ys := by
    intro ys
    induction ys with
    | nil => intro acc h; exact ⟨h, fun x => by simp⟩
    | cons y ys ih =>
      intro acc h
      rw [List.foldl_cons]
      by_cases hy : y ∈ acc
      · rw [if_pos hy]
        obtain ⟨a, b⟩ := ih acc h
        refine ⟨a, fun x => ?_⟩
        rw [b x, List.mem_cons]
        constructor
        · rintro (c | c)
          · exact .inl c
          · exact .inr (.inr c)
        · rintro (c | rfl | c)
          · exact .inl c
          · exact .inl hy
          · exact .inr c
      · rw [if_neg hy]
        obtain ⟨a, b⟩ := ih _ (ins_asc h hy)
        refine ⟨a, fun x => ?_⟩
        rw [b x, List.mem_cons, ins_mem]
        constructor
        · rintro ((c | c) | c)
          · exact .inr (.inl c)
          · exact .inl c
          · exact .inr (.inr c)
        · rintro (c | c | c)
          · exact .inl (.inr c)
          · exact .inl (.inl c)
          · exact .inr c
  obtain ⟨a, b⟩ := h xs [] .nil
  exact ⟨a, fun x => by rw [kindsL, b x]; simp⟩
end Go.Proofs.Ytokmmbmkfpfmgaa
