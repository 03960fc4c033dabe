/- What chapter 9's laws say, in plain numbers. -/
import Derived.Test.YtckkgjgfjnfeoaaDoorNumF
set_option linter.unusedVariables false
namespace Go.Proofs.YtckkgjgfjnfeoaaDoor
set_option maxRecDepth 4000
variable {B M : Nat → Nat} {m : Nat}

/-- the sum of points, each as often as its digit -/
def sumPt (B d : Nat → Nat) (n s : Nat) : Nat → Nat
  | 0 => 0
  | k + 1 => sumPt B d n s k + d k * (B k * s % n)

theorem sumPt_mod (B d : Nat → Nat) (n s : Nat) : ∀ k, sumPt B d n s k % n = valD B d k * s % n := by
  intro k
  induction k with
  | zero => show 0 % n = 0 * s % n; rw [Nat.zero_mul]
  | succ k ih =>
    show (sumPt B d n s k + d k * (B k * s % n)) % n = (valD B d k + d k * B k) * s % n
    rw [Nat.add_mod, ih, Nat.add_mul, Nat.add_mod (valD B d k * s), Nat.mul_mod (d k) (B k * s % n), Nat.mod_mod, ← Nat.mul_mod, Nat.mul_assoc]

theorem sumPt_le {d : Nat → Nat} {n s : Nat} (hn : 0 < n) (hd : ∀ i, i < m → d i ≤ 60) : ∀ k, k ≤ m → sumPt B d n s k ≤ k * (60 * n) := by
  intro k
  induction k with
  | zero => intro _; exact Nat.zero_le _
  | succ k ih =>
    intro hk
    have a := ih (by omega)
    have b : d k * (B k * s % n) ≤ 60 * n := Nat.mul_le_mul (hd k (by omega)) (Nat.le_of_lt (Nat.mod_lt _ hn))
    show sumPt B d n s k + d k * (B k * s % n) ≤ (k + 1) * (60 * n)
    rw [Nat.succ_mul]; omega

/-- the highest place at which two rows differ -/
theorem top_differ {d e : Nat → Nat} : ∀ m, (∃ i, i < m ∧ d i ≠ e i) → ∃ k, k < m ∧ d k ≠ e k ∧ ∀ i, k < i → i < m → d i = e i := by
  intro m
  induction m with
  | zero => rintro ⟨i, h, _⟩; omega
  | succ m ih =>
    rintro ⟨i, hi, hne⟩
    by_cases c : d m = e m
    · obtain ⟨k, h1, h2, h3⟩ := ih ⟨i, by
        by_cases q : i = m
        · subst q; exact absurd c hne
        · omega, hne⟩
      exact ⟨k, by omega, h2, fun i a b => by
        by_cases q : i = m
        · subst q; exact c
        · exact h3 i a (by omega)⟩
    · exact ⟨m, by omega, c, fun i a b => by omega⟩

theorem val_eq {d e : Nat → Nat} : ∀ k, (∀ i, i < k → d i = e i) → valD B d k = valD B e k := by
  intro k
  induction k with
  | zero => intro _; rfl
  | succ k ih => intro h; show valD B d k + d k * B k = valD B e k + e k * B k; rw [ih fun i hi => h i (by omega), h k (by omega)]

theorem sumD_eq {d e : Nat → Nat} : ∀ k, (∀ i, i < k → d i = e i) → sumD d k = sumD e k := by
  intro k
  induction k with
  | zero => intro _; rfl
  | succ k ih => intro h; show sumD d k + d k = sumD e k + e k; rw [ih fun i hi => h i (by omega), h k (by omega)]

theorem val_differ {d e : Nat → Nat} (h : valD B d m ≠ valD B e m) : ∃ i, i < m ∧ d i ≠ e i := by
  by_cases c : ∃ i, i < m ∧ d i ≠ e i
  · exact c
  · exact absurd (val_eq m fun i hi => by
      by_cases q : d i = e i
      · exact q
      · exact absurd ⟨i, hi, q⟩ c) h

/-- the next number's digits, at the highest place that differs, or at the lowest one -/
theorem next_at (h : Scale B M m) {d e : Nat → Nat} {k : Nat} (hd : OkD M d m) (he : OkD M e m) (hv : valD B e m = valD B d m + 1) (hk : k < m) (hs : ∀ i, k < i → i < m → e i = d i) (hend : e k ≠ d k ∨ k = 0) : e k = d k + 1 := by
  have hne : d k ≠ e k := by
    rcases hend with c | c
    · exact fun q => c q.symm
    · subst c
      intro q
      have := val_eq (B := B) (d := d) (e := e) m fun i hi => by
        by_cases z : i = 0
        · subst z; exact q
        · exact (hs i (by omega) hi).symm
      omega
  exact (val_next h hd he (fun i a b => (hs i a b).symm) hk hne hv).1

/-- two numbers' digits, at the highest place that differs, or at the lowest one -/
theorem order_at (h : Scale B M m) {d e : Nat → Nat} {k : Nat} (hd : OkD M d m) (he : OkD M e m) (hk : k < m) (hs : ∀ i, k < i → i < m → d i = e i) (hend : d k ≠ e k ∨ k = 0) :
    (valD B d m = valD B e m ↔ d k = e k) ∧ (valD B d m < valD B e m ↔ d k < e k) := by
  by_cases c : d k = e k
  · have k0 : k = 0 := by
      rcases hend with q | q
      · exact absurd c q
      · exact q
    have hv := val_eq (B := B) (d := d) (e := e) m fun i hi => by
      by_cases z : i = k
      · subst z; exact c
      · exact hs i (by omega) hi
    exact ⟨⟨fun _ => c, fun _ => hv⟩, ⟨fun q => by omega, fun q => by omega⟩⟩
  · by_cases l : d k < e k
    · have := val_order h hd hs hk l
      exact ⟨⟨fun q => by omega, fun q => absurd q c⟩, ⟨fun _ => l, fun _ => this⟩⟩
    · have := val_order h he (fun i a b => (hs i a b).symm) hk (by omega : e k < d k)
      exact ⟨⟨fun q => by omega, fun q => absurd q c⟩, ⟨fun q => by omega, fun q => absurd q l⟩⟩

/-- a number of the basis has one digit 1 -/
theorem unit_digits (h : Scale B M m) {j : Nat} (hj : j < m) : ∀ i, i < m → digD B m (B j) i = if i = j then 1 else 0 := by
  have ho : OkD M (fun i => if i = j then 1 else 0) m := by
    refine ⟨fun i hi => ?_, fun i h1 hi he => ?_⟩
    · have := h.mp i hi
      show (if i = j then 1 else 0) ≤ M i
      by_cases c : i = j
      · rw [if_pos c]; exact this
      · rw [if_neg c]; omega
    · have := h.mp i hi
      have he' : (if i = j then 1 else 0) = M i := he
      show (if i - 1 = j then 1 else 0) = 0
      by_cases c : i = j
      · rw [if_neg (by omega)]
      · rw [if_neg c] at he'; omega
  have hv : ∀ k, valD B (fun i => if i = j then 1 else 0) k = if j < k then B j else 0 := by
    intro k
    induction k with
    | zero => rfl
    | succ k ih =>
      show valD B _ k + (if k = j then 1 else 0) * B k = _
      rw [ih]
      by_cases c : k = j
      · subst c; rw [if_neg (by omega), if_pos rfl, if_pos (by omega)]; omega
      · rw [if_neg c, Nat.zero_mul]
        by_cases q : j < k
        · rw [if_pos q, if_pos (by omega)]; rfl
        · rw [if_neg q, if_neg (by omega)]
  have e := dig_of h ho
  rw [hv m, if_pos hj] at e
  exact e

theorem unit_sum (h : Scale B M m) {j : Nat} (hj : j < m) : sumD (digD B m (B j)) m = 1 := by
  rw [sumD_eq m (unit_digits h hj)]
  have : ∀ k, sumD (fun i => if i = j then 1 else 0) k = if j < k then 1 else 0 := by
    intro k
    induction k with
    | zero => rfl
    | succ k ih =>
      show sumD _ k + (if k = j then 1 else 0) = _
      rw [ih]
      by_cases c : k = j
      · subst c; rw [if_neg (by omega), if_pos rfl, if_pos (by omega)]
      · rw [if_neg c]
        by_cases q : j < k
        · rw [if_pos q, if_pos (by omega)]
        · rw [if_neg q, if_neg (by omega)]
  rw [this m, if_pos hj]

/-- the digit sum grows by one at most -/
theorem sum_step (h : Scale B M m) {a : Nat} (ha : a + 1 < B m) : sumD (digD B m (a + 1)) m ≤ sumD (digD B m a) m + 1 := by
  have d1 := dig_ok h (n := a) (by omega)
  have d2 := dig_ok h ha
  have v1 := dig_number h (n := a) (by omega)
  have v2 := dig_number h ha
  obtain ⟨k, hk, hne, hs⟩ := top_differ m (val_differ (B := B) (d := digD B m a) (e := digD B m (a + 1)) (m := m) (by omega))
  exact sum_next h d1 d2 hs hk hne (by omega)

/-- the last digit fills the circle -/
theorem most_fill (h : Scale B M m) (h1 : 1 ≤ m) : M (m - 1) * B (m - 1) + (if 1 < m then B (m - 2) else 1) = B m := by
  obtain ⟨k, rfl⟩ : ∃ k, m = k + 1 := ⟨m - 1, by omega⟩
  rw [Nat.add_sub_cancel]
  by_cases c : k = 0
  · subst c
    rw [if_neg (by omega), h.b0, h.b1 (by omega)]; omega
  · rw [if_pos (by omega), h.bs k (by omega) (by omega)]
    rfl

/-- no number of the basis comes twice, and they grow -/
theorem bas_grows (h : Scale B M m) : ∀ i, i + 1 < m → B i < B (i + 1) := fun i hi => h.lt (by omega)
end Go.Proofs.YtckkgjgfjnfeoaaDoor
