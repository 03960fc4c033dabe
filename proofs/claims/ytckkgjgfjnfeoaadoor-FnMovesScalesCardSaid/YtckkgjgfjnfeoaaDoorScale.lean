/- Plain numbers: digits by a basis in which each number is so many times the one before, and the one before that. -/
import Derived.Test.YtckkgjgfjnfeoaaDoorGMath
set_option linter.unusedVariables false
namespace Go.Proofs.YtckkgjgfjnfeoaaDoor
set_option maxRecDepth 4000

structure Scale (B M : Nat → Nat) (m : Nat) : Prop where
  b0 : B 0 = 1
  b1 : 1 ≤ m → B 1 = M 0 + 1
  bs : ∀ k, 1 ≤ k → k < m → B (k + 1) = M k * B k + B (k - 1)
  mp : ∀ k, k < m → 1 ≤ M k
variable {B M : Nat → Nat} {m : Nat}

theorem Scale.pos (h : Scale B M m) {k : Nat} (hk : k ≤ m) : 1 ≤ B k := by
  induction k with
  | zero => rw [h.b0]; exact Nat.le_refl _
  | succ k ih =>
    have i := ih (by omega)
    by_cases c : k = 0
    · subst c; have := h.b1 (by omega); show 1 ≤ B 1; omega
    · have e := h.bs k (by omega) (by omega)
      have p := h.mp k (by omega)
      have q : 1 ≤ M k * B k := Nat.mul_pos p i
      omega

theorem Scale.lt (h : Scale B M m) {k : Nat} (hk : k < m) : B k < B (k + 1) := by
  have i := h.pos (k := k) (by omega)
  have p := h.mp k hk
  by_cases c : k = 0
  · subst c; have e := h.b1 (by omega); have := h.b0; show B 0 < B 1; omega
  · have e := h.bs k (by omega) hk
    have q : B k ≤ M k * B k := Nat.le_mul_of_pos_left _ p
    have r := h.pos (k := k - 1) (by omega)
    omega

/-- the number of the lowest k digits -/
def valD (B d : Nat → Nat) : Nat → Nat
  | 0 => 0
  | k + 1 => valD B d k + d k * B k

/-- the rules of the lowest k digits -/
def OkD (M d : Nat → Nat) (k : Nat) : Prop := (∀ i, i < k → d i ≤ M i) ∧ ∀ i, 1 ≤ i → i < k → d i = M i → d (i - 1) = 0

theorem OkD.less {d : Nat → Nat} {k : Nat} (h : OkD M d (k + 1)) : OkD M d k := ⟨fun i hi => h.1 i (by omega), fun i h1 h2 => h.2 i h1 (by omega)⟩

theorem valD_lt (h : Scale B M m) {d : Nat → Nat} : ∀ k, k ≤ m → OkD M d k → valD B d k < B k := by
  intro k
  induction k using Nat.strongRecOn with
  | _ k ih =>
    intro hk ho
    match k, ih, hk, ho with
    | 0, _, _, _ => rw [h.b0]; exact Nat.zero_lt_one
    | 1, _, hk, ho =>
      have := ho.1 0 (by omega)
      show 0 + d 0 * B 0 < B 1
      rw [h.b0, h.b1 (by omega)]; omega
    | k + 2, ih, hk, ho =>
      have a := ih (k + 1) (by omega) (by omega) ho.less
      have b := ih k (by omega) (by omega) ho.less.less
      have e := h.bs (k + 1) (by omega) (by omega)
      rw [show k + 1 - 1 = k by omega] at e
      have p := h.pos (k := k) (by omega)
      show valD B d (k + 1) + d (k + 1) * B (k + 1) < B (k + 2)
      rw [show k + 2 = k + 1 + 1 by omega, e]
      have hd := ho.1 (k + 1) (by omega)
      by_cases c : d (k + 1) = M (k + 1)
      · have z := ho.2 (k + 1) (by omega) (by omega) c
        rw [show k + 1 - 1 = k by omega] at z
        have v : valD B d (k + 1) = valD B d k := by show valD B d k + d k * B k = _; rw [z]; omega
        rw [c, v]; omega
      · have q : d (k + 1) * B (k + 1) + B (k + 1) ≤ M (k + 1) * B (k + 1) := by
          rw [← Nat.succ_mul]; exact Nat.mul_le_mul_right _ (by omega)
        omega

/-- the highest digit is told by a division -/
theorem top_div (h : Scale B M m) {d : Nat → Nat} {k : Nat} (hk : k < m) (ho : OkD M d (k + 1)) : valD B d (k + 1) / B k = d k ∧ valD B d (k + 1) % B k = valD B d k := by
  have a := valD_lt h k (by omega) ho.less
  have p := h.pos (k := k) (by omega)
  show (valD B d k + d k * B k) / B k = d k ∧ (valD B d k + d k * B k) % B k = valD B d k
  rw [Nat.add_mul_div_right _ _ p, Nat.add_mul_mod_self_right, Nat.div_eq_of_lt a, Nat.mod_eq_of_lt a]
  exact ⟨by omega, rfl⟩

/-- what is left of a number when the digits from m - 1 down have been taken, so many of them; and the digit then taken -/
def remD (B : Nat → Nat) (m n : Nat) : Nat → Nat
  | 0 => n
  | j + 1 => remD B m n j % B (m - 1 - j)

def digD (B : Nat → Nat) (m n i : Nat) : Nat := remD B m n (m - 1 - i) / B i

theorem remD_lt (h : Scale B M m) {n : Nat} (hn : n < B m) (j : Nat) (hj : j ≤ m) : remD B m n j < B (m - j) := by
  induction j with
  | zero => exact hn
  | succ j ih =>
    show remD B m n j % B (m - 1 - j) < B (m - (j + 1))
    rw [show m - (j + 1) = m - 1 - j by omega]
    exact Nat.mod_lt _ (h.pos (by omega))

theorem dig_val (h : Scale B M m) {n : Nat} (hn : n < B m) : ∀ k, k ≤ m → valD B (digD B m n) k = remD B m n (m - k) := by
  intro k
  induction k with
  | zero =>
    intro _
    have := remD_lt h hn m (Nat.le_refl _)
    rw [Nat.sub_self, h.b0] at this
    show 0 = remD B m n (m - 0)
    rw [Nat.sub_zero]; omega
  | succ k ih =>
    intro hk
    show valD B (digD B m n) k + digD B m n k * B k = _
    rw [ih (by omega)]
    unfold digD
    have e : remD B m n (m - k) = remD B m n (m - 1 - k) % B k := by
      rw [show m - k = (m - 1 - k) + 1 by omega]
      show remD B m n (m - 1 - k) % B (m - 1 - (m - 1 - k)) = _
      rw [show m - 1 - (m - 1 - k) = k by omega]
    rw [e, show m - (k + 1) = m - 1 - k by omega, Nat.mul_comm]
    exact Nat.mod_add_div _ _

theorem dig_number (h : Scale B M m) {n : Nat} (hn : n < B m) : valD B (digD B m n) m = n := by
  rw [dig_val h hn m (Nat.le_refl _), Nat.sub_self]; rfl

theorem dig_ok (h : Scale B M m) {n : Nat} (hn : n < B m) : OkD M (digD B m n) m := by
  have hrem : ∀ i, i < m → remD B m n (m - 1 - i) < B (i + 1) := fun i hi => by
    have := remD_lt h hn (m - 1 - i) (by omega)
    rwa [show m - (m - 1 - i) = i + 1 by omega] at this
  constructor
  · intro i hi
    have a := hrem i hi
    have p := h.pos (k := i) (by omega)
    unfold digD
    by_cases c : i = 0
    · subst c
      rw [h.b1 (by omega)] at a
      rw [h.b0, Nat.div_one]; omega
    · have l := h.lt (k := i - 1) (by omega)
      rw [show i - 1 + 1 = i by omega] at l
      rw [h.bs i (by omega) hi] at a
      have : remD B m n (m - 1 - i) / B i < M i + 1 := by
        rw [Nat.div_lt_iff_lt_mul p, Nat.succ_mul]; omega
      omega
  · intro i h1 hi e
    have a := hrem i hi
    rw [h.bs i h1 hi] at a
    have p := h.pos (k := i) (by omega)
    have dm := Nat.mod_add_div (remD B m n (m - 1 - i)) (B i)
    unfold digD at e ⊢
    rw [e, Nat.mul_comm] at dm
    have e2 : remD B m n (m - 1 - (i - 1)) = remD B m n (m - 1 - i) % B i := by
      rw [show m - 1 - (i - 1) = (m - 1 - i) + 1 by omega]
      show remD B m n (m - 1 - i) % B (m - 1 - (m - 1 - i)) = _
      rw [show m - 1 - (m - 1 - i) = i by omega]
    rw [e2]
    exact Nat.div_eq_of_lt (by omega)

/-- digits that keep the rules are the digits of their number -/
theorem dig_of (h : Scale B M m) {d : Nat → Nat} (ho : OkD M d m) : ∀ i, i < m → digD B m (valD B d m) i = d i := by
  have hr : ∀ j, j ≤ m → remD B m (valD B d m) j = valD B d (m - j) := by
    intro j
    induction j with
    | zero => intro _; rfl
    | succ j ih =>
      intro hj
      show remD B m (valD B d m) j % B (m - 1 - j) = _
      rw [ih (by omega)]
      have hk : OkD M d (m - 1 - j + 1) := ⟨fun i hi => ho.1 i (by omega), fun i a b => ho.2 i a (by omega)⟩
      have := (top_div h (k := m - 1 - j) (by omega) hk).2
      rw [show m - 1 - j + 1 = m - j by omega] at this
      rw [this, show m - 1 - j = m - (j + 1) by omega]
  intro i hi
  unfold digD
  rw [hr _ (by omega)]
  have hk : OkD M d (i + 1) := ⟨fun j hj => ho.1 j (by omega), fun j a b => ho.2 j a (by omega)⟩
  have := (top_div h hi hk).1
  rwa [show m - (m - 1 - i) = i + 1 by omega]

/-- the same digits from k on -/
theorem val_same {d e : Nat → Nat} {k : Nat} (hs : ∀ i, k < i → i < m → d i = e i) (hk : k < m) : valD B d m + valD B e (k + 1) = valD B e m + valD B d (k + 1) := by
  have key : ∀ j, k + 1 ≤ j → j ≤ m → valD B d j + valD B e (k + 1) = valD B e j + valD B d (k + 1) := by
    intro j
    induction j with
    | zero => intro h; omega
    | succ j ih =>
      intro h1 h2
      by_cases c : j = k
      · subst c; omega
      · have := ih (by omega) (by omega)
        show valD B d j + d j * B j + _ = valD B e j + e j * B j + _
        rw [hs j (by omega) (by omega)]; omega
  exact key m (by omega) (Nat.le_refl _)

/-- the greater digit in the highest place that differs tells the greater number -/
theorem val_order (h : Scale B M m) {d e : Nat → Nat} {k : Nat} (hd : OkD M d m) (hs : ∀ i, k < i → i < m → d i = e i) (hk : k < m) (hlt : d k < e k) : valD B d m < valD B e m := by
  have a := val_same (B := B) hs hk
  have b := valD_lt h k (by omega) ⟨fun i hi => hd.1 i (by omega), fun i x y => hd.2 i x (by omega)⟩
  have a' : valD B d m + (valD B e k + e k * B k) = valD B e m + (valD B d k + d k * B k) := a
  have q : d k * B k + B k ≤ e k * B k := by rw [← Nat.succ_mul]; exact Nat.mul_le_mul_right _ hlt
  omega

/-- the next number: the highest digit that differs is one more, and all below are 0 -/
theorem val_next (h : Scale B M m) {d e : Nat → Nat} {k : Nat} (hd : OkD M d m) (he : OkD M e m) (hs : ∀ i, k < i → i < m → d i = e i) (hk : k < m) (hne : d k ≠ e k) (hv : valD B e m = valD B d m + 1) :
    e k = d k + 1 ∧ valD B e k = 0 := by
  have a' : valD B d m + (valD B e k + e k * B k) = valD B e m + (valD B d k + d k * B k) := val_same (B := B) hs hk
  have b := valD_lt h k (by omega) ⟨fun i hi => hd.1 i (by omega), fun i x y => hd.2 i x (by omega)⟩
  have p := h.pos (k := k) (by omega)
  by_cases c : e k < d k
  · have := val_order h he (fun i x y => (hs i x y).symm) hk c
    omega
  · by_cases c2 : e k = d k + 1
    · refine ⟨c2, ?_⟩
      rw [c2, Nat.succ_mul] at a'
      omega
    · have q : (d k + 2) * B k ≤ e k * B k := Nat.mul_le_mul_right _ (by omega)
      rw [Nat.add_mul] at q
      omega

/-- all digits below are 0 where their number is -/
theorem val_zero (h : Scale B M m) {d : Nat → Nat} : ∀ k, k ≤ m → valD B d k = 0 → ∀ i, i < k → d i = 0 := by
  intro k
  induction k with
  | zero => intro _ _ i hi; omega
  | succ k ih =>
    intro hk hv i hi
    have hv' : valD B d k + d k * B k = 0 := hv
    have p := h.pos (k := k) (by omega)
    by_cases c : i = k
    · subst c
      have : d i * B i = 0 := by omega
      rcases Nat.mul_eq_zero.1 this with x | x
      · exact x
      · omega
    · exact ih (by omega) (by omega) i (by omega)

/-- the sum of digits -/
def sumD (d : Nat → Nat) : Nat → Nat
  | 0 => 0
  | k + 1 => sumD d k + d k

theorem sumD_zero {d : Nat → Nat} {k : Nat} (h : ∀ i, i < k → d i = 0) : sumD d k = 0 := by
  induction k with
  | zero => rfl
  | succ k ih => show sumD d k + d k = 0; rw [ih fun i hi => h i (by omega), h k (by omega)]

theorem sumD_same {d e : Nat → Nat} {k : Nat} (hs : ∀ i, k < i → i < m → d i = e i) (hk : k < m) : sumD d m + sumD e (k + 1) = sumD e m + sumD d (k + 1) := by
  have key : ∀ j, k + 1 ≤ j → j ≤ m → sumD d j + sumD e (k + 1) = sumD e j + sumD d (k + 1) := by
    intro j
    induction j with
    | zero => intro h; omega
    | succ j ih =>
      intro h1 h2
      by_cases c : j = k
      · subst c; omega
      · have := ih (by omega) (by omega)
        show sumD d j + d j + _ = sumD e j + e j + _
        rw [hs j (by omega) (by omega)]; omega
  exact key m (by omega) (Nat.le_refl _)

/-- the next number's digits are together at most one more -/
theorem sum_next (h : Scale B M m) {d e : Nat → Nat} {k : Nat} (hd : OkD M d m) (he : OkD M e m) (hs : ∀ i, k < i → i < m → d i = e i) (hk : k < m) (hne : d k ≠ e k) (hv : valD B e m = valD B d m + 1) : sumD e m ≤ sumD d m + 1 := by
  obtain ⟨a, b⟩ := val_next h hd he hs hk hne hv
  have z := sumD_zero (val_zero h k (by omega) b)
  have c : sumD d m + (sumD e k + e k) = sumD e m + (sumD d k + d k) := sumD_same hs hk
  omega
end Go.Proofs.YtckkgjgfjnfeoaaDoor
