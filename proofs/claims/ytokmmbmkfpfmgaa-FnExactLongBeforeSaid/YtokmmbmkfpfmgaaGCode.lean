/- Plain numbers: the letters of a turn: ones by a division, balance, the same from behind, and one part more than letters. Plain words of two letters: balance, and what keeps it; and words as texts. -/
import Derived.Test.YtokmmbmkfpfmgaaGRec
import Derived.Test.YtokmmbmkfpfmgaaGMath
set_option linter.unusedVariables false
namespace Go.Proofs.Ytokmmbmkfpfmgaa
set_option maxRecDepth 4000
open N

/-- how many ones there are ahead of a time -/
def flN (n s k : Nat) : Nat := k * s / n

/-- the letter at a time: is it 1 -/
def letN (n s k : Nat) : Bool := decide (n ≤ k * s % n + s)

/-- so many letters from a time on -/
def wordL (n s a m : Nat) : List Bool := (List.range m).map fun j => letN n s (a + j)

theorem wordL_length (n s a m : Nat) : (wordL n s a m).length = m := by simp [wordL]

theorem wordL_succ (n s a m : Nat) : wordL n s a (m + 1) = wordL n s a m ++ [letN n s (a + m)] := by
  unfold wordL; rw [List.range_succ, List.map_append]; rfl

theorem wordL_getD (n s a m j : Nat) (h : j < m) (d : Bool) : (wordL n s a m).getD j d = letN n s (a + j) := by
  simp [wordL, List.getD_eq_getElem?_getD, h]

theorem div_step {n s x : Nat} (h0 : 0 < n) (hs : s ≤ n) : (x + s) / n = x / n + (decide (n ≤ x % n + s)).toNat := by
  have hr := Nat.mod_lt x h0
  have e : x + s = n * (x / n) + (x % n + s) := by have := Nat.div_add_mod x n; omega
  rw [e, Nat.mul_add_div h0]
  congr 1
  by_cases c : n ≤ x % n + s
  · rw [decide_eq_true c]
    have : (x % n + s) / n = 1 := by
      rw [Nat.div_eq_sub_div h0 c]
      by_cases c2 : x % n + s - n < n
      · rw [Nat.div_eq_of_lt c2]
      · omega
    rw [this]; rfl
  · rw [decide_eq_false c, Nat.div_eq_of_lt (by omega)]; rfl

theorem fl_succ {n s : Nat} (h0 : 0 < n) (hs : s ≤ n) (k : Nat) : flN n s (k + 1) = flN n s k + (letN n s k).toNat := by
  unfold flN letN
  rw [Nat.add_mul, Nat.one_mul]
  exact div_step h0 hs

theorem ones_word {n s : Nat} (h0 : 0 < n) (hs : s ≤ n) (a m : Nat) : flN n s (a + m) = flN n s a + (wordL n s a m).count true := by
  induction m with
  | zero => simp [wordL]
  | succ m ih =>
    rw [wordL_succ, List.count_append, show a + (m + 1) = a + m + 1 by omega, fl_succ h0 hs, ih]
    cases letN n s (a + m)
    · simp
    · simp; omega

/-- two parts of the same length differ by one at most -/
theorem bal_fl {n : Nat} (h0 : 0 < n) (s a b m : Nat) : flN n s (a + m) + flN n s b ≤ flN n s (b + m) + flN n s a + 1 := by
  unfold flN
  rw [Nat.add_mul, Nat.add_mul]
  have h1 : b * s / n + m * s / n ≤ (b * s + m * s) / n := by
    rw [Nat.le_div_iff_mul_le h0, Nat.add_mul]
    have := Nat.div_mul_le_self (b * s) n
    have := Nat.div_mul_le_self (m * s) n
    omega
  have h2 : (a * s + m * s) / n ≤ a * s / n + m * s / n + 1 := by
    have e1 := Nat.div_add_mod (a * s) n
    have e2 := Nat.div_add_mod (m * s) n
    have l1 := Nat.mod_lt (a * s) h0
    have l2 := Nat.mod_lt (m * s) h0
    have : (a * s + m * s) / n < a * s / n + m * s / n + 2 := by
      rw [Nat.div_lt_iff_lt_mul h0, Nat.add_mul, Nat.add_mul, Nat.mul_comm (a * s / n), Nat.mul_comm (m * s / n)]
      omega
    omega
  omega

theorem fl_size {n s : Nat} (h0 : 0 < n) : flN n s n = s := Nat.mul_div_cancel_left s h0

theorem mod_compl {n a b c q : Nat} (h0 : 0 < n) (e : a + b = n * c) (hb : b % n = q) (q0 : q ≠ 0) : a % n = n - q := by
  have h1 : (a % n + q) % n = 0 := by
    rw [← hb, ← Nat.add_mod, e]
    exact Nat.mul_mod_right n c
  have h2 := Nat.mod_lt a h0
  have h3 : q < n := by rw [← hb]; exact Nat.mod_lt b h0
  by_cases c : a % n + q < n
  · rw [Nat.mod_eq_of_lt c] at h1; omega
  · rw [Nat.mod_eq_sub_mod (by omega), Nat.mod_eq_of_lt (by omega)] at h1
    omega

theorem mod_pos {n s k : Nat} (ht : tokN n s = true) (h0 : 0 < k) (h1 : k < n) : k * s % n ≠ 0 := by
  obtain ⟨n2, _, s1, sn, g⟩ := tokN_bd ht
  intro e
  have hd : n ∣ k * s := Nat.dvd_of_mod_eq_zero e
  have hk : n ∣ k := Nat.Coprime.dvd_of_dvd_mul_right g hd
  have := Nat.le_of_dvd h0 hk
  omega

theorem mod_next {n s k : Nat} (h0 : 0 < n) (hs : s ≤ n) : (k + 1) * s % n = if n ≤ k * s % n + s then k * s % n + s - n else k * s % n + s := by
  have hr := Nat.mod_lt (k * s) h0
  rw [Nat.add_mul, Nat.one_mul, Nat.add_mod]
  by_cases hsn : s = n
  · subst hsn
    rw [if_pos (by omega), Nat.mod_self, Nat.add_zero, Nat.mod_mod]
    omega
  · rw [Nat.mod_eq_of_lt (show s < n by omega)]
    split
    · rename_i c
      rw [Nat.mod_eq_sub_mod c, Nat.mod_eq_of_lt (by omega)]
    · rename_i c
      rw [Nat.mod_eq_of_lt (by omega)]

theorem let_first {n s : Nat} (ht : tokN n s = true) : letN n s 0 = false := by
  obtain ⟨n2, _, s1, sn, g⟩ := tokN_bd ht
  unfold letN
  rw [Nat.zero_mul, Nat.zero_mod]
  simp; omega

theorem mod_last {n s : Nat} (ht : tokN n s = true) : (n - 1) * s % n = n - s := by
  obtain ⟨n2, _, s1, sn, g⟩ := tokN_bd ht
  refine mod_compl (b := s) (c := s) (by omega) ?_ (Nat.mod_eq_of_lt sn) (by omega)
  obtain ⟨k, rfl⟩ : ∃ k, n = k + 1 := ⟨n - 1, by omega⟩
  rw [Nat.add_sub_cancel, Nat.add_mul, Nat.one_mul]

theorem let_last {n s : Nat} (ht : tokN n s = true) : letN n s (n - 1) = true := by
  obtain ⟨n2, _, s1, sn, g⟩ := tokN_bd ht
  unfold letN
  rw [mod_last ht]
  simp; omega

/-- from behind -/
theorem let_back {n s k : Nat} (ht : tokN n s = true) (k1 : 1 ≤ k) (k2 : k + 1 < n) : letN n s (n - 1 - k) = letN n s k := by
  obtain ⟨n2, _, s1, sn, g⟩ := tokN_bd ht
  have hr := Nat.mod_lt (k * s) (by omega : 0 < n)
  have hr0 := mod_pos ht (by omega : 0 < k) (by omega)
  have hq0 := mod_pos ht (by omega : 0 < k + 1) (by omega)
  have e := mod_compl (n := n) (a := (n - 1 - k) * s) (b := (k + 1) * s) (c := s) (by omega) (by rw [← Nat.add_mul, show n - 1 - k + (k + 1) = n by omega]) rfl hq0
  have hn := mod_next (n := n) (s := s) (k := k) (by omega) (by omega)
  unfold letN
  rw [e]
  generalize (k + 1) * s % n = q at *
  generalize k * s % n = r at *
  by_cases c : n ≤ r + s
  · rw [if_pos c] at hn
    rw [decide_eq_true c, decide_eq_true (by omega)]
  · rw [if_neg c] at hn
    rw [decide_eq_false c, decide_eq_false (by omega)]

/-- the turn the other way -/
theorem let_other {n s k : Nat} (ht : tokN n s = true) (k1 : 1 ≤ k) (k2 : k + 1 < n) : letN n (n - s) k = !letN n s k := by
  obtain ⟨n2, _, s1, sn, g⟩ := tokN_bd ht
  have hr := Nat.mod_lt (k * s) (by omega : 0 < n)
  have hr0 := mod_pos ht (by omega : 0 < k) (by omega)
  have hq0 := mod_pos ht (by omega : 0 < k + 1) (by omega)
  have e := mod_compl (n := n) (a := k * (n - s)) (b := k * s) (c := k) (by omega) (by rw [← Nat.mul_add, Nat.sub_add_cancel (by omega), Nat.mul_comm]) rfl hr0
  have hn := mod_next (n := n) (s := s) (k := k) (by omega) (by omega)
  unfold letN
  rw [e]
  generalize (k + 1) * s % n = q at *
  generalize k * s % n = r at *
  by_cases c : n ≤ r + s
  · rw [if_pos c] at hn
    rw [decide_eq_true c, decide_eq_false (by omega)]; rfl
  · rw [if_neg c] at hn
    rw [decide_eq_false c, decide_eq_true (by omega)]; rfl

/-! ### parts -/

/-- so many letters from a point on -/
def uL (n s p m : Nat) : List Bool := (List.range m).map fun j => decide (n ≤ (p + j * s) % n + s)

theorem uL_word (n s k m : Nat) : uL n s (k * s % n) m = wordL n s k m := by
  unfold uL wordL letN
  refine List.map_congr_left fun j _ => ?_
  rw [Nat.mod_add_mod, Nat.add_mul]

def gN (n s p j : Nat) : Nat := (p + j * s) / n

theorem gN_succ {n s : Nat} (h0 : 0 < n) (hs : s ≤ n) (p j : Nat) : gN n s p (j + 1) = gN n s p j + (decide (n ≤ (p + j * s) % n + s)).toNat := by
  unfold gN
  rw [Nat.add_mul, Nat.one_mul, ← Nat.add_assoc]
  exact div_step h0 hs

theorem gN_zero {n s p : Nat} (hp : p < n) : gN n s p 0 = 0 := by
  unfold gN; rw [Nat.zero_mul, Nat.add_zero]; exact Nat.div_eq_of_lt hp

theorem uL_getD (n s p m j : Nat) (h : j < m) : (uL n s p m).getD j false = decide (n ≤ (p + j * s) % n + s) := by
  simp [uL, List.getD_eq_getElem?_getD, h]

theorem uL_iff {n s p p' m : Nat} (hs : s ≤ n) (hp : p < n) (hp' : p' < n) : uL n s p m = uL n s p' m ↔ ∀ j, j ≤ m → gN n s p j = gN n s p' j := by
  have h0 : 0 < n := by omega
  constructor
  · intro e j
    induction j with
    | zero => intro _; rw [gN_zero hp, gN_zero hp']
    | succ j ih =>
      intro hj
      have h1 := uL_getD n s p m j (by omega)
      have h2 := uL_getD n s p' m j (by omega)
      rw [e, h2] at h1
      rw [gN_succ h0 hs, gN_succ h0 hs, ih (by omega), h1]
  · intro h
    unfold uL
    refine List.map_congr_left fun j hj => ?_
    have hj : j < m := by simpa using hj
    have h1 := h j (by omega)
    have h2 := h (j + 1) (by omega)
    rw [gN_succ h0 hs, gN_succ h0 hs, h1] at h2
    have h3 : (decide (n ≤ (p + j * s) % n + s)).toNat = (decide (n ≤ (p' + j * s) % n + s)).toNat := by omega
    revert h3
    cases decide (n ≤ (p + j * s) % n + s) <;> cases decide (n ≤ (p' + j * s) % n + s) <;> simp

def sumF (f : Nat → Nat) : Nat → Nat
  | 0 => 0
  | m + 1 => sumF f m + f m

theorem sumF_le {f g : Nat → Nat} {m : Nat} (h : ∀ j, j < m → f j ≤ g j) : sumF f m ≤ sumF g m := by
  induction m with
  | zero => exact Nat.le_refl _
  | succ m ih =>
    have a := ih fun j hj => h j (by omega)
    have b := h m (by omega)
    show sumF f m + f m ≤ sumF g m + g m
    omega

theorem sumF_eq {f g : Nat → Nat} {m : Nat} (h : ∀ j, j < m → f j ≤ g j) (e : sumF f m = sumF g m) : ∀ j, j < m → f j = g j := by
  induction m with
  | zero => intro j hj; omega
  | succ m ih =>
    have a := sumF_le (m := m) fun j hj => h j (by omega)
    have b := h m (by omega)
    have e' : sumF f m + f m = sumF g m + g m := e
    intro j hj
    by_cases c : j = m
    · subst c; omega
    · exact ih (fun j hj => h j (by omega)) (by omega) j (by omega)

theorem sumF_congr {f g : Nat → Nat} {m : Nat} (h : ∀ j, j < m → f j = g j) : sumF f m = sumF g m := by
  induction m with
  | zero => rfl
  | succ m ih =>
    show sumF f m + f m = sumF g m + g m
    rw [ih fun j hj => h j (by omega), h m (by omega)]

theorem sumF_add (f g : Nat → Nat) (m : Nat) : sumF (fun j => f j + g j) m = sumF f m + sumF g m := by
  induction m with
  | zero => rfl
  | succ m ih =>
    show sumF (fun j => f j + g j) m + (f m + g m) = sumF f m + f m + (sumF g m + g m)
    omega

/-- at most one of them is one -/
theorem sumF_one {b : Nat → Bool} {m : Nat} (h : ∀ i j, i < j → j < m → b i = true → b j = true → False) : sumF (fun j => (b j).toNat) m ≤ 1 := by
  induction m with
  | zero => exact Nat.zero_le _
  | succ m ih =>
    have a := ih fun i j hi hj => h i j hi (by omega)
    show sumF (fun j => (b j).toNat) m + (b m).toNat ≤ 1
    cases hb : b m with
    | false => simpa using a
    | true =>
      have : sumF (fun j => (b j).toNat) m = sumF (fun _ => 0) m := sumF_congr fun j hj => by
        cases hc : b j with
        | false => rfl
        | true => exact (h j m hj (by omega) hc hb).elim
      rw [this]
      have z : ∀ k, sumF (fun _ => 0) k = 0 := fun k => by
        induction k with
        | zero => rfl
        | succ k ih => exact ih
      rw [z]; simp

/-- the class of a point -/
def cN (n s m p : Nat) : Nat := sumF (fun j => gN n s p (j + 1)) m

theorem gN_mono (n s : Nat) {p p' : Nat} (h : p ≤ p') (j : Nat) : gN n s p j ≤ gN n s p' j := Nat.div_le_div_right (by omega)

theorem cN_inj {n s m p p' : Nat} (hs : s ≤ n) (hp : p < n) (hp' : p' < n) (e : cN n s m p = cN n s m p') : uL n s p m = uL n s p' m := by
  have key : ∀ p p', p ≤ p' → p < n → p' < n → cN n s m p = cN n s m p' → uL n s p m = uL n s p' m := by
    intro p p' h hp hp' e
    rw [uL_iff hs hp hp']
    intro j hj
    cases j with
    | zero => rw [gN_zero hp, gN_zero hp']
    | succ j => exact sumF_eq (f := fun j => gN n s p (j + 1)) (g := fun j => gN n s p' (j + 1)) (fun j _ => gN_mono n s h _) e j (by omega)
  by_cases c : p ≤ p'
  · exact key p p' c hp hp' e
  · exact (key p' p (by omega) hp' hp e.symm).symm

theorem cN_of {n s m p p' : Nat} (hs : s ≤ n) (hp : p < n) (hp' : p' < n) (e : uL n s p m = uL n s p' m) : cN n s m p = cN n s m p' :=
  sumF_congr fun j hj => (uL_iff hs hp hp').1 e (j + 1) (by omega)

theorem gN_next {n s : Nat} (h0 : 0 < n) (p j : Nat) : gN n s (p + 1) j = gN n s p j + (decide ((p + 1 + j * s) % n = 0)).toNat := by
  unfold gN
  rw [show p + 1 + j * s = p + j * s + 1 by omega]
  generalize p + j * s = x
  have e := Nat.div_add_mod x n
  have e2 := Nat.div_add_mod (x + 1) n
  have l := Nat.mod_lt x h0
  have l2 := Nat.mod_lt (x + 1) h0
  by_cases c : (x + 1) % n = 0
  · rw [decide_eq_true c]
    have h1 : (x + 1) / n = x / n + 1 := by
      have h := Nat.succ_div_of_mod_eq_zero (a := x) (b := n) c
      exact h
    rw [h1]; rfl
  · rw [decide_eq_false c]
    have h1 : (x + 1) / n = x / n := Nat.succ_div_of_mod_ne_zero c
    rw [h1]; rfl

theorem cN_step {n s m p : Nat} (ht : tokN n s = true) (hm : m ≤ n) : cN n s m (p + 1) ≤ cN n s m p + 1 := by
  obtain ⟨n2, _, s1, sn, g⟩ := tokN_bd ht
  have e : cN n s m (p + 1) = cN n s m p + sumF (fun j => (decide ((p + 1 + (j + 1) * s) % n = 0)).toNat) m := by
    unfold cN
    rw [← sumF_add]
    exact sumF_congr fun j _ => gN_next (by omega) p (j + 1)
  have := sumF_one (b := fun j => decide ((p + 1 + (j + 1) * s) % n = 0)) (m := m) (fun i j hij hj hi hj' => by
    have a := of_decide_eq_true hi
    have b := of_decide_eq_true hj'
    have da : n ∣ p + 1 + (i + 1) * s := Nat.dvd_of_mod_eq_zero a
    have db : n ∣ p + 1 + (j + 1) * s := Nat.dvd_of_mod_eq_zero b
    have dd := Nat.dvd_sub db da
    have ee : p + 1 + (j + 1) * s - (p + 1 + (i + 1) * s) = (j - i) * s := by
      rw [Nat.add_sub_add_left, ← Nat.sub_mul]
      congr 1
      omega
    rw [ee] at dd
    have := mod_pos ht (by omega : 0 < j - i) (by omega)
    exact this (Nat.mod_eq_zero_of_dvd dd))
  omega

theorem gN_ends {n s : Nat} (ht : tokN n s = true) {j : Nat} (j1 : 1 ≤ j) (hj : j ≤ n) : gN n s (n - 1) j = gN n s 0 j + (decide (j < n)).toNat := by
  obtain ⟨n2, _, s1, sn, g⟩ := tokN_bd ht
  unfold gN
  rw [Nat.zero_add]
  by_cases c : j < n
  · rw [decide_eq_true c]
    have h := mod_pos ht (by omega : 0 < j) c
    have e := Nat.div_add_mod (j * s) n
    have l := Nat.mod_lt (j * s) (by omega : 0 < n)
    have h1 : n - 1 + j * s = n * (j * s / n + 1) + (j * s % n - 1) := by rw [Nat.mul_add, Nat.mul_one]; omega
    rw [h1, Nat.mul_add_div (by omega), Nat.div_eq_of_lt (by omega : j * s % n - 1 < n)]
    rfl
  · rw [decide_eq_false c]
    obtain rfl : j = n := by omega
    rw [Nat.mul_div_cancel_left s (by omega), show j - 1 + j * s = j * s + (j - 1) by omega, Nat.mul_add_div (by omega), Nat.div_eq_of_lt (by omega : j - 1 < j)]
    rfl

theorem cN_ends {n s m : Nat} (ht : tokN n s = true) (hm : m ≤ n) : cN n s m (n - 1) = cN n s m 0 + (min (m + 1) n - 1) := by
  obtain ⟨n2, _, s1, sn, g⟩ := tokN_bd ht
  have e : cN n s m (n - 1) = cN n s m 0 + sumF (fun j => (decide (j + 1 < n)).toNat) m := by
    unfold cN
    rw [← sumF_add]
    exact sumF_congr fun j hj => gN_ends ht (by omega) (by omega)
  rw [e]
  congr 1
  have key : ∀ k, k ≤ n → sumF (fun j => (decide (j + 1 < n)).toNat) k = min (k + 1) n - 1 := by
    intro k
    induction k with
    | zero => intro _; show 0 = _; omega
    | succ k ih =>
      intro hk
      show sumF (fun j => (decide (j + 1 < n)).toNat) k + (decide (k + 1 < n)).toNat = _
      rw [ih (by omega)]
      by_cases c : k + 1 < n
      · rw [decide_eq_true c]; show _ + 1 = _; omega
      · rw [decide_eq_false c]; show _ + 0 = _; omega
  exact key m hm

/-- what goes up by one at most takes all values between -/
theorem between {f : Nat → Nat} (h : ∀ p, f (p + 1) ≤ f p + 1) (v : Nat) : ∀ N, f 0 ≤ v → v ≤ f N → ∃ p, p ≤ N ∧ f p = v := by
  intro N
  induction N with
  | zero => intro a b; exact ⟨0, Nat.le_refl _, by omega⟩
  | succ N ih =>
    intro a b
    by_cases c : v ≤ f N
    · obtain ⟨p, h1, h2⟩ := ih a c
      exact ⟨p, by omega, h2⟩
    · have := h N
      exact ⟨N + 1, Nat.le_refl _, by omega⟩

theorem sub_len' {α : Type} [DecidableEq α] {R : List α} : ∀ {L : List α}, R.Nodup → (∀ x ∈ R, x ∈ L) → R.length ≤ L.length := by
  induction R with
  | nil => intro L _ _; simp
  | cons x r ih =>
    intro L hn h
    rw [List.nodup_cons] at hn
    have hx := h x (by simp)
    have := ih (L := L.erase x) hn.2 (fun y hy => (List.mem_erase_of_ne (fun e => hn.1 (by rw [← e]; exact hy))).2 (h y (by simp [hy])))
    rw [List.length_erase_of_mem hx] at this
    have := List.length_pos_of_mem hx
    rw [List.length_cons]
    omega

/-- there is one part more than letters -/
theorem parts_count {n s m : Nat} (ht : tokN n s = true) (hm : m ≤ n) : ∃ R : List (List Bool), R.Nodup ∧ R.length = min (m + 1) n ∧ ∀ u, u ∈ R ↔ ∃ k, k < n ∧ wordL n s k m = u := by
  obtain ⟨n2, _, s1, sn, g⟩ := tokN_bd ht
  have hends := cN_ends ht hm
  have hP : ∀ v, ∃ p, v < min (m + 1) n → p < n ∧ cN n s m p = cN n s m 0 + v := by
    intro v
    by_cases c : v < min (m + 1) n
    · obtain ⟨p, h1, h2⟩ := between (f := cN n s m) (fun p => cN_step ht hm) (cN n s m 0 + v) (n - 1) (by omega) (by omega)
      exact ⟨p, fun _ => ⟨by omega, h2⟩⟩
    · exact ⟨0, fun h => absurd h c⟩
  obtain ⟨P, hP⟩ := Classical.axiomOfChoice hP
  refine ⟨(List.range (min (m + 1) n)).map fun v => uL n s (P v) m, ?_, by simp, fun u => ?_⟩
  · rw [List.nodup_iff_pairwise_ne, List.pairwise_map, List.pairwise_iff_getElem]
    intro i j hi hj hij e
    rw [List.length_range] at hi hj
    simp only [List.getElem_range] at e
    have a := hP i hi
    have b := hP j hj
    have := cN_of (by omega) a.1 b.1 e
    omega
  · have htk := turns_of (tok_of_tokN ht)
    constructor
    · intro h
      obtain ⟨v, hv, rfl⟩ := List.mem_map.1 h
      have a := hP v (by simpa using hv)
      obtain ⟨k, hk, e⟩ : ∃ k, k < n ∧ k * s % n = P v := by
        have hb := timeF_bd (tok_of_tokN ht) (p := ((P v : Nat) : Int)) (by omega) (by omega)
        have he := pointF_timeF (tok_of_tokN ht) (p := ((P v : Nat) : Int)) (by omega) (by omega)
        rw [pointF_yes (tok_of_tokN ht) hb.1 hb.2] at he
        obtain ⟨k, hk⟩ := Int.eq_ofNat_of_zero_le hb.1
        rw [hk] at hb he
        refine ⟨k, by omega, ?_⟩
        have h2 : ((k * s % n : Nat) : Int) = ((P v : Nat) : Int) := by rw [← he]; simp
        exact Int.ofNat.inj h2
      exact ⟨k, hk, by rw [← uL_word, e]⟩
    · rintro ⟨k, hk, rfl⟩
      have hp := Nat.mod_lt (k * s) (by omega : 0 < n)
      have hlo : cN n s m 0 ≤ cN n s m (k * s % n) := sumF_le fun j _ => gN_mono n s (Nat.zero_le _) _
      have hhi : cN n s m (k * s % n) ≤ cN n s m (n - 1) := sumF_le fun j _ => gN_mono n s (by omega) _
      have hv : cN n s m (k * s % n) - cN n s m 0 < min (m + 1) n := by omega
      have a := hP _ hv
      refine List.mem_map.2 ⟨cN n s m (k * s % n) - cN n s m 0, by simpa using hv, ?_⟩
      rw [← uL_word]
      exact cN_inj (by omega) a.1 hp (by omega)

/-- the parts that have come, each once -/
def nubW {α : Type} [DecidableEq α] (ws : List α) : List α := ws.foldl (fun acc u => if u ∈ acc then acc else acc ++ [u]) []

theorem nubW_snoc {α : Type} [DecidableEq α] (ws : List α) (u : α) : nubW (ws ++ [u]) = if u ∈ nubW ws then nubW ws else nubW ws ++ [u] := by
  unfold nubW; rw [List.foldl_append]; rfl

theorem nubW_is {α : Type} [DecidableEq α] (ws : List α) : (nubW ws).Nodup ∧ ∀ u, u ∈ nubW ws ↔ u ∈ ws := by
  have key : ∀ (ys acc : List α), acc.Nodup → (ys.foldl (fun acc u => if u ∈ acc then acc else acc ++ [u]) acc).Nodup ∧ ∀ u, u ∈ ys.foldl (fun acc u => if u ∈ acc then acc else acc ++ [u]) acc ↔ u ∈ acc ∨ u ∈ ys := by
    intro ys
    induction ys with
    | nil => intro acc h; exact ⟨h, fun u => by simp⟩
    | cons y ys ih =>
      intro acc h
      rw [List.foldl_cons]
      by_cases hy : y ∈ acc
      · rw [if_pos hy]
        obtain ⟨a, b⟩ := ih acc h
        refine ⟨a, fun u => (b u).trans ⟨fun h => ?_, fun h => ?_⟩⟩
        · rcases h with h | h
          · exact .inl h
          · exact .inr (by simp [h])
        · rcases h with h | h
          · exact .inl h
          · rcases List.mem_cons.1 h with rfl | h
            · exact .inl hy
            · exact .inr h
      · rw [if_neg hy]
        obtain ⟨a, b⟩ := ih (acc ++ [y]) (by
          rw [List.nodup_append]
          refine ⟨h, by simp, fun u hu v hv => ?_⟩
          rw [List.mem_singleton] at hv
          subst hv
          exact fun e => hy (by rw [← e]; exact hu))
        refine ⟨a, fun u => (b u).trans ⟨fun h => ?_, fun h => ?_⟩⟩
        · rcases h with h | h
          · rcases List.mem_append.1 h with h | h
            · exact .inl h
            · rw [List.mem_singleton] at h; exact .inr (by simp [h])
          · exact .inr (by simp [h])
        · rcases h with h | h
          · exact .inl (by simp [h])
          · rcases List.mem_cons.1 h with rfl | h
            · exact .inl (by simp)
            · exact .inr h
  obtain ⟨a, b⟩ := key ws [] List.nodup_nil
  exact ⟨a, fun u => by rw [nubW, b u]; simp⟩

/-- whatever list has each part once, it has so many -/
theorem parts_len {n s m : Nat} (ht : tokN n s = true) (hm : m ≤ n) {L : List (List Bool)} (hn : L.Nodup) (hL : ∀ u, u ∈ L ↔ ∃ k, k < n ∧ wordL n s k m = u) : L.length = min (m + 1) n := by
  obtain ⟨R, h1, h2, h3⟩ := parts_count ht hm
  have a := sub_len' hn (L := R) fun u hu => (h3 u).2 ((hL u).1 hu)
  have b := sub_len' h1 (L := L) fun u hu => (hL u).2 ((h3 u).1 hu)
  omega
end Go.Proofs.Ytokmmbmkfpfmgaa

set_option linter.unusedVariables false
namespace Go.Proofs.Ytokmmbmkfpfmgaa

/-- how many ones there are in so many letters from a place on -/
def winO (u : List Bool) (i l : Nat) : Nat := ((u.drop i).take l).count true

theorem winO_le (u : List Bool) (i l : Nat) : winO u i l ≤ l := by
  unfold winO
  have h1 := List.count_le_length (a := true) (l := (u.drop i).take l)
  have h2 : ((u.drop i).take l).length ≤ l := by rw [List.length_take]; omega
  omega

def Bal (u : List Bool) : Prop := ∀ i j l, i + l ≤ u.length → j + l ≤ u.length → winO u i l ≤ winO u j l + 1

theorem winO_word {n s a m i l : Nat} (h : i + l ≤ m) : winO (wordL n s a m) i l = (wordL n s (a + i) l).count true := by
  unfold winO
  congr 1
  apply List.ext_getElem?
  intro k
  by_cases hk : k < l
  · rw [List.getElem?_take_of_lt hk, List.getElem?_drop]
    simp [wordL, hk, show i + k < m by omega, Nat.add_assoc]
  · rw [List.getElem?_eq_none (by rw [List.length_take]; omega), List.getElem?_eq_none (by rw [wordL_length]; omega)]

/-- the letters of a turn are balanced -/
theorem bal_word {n s : Nat} (h0 : 0 < n) (hs : s ≤ n) (a m : Nat) : Bal (wordL n s a m) := by
  intro i j l hi hj
  rw [wordL_length] at hi hj
  rw [winO_word hi, winO_word hj]
  have h1 := ones_word h0 hs (a + i) l
  have h2 := ones_word h0 hs (a + j) l
  have h3 := bal_fl h0 s (a + i) (a + j) l
  omega

theorem ones_all {n s : Nat} (ht : tokN n s = true) : (wordL n s 0 n).count true = s := by
  obtain ⟨n2, _, s1, sn, g⟩ := tokN_bd ht
  have h := ones_word (n := n) (s := s) (by omega) (by omega) 0 n
  rw [Nat.zero_add, fl_size (by omega)] at h
  have h0 : flN n s 0 = 0 := by unfold flN; rw [Nat.zero_mul, Nat.zero_div]
  omega

theorem ones_upto {n s m : Nat} (ht : tokN n s = true) : (wordL n s 0 m).count true = m * s / n := by
  obtain ⟨n2, _, s1, sn, g⟩ := tokN_bd ht
  have h := ones_word (n := n) (s := s) (by omega) (by omega) 0 m
  rw [Nat.zero_add] at h
  have h0 : flN n s 0 = 0 := by unfold flN; rw [Nat.zero_mul, Nat.zero_div]
  have h1 : flN n s m = m * s / n := rfl
  omega

/-! ### what keeps balance -/

theorem winO_tail (u : List Bool) (i l : Nat) : winO (u.drop 1) i l = winO u (i + 1) l := by
  unfold winO; rw [List.drop_drop, Nat.add_comm 1 i]

theorem winO_init {u : List Bool} {k i l : Nat} (h : i + l ≤ k) (hk : k ≤ u.length) : winO (u.take k) i l = winO u i l := by
  unfold winO
  rw [List.drop_take, List.take_take, Nat.min_eq_left (by omega)]

theorem winO_rev {u : List Bool} {i l : Nat} (h : i + l ≤ u.length) : winO u.reverse i l = winO u (u.length - i - l) l := by
  unfold winO
  have e : (u.reverse.drop i).take l = ((u.drop (u.length - i - l)).take l).reverse := by
    rw [List.drop_reverse, List.take_reverse, List.length_take, List.drop_take, Nat.min_eq_left (by omega)]
    congr 2
    omega
  rw [e, List.count_reverse]

theorem winO_not {u : List Bool} {i l : Nat} (h : i + l ≤ u.length) : winO (u.map (!·)) i l + winO u i l = l := by
  unfold winO
  rw [← List.map_drop, ← List.map_take]
  have hl : ((u.drop i).take l).length = l := by rw [List.length_take, List.length_drop]; omega
  generalize (u.drop i).take l = v at *
  subst hl
  clear h
  induction v with
  | nil => rfl
  | cons b r ih =>
    cases b
    · simp at ih ⊢; omega
    · simp at ih ⊢; omega

theorem Bal.tail {u : List Bool} (h : Bal u) (h0 : 1 ≤ u.length) : Bal (u.drop 1) := by
  intro i j l hi hj
  rw [List.length_drop] at hi hj
  rw [winO_tail, winO_tail]
  exact h _ _ _ (by omega) (by omega)

theorem Bal.init {u : List Bool} (h : Bal u) {k : Nat} (hk : k ≤ u.length) : Bal (u.take k) := by
  intro i j l hi hj
  rw [List.length_take, Nat.min_eq_left hk] at hi hj
  rw [winO_init hi hk, winO_init hj hk]
  exact h _ _ _ (by omega) (by omega)

theorem Bal.rev {u : List Bool} (h : Bal u) : Bal u.reverse := by
  intro i j l hi hj
  rw [List.length_reverse] at hi hj
  rw [winO_rev hi, winO_rev hj]
  exact h _ _ _ (by omega) (by omega)

theorem Bal.not {u : List Bool} (h : Bal u) : Bal (u.map (!·)) := by
  intro i j l hi hj
  rw [List.length_map] at hi hj
  have a := winO_not hi
  have b := winO_not hj
  have c := h j i l hj hi
  omega

theorem bal_rev_iff {u : List Bool} : Bal u.reverse ↔ Bal u := ⟨fun h => by have := h.rev; rwa [List.reverse_reverse] at this, fun h => h.rev⟩

theorem bal_not_iff {u : List Bool} : Bal (u.map (!·)) ↔ Bal u := ⟨fun h => by
  have := h.not
  rw [List.map_map] at this
  have e : ((fun x => !x) ∘ fun x => !x : Bool → Bool) = id := by funext b; simp
  rwa [e, List.map_id] at this, fun h => h.not⟩

/-! ### the least and the most, window by window -/

def leastW (u : List Bool) (l : Nat) (k : Nat) : Nat := (List.range k).foldl (fun m i => min m (winO u i l)) u.length

def mostW (u : List Bool) (l : Nat) (k : Nat) : Nat := (List.range k).foldl (fun m i => max m (winO u i l)) 0

theorem leastW_succ (u : List Bool) (l k : Nat) : leastW u l (k + 1) = min (leastW u l k) (winO u k l) := by
  unfold leastW; rw [List.range_succ, List.foldl_append]; rfl

theorem mostW_succ (u : List Bool) (l k : Nat) : mostW u l (k + 1) = max (mostW u l k) (winO u k l) := by
  unfold mostW; rw [List.range_succ, List.foldl_append]; rfl

theorem leastW_bd (u : List Bool) (l k : Nat) : leastW u l k ≤ u.length := by
  induction k with
  | zero => exact Nat.le_refl _
  | succ k ih => rw [leastW_succ]; omega

theorem mostW_bd (u : List Bool) (l k : Nat) : mostW u l k ≤ l := by
  induction k with
  | zero => exact Nat.zero_le _
  | succ k ih => rw [mostW_succ]; have := winO_le u k l; omega

theorem leastW_iff (u : List Bool) (l k v : Nat) (hv : v ≤ u.length) : v ≤ leastW u l k ↔ ∀ i, i < k → v ≤ winO u i l := by
  induction k with
  | zero => exact ⟨fun _ i hi => by omega, fun _ => hv⟩
  | succ k ih =>
    rw [leastW_succ]
    constructor
    · intro h i hi
      by_cases c : i = k
      · subst c; omega
      · exact ih.1 (by omega) i (by omega)
    · intro h
      have a := ih.2 fun i hi => h i (by omega)
      have b := h k (by omega)
      omega

theorem mostW_iff (u : List Bool) (l k v : Nat) : mostW u l k ≤ v ↔ ∀ i, i < k → winO u i l ≤ v := by
  induction k with
  | zero => exact ⟨fun _ i hi => by omega, fun _ => Nat.zero_le _⟩
  | succ k ih =>
    rw [mostW_succ]
    constructor
    · intro h i hi
      by_cases c : i = k
      · subst c; omega
      · exact ih.1 (by omega) i (by omega)
    · intro h
      have a := ih.2 fun i hi => h i (by omega)
      have b := h k (by omega)
      omega

theorem even_iff {u : List Bool} {l : Nat} (hl : l ≤ u.length) : mostW u l (u.length + 1 - l) ≤ leastW u l (u.length + 1 - l) + 1 ↔ ∀ i j, i + l ≤ u.length → j + l ≤ u.length → winO u i l ≤ winO u j l + 1 := by
  rw [mostW_iff]
  constructor
  · intro h i j hi hj
    have a := h i (by omega)
    have b := (leastW_iff u l (u.length + 1 - l) (leastW u l (u.length + 1 - l)) (leastW_bd _ _ _)).1 (Nat.le_refl _) j (by omega)
    omega
  · intro h i hi
    have : winO u i l - 1 ≤ leastW u l (u.length + 1 - l) := by
      rw [leastW_iff _ _ _ _ (by have := winO_le u i l; omega)]
      intro j hj
      have := h i j (by omega) (by omega)
      omega
    omega

theorem bal_iff (u : List Bool) : Bal u ↔ ∀ l, 1 ≤ l → l ≤ u.length → mostW u l (u.length + 1 - l) ≤ leastW u l (u.length + 1 - l) + 1 := by
  constructor
  · intro h l _ hl
    rw [even_iff hl]
    exact fun i j hi hj => h i j l hi hj
  · intro h i j l hi hj
    by_cases c : l = 0
    · subst c
      have := winO_le u i 0
      omega
    · exact (even_iff (by omega)).1 (h l (by omega) (by omega)) i j hi hj

/-! ### words as texts -/

def byteB (b : Bool) : UInt8 := if b then 49 else 48

def txtB (u : List Bool) : ByteArray := ⟨(u.map byteB).toArray⟩

theorem txtB_size (u : List Bool) : (txtB u).size = u.length := by simp [txtB, ByteArray.size]

theorem txtB_toList (u : List Bool) : (txtB u).toList = u.map byteB := by unfold txtB; rw [ByteArray.toList_mk]

theorem byteB_inj {a b : Bool} (h : byteB a = byteB b) : a = b := by cases a <;> cases b <;> first | rfl | (exact absurd h (by decide))

theorem map_byteB_inj {u v : List Bool} (h : u.map byteB = v.map byteB) : u = v := by
  induction u generalizing v with
  | nil => cases v with
    | nil => rfl
    | cons b r => simp at h
  | cons a r ih => cases v with
    | nil => simp at h
    | cons b q =>
      simp only [List.map_cons, List.cons.injEq] at h
      rw [byteB_inj h.1, ih h.2]

theorem txtB_eq {u v : List Bool} : ((txtB u).toList == (txtB v).toList) = decide (u = v) := by
  rw [txtB_toList, txtB_toList]
  by_cases e : u = v
  · subst e; simp
  · rw [decide_eq_false e, beq_eq_false_iff_ne]
    exact fun h => e (map_byteB_inj h)

theorem txtB_append (u v : List Bool) : txtB u ++ txtB v = txtB (u ++ v) := by
  apply ByteArray.ext
  simp [txtB, ByteArray.data_append]

theorem txtB_get {u : List Bool} {i : Nat} (h : i < (txtB u).size) : (txtB u)[i] = byteB (u.getD i false) := by
  have h' : i < u.length := by rw [txtB_size] at h; exact h
  show (txtB u).data[i]'h = _
  simp [txtB, List.getD_eq_getElem?_getD, h']

theorem txtB_extract (u : List Bool) (a b : Nat) : (txtB u).extract a b = txtB ((u.drop a).take (b - a)) := by
  apply ByteArray.ext
  simp [txtB, ByteArray.data_extract]

/-- the texts of words: bytes 0 and 1 alone -/
def bitsOf (t : ByteArray) : List Bool := t.toList.map (· == 49)

theorem bits_txt (u : List Bool) : bitsOf (txtB u) = u := by
  unfold bitsOf
  rw [txtB_toList, List.map_map]
  conv => rhs; rw [← List.map_id u]
  refine List.map_congr_left fun b _ => ?_
  cases b <;> rfl

theorem txt_bits {t : ByteArray} (h : ∀ c ∈ t.toList, c = 48 ∨ c = 49) : txtB (bitsOf t) = t := by
  apply ByteArray.ext
  have e : t.data = t.toList.toArray := by rw [ByteArray.toList_eq]
  rw [e]
  show ((bitsOf t).map byteB).toArray = _
  congr 1
  unfold bitsOf
  rw [List.map_map]
  conv => rhs; rw [← List.map_id t.toList]
  refine List.map_congr_left fun c hc => ?_
  rcases h c hc with rfl | rfl <;> rfl
end Go.Proofs.Ytokmmbmkfpfmgaa
