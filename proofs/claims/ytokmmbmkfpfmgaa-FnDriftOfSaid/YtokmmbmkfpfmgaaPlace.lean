/- Plain numbers: places of letters, distances of ones, and the inner turn. -/
import Derived.Test.YtokmmbmkfpfmgaaGCode
set_option linter.unusedVariables false
namespace Go.Proofs.Ytokmmbmkfpfmgaa
set_option maxRecDepth 4000

/-- a division rounded up -/
def upN (a b : Nat) : Nat := (a + b - 1) / b

theorem upN_bd {a b : Nat} (hb : 0 < b) : a ≤ upN a b * b ∧ (1 ≤ upN a b → (upN a b - 1) * b < a) := by
  unfold upN
  have h1 := Nat.div_add_mod (a + b - 1) b
  have h2 := Nat.mod_lt (a + b - 1) hb
  rw [Nat.mul_comm] at h1
  generalize (a + b - 1) / b = q at *
  refine ⟨by omega, fun h => ?_⟩
  rw [Nat.sub_mul, Nat.one_mul]
  have : b ≤ q * b := Nat.le_mul_of_pos_left b h
  omega

theorem upN_unique {a b q : Nat} (hb : 0 < b) (h1 : a ≤ q * b) (h2 : 1 ≤ q → (q - 1) * b < a) : upN a b = q := by
  obtain ⟨k1, k2⟩ := upN_bd (a := a) hb
  generalize upN a b = p at *
  by_cases c : p < q
  · have := h2 (by omega)
    have h3 : p * b ≤ (q - 1) * b := Nat.mul_le_mul_right b (by omega)
    omega
  · by_cases d : q < p
    · have := k2 (by omega)
      have h3 : q * b ≤ (p - 1) * b := Nat.mul_le_mul_right b (by omega)
      omega
    · omega

theorem upN_zero {b : Nat} (hb : 0 < b) : upN 0 b = 0 := by unfold upN; rw [Nat.zero_add]; exact Nat.div_eq_of_lt (by omega)

theorem upN_mul {a b : Nat} (hb : 0 < b) : upN (a * b) b = a := upN_unique hb (Nat.le_refl _) (fun h => by
  have : (a - 1) * b < a * b := Nat.mul_lt_mul_of_pos_right (by omega) hb
  exact this)

theorem upN_add_mul {a b c : Nat} (hb : 0 < b) : upN (a + c * b) b = upN a b + c := by
  unfold upN
  rw [show a + c * b + b - 1 = (a + b - 1) + c * b by omega, Nat.add_mul_div_right _ _ hb]

/-- the time of the i-th one, and one more; of the 0-th: 0 -/
def oneAt (n s i : Nat) : Nat := upN (i * n) s

theorem oneAt_zero {n s : Nat} (hs : 0 < s) : oneAt n s 0 = 0 := by unfold oneAt; rw [Nat.zero_mul]; exact upN_zero hs

theorem oneAt_all {n s : Nat} (hs : 0 < s) : oneAt n s s = n := by unfold oneAt; rw [Nat.mul_comm]; exact upN_mul hs

theorem oneAt_pos {n s i : Nat} (hn : 0 < n) (hs : 0 < s) (hi : 1 ≤ i) : 1 ≤ oneAt n s i := by
  have h := (upN_bd (a := i * n) hs).1
  have h2 : 1 ≤ i * n := Nat.mul_pos hi hn
  unfold oneAt
  by_cases c : upN (i * n) s = 0
  · rw [c] at h; omega
  · omega

theorem oneAt_le {n s i : Nat} (hs : 0 < s) (hi : i ≤ s) : oneAt n s i ≤ n := by
  have h := (upN_bd (a := i * n) hs).2
  unfold oneAt
  by_cases c : upN (i * n) s ≤ n
  · exact c
  · have h3 := h (by omega)
    have h4 : n * s ≤ (upN (i * n) s - 1) * s := Nat.mul_le_mul_right s (by omega)
    have h5 : i * n ≤ s * n := Nat.mul_le_mul_right n hi
    rw [Nat.mul_comm s n] at h5
    omega

/-- the ones up to a time are as many as i exactly from the i-th one on -/
theorem ones_iff {n s i m : Nat} (hn : 0 < n) (hs : 0 < s) : i ≤ flN n s m ↔ oneAt n s i ≤ m := by
  unfold flN oneAt
  rw [Nat.le_div_iff_mul_le hn]
  obtain ⟨h1, h2⟩ := upN_bd (a := i * n) hs
  constructor
  · intro h
    by_cases c : upN (i * n) s ≤ m
    · exact c
    · have h3 := h2 (by omega)
      have h4 : m * s ≤ (upN (i * n) s - 1) * s := Nat.mul_le_mul_right s (by omega)
      omega
  · intro h
    have h4 : upN (i * n) s * s ≤ m * s := Nat.mul_le_mul_right s h
    omega

theorem one_place {n s i : Nat} (hn : 0 < n) (hs : 0 < s) (hsn : s ≤ n) (hi : 1 ≤ i) :
    flN n s (oneAt n s i) = i ∧ flN n s (oneAt n s i - 1) = i - 1 ∧ letN n s (oneAt n s i - 1) = true := by
  have p := oneAt_pos hn hs hi
  have a := (ones_iff (i := i) (m := oneAt n s i) hn hs).2 (Nat.le_refl _)
  have b : ¬ i ≤ flN n s (oneAt n s i - 1) := fun h => by have := (ones_iff hn hs).1 h; omega
  have c := fl_succ hn hsn (oneAt n s i - 1)
  rw [show oneAt n s i - 1 + 1 = oneAt n s i by omega] at c
  cases e : letN n s (oneAt n s i - 1) with
  | true => rw [e] at c; simp at c; exact ⟨by omega, by omega, rfl⟩
  | false => rw [e] at c; simp at c; omega

/-- the time of the i-th nought -/
def noughtAt (n s i : Nat) : Nat := (i - 1) * n / (n - s)

theorem fl_le {n s : Nat} (hn : 0 < n) (hsn : s ≤ n) (m : Nat) : flN n s m ≤ m := by
  unfold flN
  have : m * s / n ≤ m * n / n := Nat.div_le_div_right (Nat.mul_le_mul_left m hsn)
  rwa [Nat.mul_div_cancel _ hn] at this

/-- the noughts up to a time are more than i exactly behind the one after the i-th -/
theorem noughts_iff {n s i m : Nat} (hn : 0 < n) (hsn : s < n) : m - flN n s m ≤ i ↔ m * (n - s) ≤ i * n := by
  have hle := fl_le hn (by omega : s ≤ n) m
  unfold flN at *
  have h1 : m - m * s / n ≤ i ↔ m - i ≤ m * s / n := by
    generalize m * s / n = q at *
    omega
  rw [h1, Nat.le_div_iff_mul_le hn, Nat.mul_sub, Nat.sub_mul]
  have h2 : m * s ≤ m * n := Nat.mul_le_mul_left m (by omega)
  omega

theorem nought_place {n s i : Nat} (hn : 0 < n) (hsn : s < n) (hi : 1 ≤ i) :
    noughtAt n s i - flN n s (noughtAt n s i) = i - 1 ∧ (noughtAt n s i + 1) - flN n s (noughtAt n s i + 1) = i ∧ letN n s (noughtAt n s i) = false := by
  have hd : 0 < n - s := by omega
  have e1 := Nat.div_add_mod ((i - 1) * n) (n - s)
  have e2 := Nat.mod_lt ((i - 1) * n) hd
  have a := (noughts_iff (i := i - 1) (m := noughtAt n s i) hn hsn).2 (by unfold noughtAt; rw [Nat.mul_comm]; omega)
  have b : ¬ (noughtAt n s i + 1) - flN n s (noughtAt n s i + 1) ≤ i - 1 := fun h => by
    have := (noughts_iff hn hsn).1 h
    unfold noughtAt at this
    rw [Nat.add_mul, Nat.one_mul, Nat.mul_comm] at this
    omega
  have c := fl_succ hn (by omega : s ≤ n) (noughtAt n s i)
  have l1 := fl_le hn (by omega : s ≤ n) (noughtAt n s i)
  cases e : letN n s (noughtAt n s i) with
  | true => rw [e] at c; simp at c; omega
  | false => rw [e] at c; simp at c; exact ⟨by omega, by omega, rfl⟩

theorem nought_lt {n s i : Nat} (hsn : s < n) (hi : 1 ≤ i) (h : i ≤ n - s) : noughtAt n s i < n := by
  unfold noughtAt
  rw [Nat.div_lt_iff_lt_mul (by omega)]
  have h1 : (i - 1) * n < (n - s) * n := Nat.mul_lt_mul_of_pos_right (by omega) (by omega)
  rwa [Nat.mul_comm (n - s) n] at h1

/-- no place is told twice -/
theorem place_apart {n s i j : Nat} (hn : 0 < n) (hs : 0 < s) (hsn : s < n) (hi : 1 ≤ i) (hj : 1 ≤ j) : oneAt n s i - 1 ≠ noughtAt n s j := fun e => by
  have a := (one_place hn hs (by omega : s ≤ n) hi).2.2
  have b := (nought_place hn hsn hj).2.2
  rw [e, b] at a
  exact absurd a (by simp)

/-! ### distances -/

/-- from the i-th one to the next -/
def spaceN (n s i : Nat) : Nat := oneAt n s (i + 1) - oneAt n s i

theorem oneAt_split {n s i : Nat} (hs : 0 < s) : oneAt n s i = i * (n / s) + upN (i * (n % s)) s := by
  unfold oneAt
  have e := Nat.div_add_mod n s
  have h : i * n = i * (n % s) + i * (n / s) * s := by
    have : i * n = i * (s * (n / s) + n % s) := by rw [e]
    rw [this, Nat.mul_add, Nat.mul_assoc, Nat.mul_comm (n / s) s]
    omega
  rw [h, upN_add_mul hs]
  omega

/-- up from behind is down -/
theorem up_down {r s i : Nat} (hs : 0 < s) (hi : i ≤ s) : upN (i * r) s + flN s r (s - i) = r := by
  unfold flN
  have h1 := Nat.div_add_mod ((s - i) * r) s
  have h2 := Nat.mod_lt ((s - i) * r) hs
  have h3 : (s - i) * r + i * r = s * r := by rw [← Nat.add_mul, Nat.sub_add_cancel hi]
  have hq : (s - i) * r / s ≤ r := by
    have : (s - i) * r / s ≤ s * r / s := Nat.div_le_div_right (Nat.mul_le_mul_right r (by omega))
    rwa [Nat.mul_div_cancel_left r hs] at this
  generalize (s - i) * r / s = q at *
  have hqs : s * q ≤ s * r := Nat.mul_le_mul_left s hq
  have hm : (r - q) * s = s * r - s * q := by rw [Nat.sub_mul, Nat.mul_comm r s, Nat.mul_comm q s]
  generalize (s - i) * r % s = R at *
  generalize (s - i) * r = X at *
  generalize i * r = Y at *
  have e : upN Y s = r - q := by
    refine upN_unique hs (by rw [hm]; omega) (fun h => ?_)
    have h6 : s * (q + 1) ≤ s * r := Nat.mul_le_mul_left s (by omega)
    rw [Nat.mul_succ] at h6
    rw [Nat.sub_mul (r - q) 1 s, hm, Nat.one_mul]
    omega
  omega

/-- each distance is told by a letter of the inner turn, from behind -/
theorem space_letter {n s i : Nat} (hs : 0 < s) (hi : i < s) : spaceN n s i = n / s + (letN s (n % s) (s - 1 - i)).toNat := by
  have a := up_down (r := n % s) hs (by omega : i ≤ s)
  have b := up_down (r := n % s) hs (by omega : i + 1 ≤ s)
  have c := fl_succ hs (Nat.le_of_lt (Nat.mod_lt n hs)) (s - 1 - i)
  rw [show s - 1 - i + 1 = s - i by omega] at c
  rw [show s - (i + 1) = s - 1 - i by omega] at b
  have hmul : (i + 1) * (n / s) = i * (n / s) + n / s := Nat.succ_mul ..
  unfold spaceN
  rw [oneAt_split hs, oneAt_split hs, hmul]
  generalize n / s = D at *
  generalize i * D = E at *
  omega

theorem oneAt_sum {n s : Nat} (hs : 0 < s) (k : Nat) (hk : k ≤ s) : sumF (spaceN n s) k = oneAt n s k := by
  induction k with
  | zero => rw [oneAt_zero hs]; rfl
  | succ k ih =>
    have h := ih (by omega)
    have l := space_letter (n := n) hs (by omega : k < s)
    have a := oneAt_split (n := n) (i := k) hs
    have b := oneAt_split (n := n) (i := k + 1) hs
    show sumF (spaceN n s) k + spaceN n s k = _
    rw [h]
    have hm : oneAt n s k ≤ oneAt n s (k + 1) := by
      have x := up_down (r := n % s) hs (by omega : k ≤ s)
      have y := up_down (r := n % s) hs (by omega : k + 1 ≤ s)
      have c := fl_succ hs (Nat.le_of_lt (Nat.mod_lt n hs)) (s - 1 - k)
      rw [show s - 1 - k + 1 = s - k by omega] at c
      rw [show s - (k + 1) = s - 1 - k by omega] at y
      have hmul : (k + 1) * (n / s) = k * (n / s) + n / s := Nat.succ_mul ..
      rw [a, b, hmul]
      generalize n / s = D at *
      generalize k * D = E at *
      omega
    unfold spaceN
    omega

/-- the letters of the inner turn from behind -/
theorem space_word {n s : Nat} (hs : 0 < s) : (wordL s (n % s) 0 s).reverse = (List.range s).map fun i => letN s (n % s) (s - 1 - i) := by
  apply List.ext_getElem (by simp [wordL_length])
  intro i h1 h2
  rw [List.length_reverse, wordL_length] at h1
  rw [List.getElem_reverse]
  simp [wordL]

/-! ### the inner turn -/

theorem tok_inner {n s : Nat} (ht : tokN n s = true) (h2 : 2 ≤ s) : tokN s (n % s) = true := by
  obtain ⟨a, b, c, d, e⟩ := tokN_bd ht
  have hg : Nat.gcd s (n % s) = 1 := by rw [Nat.gcd_comm, ← Nat.gcd_rec, Nat.gcd_comm]; exact e
  have hm := Nat.mod_lt n (by omega : 0 < s)
  have h1 : 1 ≤ n % s := by
    by_cases c0 : n % s = 0
    · rw [c0, Nat.gcd_zero_right] at hg; omega
    · omega
  unfold tokN
  simp [hg]
  omega

/-- more fuel tells the same quotients -/
theorem quots_fuel : ∀ (f g a b : Nat), b < f → b < g → b ≤ a ∨ b < a + 1 → quotsF f a b = quotsF g a b := by
  intro f
  induction f with
  | zero => intro g a b h; omega
  | succ f ih =>
    intro g a b h1 h2 h3
    match g, h2 with
    | g + 1, h2 =>
      show (bif Nat.beq b 0 then [] else (a / b) :: quotsF f b (a % b)) = (bif Nat.beq b 0 then [] else (a / b) :: quotsF g b (a % b))
      by_cases hb : b = 0
      · subst hb; rfl
      · have hm := Nat.mod_lt a (by omega : 0 < b)
        rw [ih g b (a % b) (by omega) (by omega) (.inl (by omega))]

theorem quots_inner {n s : Nat} (ht : tokN n s = true) (h2 : 2 ≤ s) : quotsN n s = (n / s) :: quotsN s (n % s) := by
  obtain ⟨a, b, c, d, e⟩ := tokN_bd ht
  have hm := Nat.mod_lt n (by omega : 0 < s)
  obtain ⟨k, rfl⟩ : ∃ k, n = k + 1 := ⟨n - 1, by omega⟩
  unfold quotsN
  show (bif Nat.beq s 0 then [] else ((k + 1) / s) :: quotsF k s ((k + 1) % s)) = _
  have hb : Nat.beq s 0 = false := by
    cases s with
    | zero => omega
    | succ s => rfl
  rw [hb]
  show ((k + 1) / s) :: quotsF k s ((k + 1) % s) = _
  rw [quots_fuel k s s ((k + 1) % s) (by omega) hm (.inl (by omega))]

theorem quots_last {n s : Nat} (ht : tokN n s = true) (h1 : s = 1) : quotsN n s = [n] := by
  obtain ⟨a, b, c, d, e⟩ := tokN_bd ht
  subst h1
  obtain ⟨k, rfl⟩ : ∃ k, n = k + 2 := ⟨n - 2, by omega⟩
  unfold quotsN
  show ((k + 2) / 1) :: quotsF (k + 1) 1 ((k + 2) % 1) = _
  rw [Nat.div_one, Nat.mod_one]
  rfl

/-- all inner turns -/
def innerL : Nat → Nat → Nat → List (Nat × Nat)
  | 0, _, _ => []
  | f + 1, n, s => (n, s) :: (if 2 ≤ s then innerL f s (n % s) else [])

theorem inner_len : ∀ (f n s : Nat), tokN n s = true → s ≤ f → (innerL f n s).length = (quotsN n s).length := by
  intro f
  induction f with
  | zero => intro n s ht h; have := (tokN_bd ht).2.2.1; omega
  | succ f ih =>
    intro n s ht h
    obtain ⟨a, b, c, d, e⟩ := tokN_bd ht
    show ((n, s) :: (if 2 ≤ s then innerL f s (n % s) else [])).length = _
    by_cases h2 : 2 ≤ s
    · have hm := Nat.mod_lt n (by omega : 0 < s)
      rw [if_pos h2, quots_inner ht h2, List.length_cons, List.length_cons, ih s (n % s) (tok_inner ht h2) (by omega)]
    · rw [if_neg h2, quots_last ht (by omega)]; rfl
end Go.Proofs.Ytokmmbmkfpfmgaa
