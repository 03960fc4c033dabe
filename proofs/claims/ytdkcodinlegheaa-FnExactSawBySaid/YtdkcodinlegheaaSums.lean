/- Plain numbers: sums of divisions, by the rule, one by one, and as points. -/
import Derived.Test.YtdkcodinlegheaaGCode
set_option linter.unusedVariables false
namespace Go.Proofs.Ytdkcodinlegheaa

/-- the sum of (a k + b) / m over k less than n -/
def fsum (n m a b : Nat) : Nat := sumF (fun k => (a * k + b) / m) n

theorem fsum_zero (m a b : Nat) : fsum 0 m a b = 0 := rfl

theorem fsum_succ (n m a b : Nat) : fsum (n + 1) m a b = fsum n m a b + (a * n + b) / m := rfl

theorem tri_succ (n : Nat) : (n + 1) * (n + 1 - 1) / 2 = n * (n - 1) / 2 + n := by
  rw [Nat.add_sub_cancel]
  have e : (n + 1) * n = n * (n - 1) + n * 2 := by
    cases n with
    | zero => rfl
    | succ n => rw [Nat.add_sub_cancel, ← Nat.mul_add, Nat.mul_comm]
  rw [e, Nat.add_mul_div_right _ _ (by omega)]

theorem div_parts {m : Nat} (hm : 0 < m) (a b k : Nat) : (a * k + b) / m = a / m * k + b / m + (a % m * k + b % m) / m := by
  have ea := Nat.div_add_mod a m
  have eb := Nat.div_add_mod b m
  have e : a * k + b = a % m * k + b % m + (a / m * k + b / m) * m := by
    have h1 : a * k = m * (a / m) * k + a % m * k := by rw [← Nat.add_mul, ea]
    have h2 : m * (a / m) * k = a / m * k * m := by rw [Nat.mul_comm m, Nat.mul_assoc, Nat.mul_comm m k, Nat.mul_assoc]
    have h3 : m * (b / m) = b / m * m := Nat.mul_comm ..
    rw [Nat.add_mul]
    omega
  rw [e, Nat.add_mul_div_right _ _ hm]
  omega

/-- whole parts taken out -/
theorem fsum_whole {m : Nat} (hm : 0 < m) (n a b : Nat) : fsum n m a b = a / m * (n * (n - 1) / 2) + b / m * n + fsum n m (a % m) (b % m) := by
  induction n with
  | zero => simp [fsum_zero]
  | succ n ih =>
    rw [fsum_succ, fsum_succ, ih, div_parts hm a b n, tri_succ, Nat.mul_add, Nat.mul_succ]
    omega

theorem sumF_rev (f : Nat → Nat) (m : Nat) : sumF f m = sumF (fun i => f (m - 1 - i)) m := by
  have first : ∀ (g : Nat → Nat) (k : Nat), sumF g (k + 1) = g 0 + sumF (fun i => g (i + 1)) k := by
    intro g k
    induction k with
    | zero => show 0 + g 0 = g 0 + 0; omega
    | succ k ih =>
      show sumF g (k + 1) + g (k + 1) = g 0 + (sumF (fun i => g (i + 1)) k + g (k + 1))
      omega
  induction m generalizing f with
  | zero => rfl
  | succ m ih =>
    show sumF f m + f m = sumF (fun i => f (m + 1 - 1 - i)) (m + 1)
    rw [first]
    rw [ih f]
    have e : sumF (fun i => f (m + 1 - 1 - (i + 1))) m = sumF (fun i => f (m - 1 - i)) m := sumF_congr fun i hi => by
      show f (m + 1 - 1 - (i + 1)) = f (m - 1 - i)
      rw [show m + 1 - 1 - (i + 1) = m - 1 - i by omega]
    rw [e]
    show _ = f (m + 1 - 1 - 0) + _
    rw [show m + 1 - 1 - 0 = m by omega]
    omega

/-- counted row by row -/
def rows (n m a b : Nat) : Nat := sumF (fun i => (a * n + b - (i + 1) * m) / a) ((a * n + b) / m)

theorem fsum_rows {m a b : Nat} (ha : 0 < a) (ham : a < m) (hb : b < m) (n : Nat) : fsum n m a b = rows n m a b := by
  induction n with
  | zero =>
    unfold rows
    rw [Nat.mul_zero, Nat.zero_add, Nat.div_eq_of_lt hb]
    rfl
  | succ n ih =>
    rw [fsum_succ, ih]
    unfold rows
    have hm : 0 < m := by omega
    obtain ⟨Y, hY⟩ : ∃ Y, (a * n + b) / m = Y := ⟨_, rfl⟩
    have h1 := Nat.div_add_mod (a * n + b) m
    have h2 := Nat.mod_lt (a * n + b) hm
    rw [hY] at h1 ⊢
    have hn : a * (n + 1) + b = a * n + b + a := by rw [Nat.mul_succ]; omega
    -- all rows of before have one point more
    have more : sumF (fun i => (a * (n + 1) + b - (i + 1) * m) / a) Y = sumF (fun i => (a * n + b - (i + 1) * m) / a) Y + Y := by
      have step : ∀ j, j ≤ Y → sumF (fun i => (a * (n + 1) + b - (i + 1) * m) / a) j = sumF (fun i => (a * n + b - (i + 1) * m) / a) j + j := by
        intro j
        induction j with
        | zero => intro _; rfl
        | succ j ihj =>
          intro hj
          show sumF _ j + (a * (n + 1) + b - (j + 1) * m) / a = sumF _ j + (a * n + b - (j + 1) * m) / a + (j + 1)
          rw [ihj (by omega), hn]
          have hle : (j + 1) * m ≤ m * Y := by rw [Nat.mul_comm m]; exact Nat.mul_le_mul_right m hj
          rw [show a * n + b + a - (j + 1) * m = (a * n + b - (j + 1) * m) + a by omega, Nat.add_div_right _ ha]
          omega
      exact step Y (Nat.le_refl _)
    by_cases c : (a * n + b) % m + a < m
    · have e : (a * (n + 1) + b) / m = Y := by
        rw [hn, ← h1, Nat.add_assoc, Nat.mul_add_div hm, Nat.div_eq_of_lt (by omega)]; rfl
      rw [e, more]
    · have e : (a * (n + 1) + b) / m = Y + 1 := by
        rw [hn, ← h1, Nat.add_assoc, Nat.mul_add_div hm]
        have : ((a * n + b) % m + a) / m = 1 := by
          rw [Nat.div_eq_iff hm]; omega
        rw [this]
      rw [e]
      show _ = sumF (fun i => (a * (n + 1) + b - (i + 1) * m) / a) Y + (a * (n + 1) + b - (Y + 1) * m) / a
      rw [more]
      have z : (a * (n + 1) + b - (Y + 1) * m) / a = 0 := by
        apply Nat.div_eq_of_lt
        rw [hn, Nat.succ_mul, Nat.mul_comm Y m]
        omega
      rw [z]; rfl

/-- both numbers change their parts -/
theorem fsum_swap {m a b : Nat} (ha : 0 < a) (ham : a < m) (hb : b < m) (n : Nat) : fsum n m a b = fsum ((a * n + b) / m) a m ((a * n + b) % m) := by
  rw [fsum_rows ha ham hb]
  unfold rows fsum
  rw [sumF_rev]
  refine sumF_congr fun i hi => ?_
  have h1 := Nat.div_add_mod (a * n + b) m
  generalize (a * n + b) / m = Y at *
  generalize (a * n + b) % m = r at *
  show (a * n + b - (Y - 1 - i + 1) * m) / a = (m * i + r) / a
  have e : (Y - 1 - i + 1) * m + m * i = m * Y := by
    rw [Nat.mul_comm m i, ← Nat.add_mul, show Y - 1 - i + 1 + i = Y by omega, Nat.mul_comm]
  rw [show a * n + b - (Y - 1 - i + 1) * m = m * i + r by omega]

theorem fsum_none {m b : Nat} (hb : b < m) (n : Nat) : fsum n m 0 b = 0 := by
  induction n with
  | zero => rfl
  | succ n ih => rw [fsum_succ, ih, Nat.zero_mul, Nat.zero_add, Nat.zero_add, Nat.div_eq_of_lt hb]

/-- one step of the rule -/
theorem fsum_step {m : Nat} (hm : 0 < m) (n a b : Nat) : fsum n m a b = a / m * (n * (n - 1) / 2) + b / m * n + (if a % m = 0 then 0 else fsum ((a % m * n + b % m) / m) (a % m) m ((a % m * n + b % m) % m)) := by
  rw [fsum_whole hm]
  have h1 := Nat.mod_lt a hm
  have h2 := Nat.mod_lt b hm
  by_cases c : a % m = 0
  · rw [if_pos c, c, fsum_none h2]
  · rw [if_neg c, ← fsum_swap (by omega) h1 h2]

theorem fsum_more {m : Nat} (hm : 0 < m) (n a b : Nat) : fsum n m a (b + m) = fsum n m a b + n := by
  induction n with
  | zero => rfl
  | succ n ih => rw [fsum_succ, fsum_succ, ih, ← Nat.add_assoc, Nat.add_div_right _ hm]; omega

/-- both triangles make the field -/
theorem fsum_field {m a : Nat} (hm : 0 < m) (ha : 0 < a) (hg : Nat.gcd m a = 1) : fsum m m a 0 = (m - 1) * (a - 1) / 2 := by
  have two : 2 * fsum m m a 0 = (m - 1) * (a - 1) := by
    obtain ⟨k, rfl⟩ : ∃ k, m = k + 1 := ⟨m - 1, by omega⟩
    have first : ∀ (g : Nat → Nat) (k : Nat), sumF g (k + 1) = g 0 + sumF (fun i => g (i + 1)) k := by
      intro g k
      induction k with
      | zero => show 0 + g 0 = g 0 + 0; omega
      | succ k ih =>
        show sumF g (k + 1) + g (k + 1) = g 0 + (sumF (fun i => g (i + 1)) k + g (k + 1))
        omega
    unfold fsum
    rw [first, Nat.mul_zero, Nat.zero_add, Nat.zero_div, Nat.zero_add, Nat.add_sub_cancel]
    have pair : ∀ i, i < k → (a * (i + 1) + 0) / (k + 1) + (a * (k - 1 - i + 1) + 0) / (k + 1) = a - 1 := by
      intro i hi
      rw [Nat.add_zero, Nat.add_zero, show k - 1 - i + 1 = k + 1 - (i + 1) by omega]
      have h1 := Nat.div_add_mod (a * (i + 1)) (k + 1)
      have h2 := Nat.mod_lt (a * (i + 1)) hm
      have h3 : a * (i + 1) % (k + 1) ≠ 0 := fun h => by
        have d : (k + 1) ∣ a * (i + 1) := Nat.dvd_of_mod_eq_zero h
        have d2 : (k + 1) ∣ (i + 1) := (Nat.Coprime.dvd_of_dvd_mul_left hg d)
        have := Nat.le_of_dvd (by omega) d2
        omega
      have h4 : a * (k + 1 - (i + 1)) + a * (i + 1) = a * (k + 1) := by rw [← Nat.mul_add, Nat.sub_add_cancel (by omega)]
      have h5 := Nat.div_add_mod (a * (k + 1 - (i + 1))) (k + 1)
      have h6 := Nat.mod_lt (a * (k + 1 - (i + 1))) hm
      generalize a * (i + 1) / (k + 1) = x at *
      generalize a * (k + 1 - (i + 1)) / (k + 1) = y at *
      generalize a * (i + 1) % (k + 1) = p at *
      generalize a * (k + 1 - (i + 1)) % (k + 1) = q at *
      generalize a * (i + 1) = A at *
      generalize a * (k + 1 - (i + 1)) = B at *
      -- (k+1)(x+y) + p + q = a (k+1), with 0 < p + q < 2 (k+1)
      have h7 : (k + 1) * (x + y) + (p + q) = (k + 1) * a := by rw [Nat.mul_add, Nat.mul_comm (k + 1) a]; omega
      by_cases c : x + y < a
      · by_cases c2 : x + y + 2 ≤ a
        · have := Nat.mul_le_mul_left (k + 1) c2
          rw [Nat.mul_add (k + 1) (x + y) 2] at this
          omega
        · omega
      · have := Nat.mul_le_mul_left (k + 1) (Nat.le_of_not_lt c)
        omega
    have sum : sumF (fun i => (a * (i + 1) + 0) / (k + 1)) k + sumF (fun i => (a * (k - 1 - i + 1) + 0) / (k + 1)) k = k * (a - 1) := by
      rw [← sumF_add]
      have cst : ∀ j, sumF (fun _ => a - 1) j = j * (a - 1) := fun j => by
        induction j with
        | zero => simp [sumF]
        | succ j ih => show sumF _ j + (a - 1) = _; rw [ih, Nat.succ_mul]
      rw [← cst k]
      exact sumF_congr fun i hi => pair i hi
    have r := sumF_rev (fun i => (a * (i + 1) + 0) / (k + 1)) k
    rw [← r] at sum
    omega
  omega

/-- points in a column -/
theorem column_count {m : Nat} (hm : 0 < m) (x : Nat) : ∀ h : Nat, h * m ≤ x ↔ h ≤ x / m := fun h => (Nat.le_div_iff_mul_le hm).symm
end Go.Proofs.Ytdkcodinlegheaa
