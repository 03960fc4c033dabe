/- Plain numbers of a calendar: long years, days before a year, dates. -/
import Derived.Test.YtokmmbmkfpfmgaaGCode
import Derived.Test.YtokmmbmkfpfmgaaGScl
set_option linter.unusedVariables false
namespace Go.Proofs.Ytokmmbmkfpfmgaa
set_option maxRecDepth 4000

set_option maxRecDepth 4000

variable {n s : Nat}

theorem let_turn (n s k : Nat) : letN n s (k + n) = letN n s k := by
  rw [← let_mod n s (k + n), Nat.add_mod_right, let_mod]

/-- days before a year -/
def dbN (n s d y : Nat) : Nat := y * d + flN n s y

theorem dbN_succ (h0 : 0 < n) (hs : s ≤ n) (d y : Nat) : dbN n s d (y + 1) = dbN n s d y + (d + (letN n s y).toNat) := by
  unfold dbN
  rw [fl_succ h0 hs, Nat.succ_mul]
  omega

theorem dbN_zero (n s d : Nat) : dbN n s d 0 = 0 := by unfold dbN flN; simp

theorem dbN_one (h0 : 0 < n) (d y : Nat) : dbN n s d y = y * (d * n + s) / n := by
  unfold dbN flN
  rw [Nat.mul_add, ← Nat.mul_assoc, Nat.add_comm (y * d * n), Nat.add_mul_div_right _ _ h0, Nat.add_comm]

theorem dbN_mono (h0 : 0 < n) (hs : s ≤ n) {d : Nat} (hd : 1 ≤ d) {y z : Nat} (h : y < z) : dbN n s d y < dbN n s d z := by
  obtain ⟨k, rfl⟩ : ∃ k, z = y + 1 + k := ⟨z - y - 1, by omega⟩
  clear h
  induction k with
  | zero => rw [Nat.add_zero, dbN_succ h0 hs]; omega
  | succ k ih => rw [← Nat.add_assoc, dbN_succ h0 hs]; omega

theorem dbN_le (h0 : 0 < n) (hs : s ≤ n) {d : Nat} (hd : d ≤ 400) {y : Nat} (hy : y ≤ 201) : dbN n s d y ≤ 100000 := by
  unfold dbN
  have a : y * d ≤ 201 * 400 := Nat.mul_le_mul hy hd
  have b : flN n s y ≤ y := by
    unfold flN
    have : y * s / n ≤ y * n / n := Nat.div_le_div_right (Nat.mul_le_mul_left y hs)
    rwa [Nat.mul_div_cancel _ h0] at this
  omega

/-- the year of a day -/
def yearN (n s d N : Nat) : Nat := ((N + 1) * n - 1) / (d * n + s)

theorem db_iff (h0 : 0 < n) {d : Nat} (hd : 1 ≤ d) (y N : Nat) : dbN n s d y ≤ N ↔ y ≤ yearN n s d N := by
  rw [dbN_one h0]
  unfold yearN
  have hL : 0 < d * n + s := by have := Nat.mul_le_mul hd (show 1 ≤ n from h0); omega
  generalize d * n + s = L at *
  have e1 : y * L / n ≤ N ↔ y * L < (N + 1) * n := by
    rw [← Nat.div_lt_iff_lt_mul h0]; omega
  have e2 : y ≤ ((N + 1) * n - 1) / L ↔ y * L ≤ (N + 1) * n - 1 := Nat.le_div_iff_mul_le hL
  have : 1 ≤ (N + 1) * n := Nat.le_trans h0 (Nat.le_mul_of_pos_left n (by omega))
  rw [e1, e2]
  omega

theorem yearN_is (h0 : 0 < n) (hs : s ≤ n) {d : Nat} (hd : 1 ≤ d) (N : Nat) : dbN n s d (yearN n s d N) ≤ N ∧ N < dbN n s d (yearN n s d N + 1) := by
  have a := (db_iff (s := s) h0 hd (yearN n s d N) N).2 (Nat.le_refl _)
  have b := fun h => (db_iff (s := s) h0 hd (yearN n s d N + 1) N).1 h
  refine ⟨a, ?_⟩
  by_cases c : N < dbN n s d (yearN n s d N + 1)
  · exact c
  · have := b (by omega); omega

theorem yearN_of (h0 : 0 < n) (hs : s ≤ n) {d : Nat} (hd : 1 ≤ d) {N y : Nat} (h1 : dbN n s d y ≤ N) (h2 : N < dbN n s d (y + 1)) : yearN n s d N = y := by
  have a := (db_iff (s := s) h0 hd y N).1 h1
  have b := yearN_is h0 hs hd N
  by_cases c : yearN n s d N = y
  · exact c
  · have hlt : y + 1 ≤ yearN n s d N := by omega
    have := (db_iff (s := s) h0 hd (y + 1) N).2 hlt
    omega

theorem yearN_up (h0 : 0 < n) {d : Nat} (hd : 1 ≤ d) (N : Nat) : yearN n s d N + 1 = ((N + 1) * n + (d * n + s) - 1) / (d * n + s) := by
  unfold yearN
  have hL : 0 < d * n + s := by have := Nat.mul_le_mul hd (show 1 ≤ n from h0); omega
  have : 1 ≤ (N + 1) * n := Nat.le_trans h0 (Nat.le_mul_of_pos_left n (by omega))
  generalize d * n + s = L at *
  generalize (N + 1) * n = X at *
  rw [show X + L - 1 = X - 1 + L by omega, Nat.add_div_right _ hL]

theorem yearN_lt (h0 : 0 < n) (hs : s ≤ n) {d : Nat} (hd : 1 ≤ d) {N Y : Nat} (h : N < dbN n s d Y) : yearN n s d N < Y := by
  have a := yearN_is h0 hs hd N
  by_cases c : yearN n s d N < Y
  · exact c
  · by_cases e : Y = yearN n s d N
    · rw [e] at h; omega
    · have := dbN_mono h0 hs hd (show Y < yearN n s d N by omega); omega

/-! ### what the functions answer -/

def lyF (n s y : Int) : Bool := tok n s && ((decide (0 ≤ y) && decide (y ≤ 199)) && letN n.toNat s.toNat y.toNat)

theorem lyF_no {n s y : Int} (h : ¬ (tok n s = true ∧ 0 ≤ y ∧ y ≤ 199)) : lyF n s y = false := by
  unfold lyF
  by_cases a : tok n s = true
  · have : (decide (0 ≤ y) && decide (y ≤ 199)) = false := by
      rw [Bool.and_eq_false_iff, decide_eq_false_iff_not, decide_eq_false_iff_not]
      by_cases b : 0 ≤ y
      · exact .inr fun c => h ⟨a, b, c⟩
      · exact .inl b
    rw [this, Bool.false_and, Bool.and_false]
  · simp [a]

theorem lyF_yes {N S Y : Nat} (h : tokN N S = true) (hy : Y ≤ 199) : lyF N S Y = letN N S Y := by
  unfold lyF
  rw [tok_of_tokN h, decide_eq_true (show (0 : Int) ≤ Y by omega), decide_eq_true (show (Y : Int) ≤ 199 by omega)]
  simp

def lbF (n s y : Int) : Int := if tok n s = true ∧ 0 ≤ y ∧ y ≤ 200 then ((flN n.toNat s.toNat y.toNat : Nat) : Int) else -1

theorem lbF_no {n s y : Int} (h : ¬ (tok n s = true ∧ 0 ≤ y ∧ y ≤ 200)) : lbF n s y = -1 := if_neg h

theorem lbF_yes {N S Y : Nat} (h : tokN N S = true) (hy : Y ≤ 200) : lbF N S Y = ((flN N S Y : Nat) : Int) := if_pos ⟨tok_of_tokN h, by omega, by omega⟩

def dbOk (n s d y : Int) : Prop := tok n s = true ∧ 1 ≤ d ∧ d ≤ 400 ∧ 0 ≤ y ∧ y ≤ 200

def dbF (n s d y : Int) : Int := if tok n s = true ∧ (1 ≤ d ∧ d ≤ 400) ∧ (0 ≤ y ∧ y ≤ 200) then ((dbN n.toNat s.toNat d.toNat y.toNat : Nat) : Int) else -1

theorem dbF_no {n s d y : Int} (h : ¬ (tok n s = true ∧ (1 ≤ d ∧ d ≤ 400) ∧ (0 ≤ y ∧ y ≤ 200))) : dbF n s d y = -1 := if_neg h

theorem dbF_yes {N S D Y : Nat} (h : tokN N S = true) (h1 : 1 ≤ D) (h2 : D ≤ 400) (hy : Y ≤ 200) : dbF N S D Y = ((dbN N S D Y : Nat) : Int) := if_pos ⟨tok_of_tokN h, ⟨by omega, by omega⟩, by omega, by omega⟩

def dayF (n s d y x : Int) : Int := if (tok n s = true ∧ (1 ≤ d ∧ d ≤ 400) ∧ (0 ≤ y ∧ y ≤ 199)) ∧ 0 ≤ x ∧ x < d + ((lyF n s y).toNat : Int) then dbF n s d y + x else -1

theorem dayF_no {n s d y x : Int} (h : ¬ ((tok n s = true ∧ (1 ≤ d ∧ d ≤ 400) ∧ (0 ≤ y ∧ y ≤ 199)) ∧ 0 ≤ x ∧ x < d + ((lyF n s y).toNat : Int))) : dayF n s d y x = -1 := if_neg h

theorem dayF_yes {N S D Y X : Nat} (h : tokN N S = true) (h1 : 1 ≤ D) (h2 : D ≤ 400) (hy : Y ≤ 199) (hx : X < D + (letN N S Y).toNat) : dayF N S D Y X = ((dbN N S D Y + X : Nat) : Int) := by
  unfold dayF
  rw [lyF_yes h hy, if_pos ⟨⟨tok_of_tokN h, ⟨by omega, by omega⟩, by omega, by omega⟩, by omega, by omega⟩, dbF_yes h h1 h2 (by omega)]
  omega

def dateOk (n s d x : Int) : Prop := (tok n s = true ∧ (1 ≤ d ∧ d ≤ 400)) ∧ 0 ≤ x ∧ x < dbF n s d 200

def dateY (n s d x : Int) : Int := if (tok n s = true ∧ (1 ≤ d ∧ d ≤ 400)) ∧ 0 ≤ x ∧ x < dbF n s d 200 then ((yearN n.toNat s.toNat d.toNat x.toNat : Nat) : Int) else -1

def dateD (n s d x : Int) : Int := if (tok n s = true ∧ (1 ≤ d ∧ d ≤ 400)) ∧ 0 ≤ x ∧ x < dbF n s d 200 then x - dbF n s d (dateY n s d x) else -1

def dateP (n s d x : Int) : Bool := decide ((tok n s = true ∧ (1 ≤ d ∧ d ≤ 400)) ∧ 0 ≤ x ∧ x < dbF n s d 200)

theorem date_no {n s d x : Int} (h : ¬ ((tok n s = true ∧ (1 ≤ d ∧ d ≤ 400)) ∧ 0 ≤ x ∧ x < dbF n s d 200)) : dateY n s d x = -1 ∧ dateD n s d x = -1 ∧ dateP n s d x = false := ⟨if_neg h, if_neg h, decide_eq_false h⟩

theorem date_yes {N S D X : Nat} (h : tokN N S = true) (h1 : 1 ≤ D) (h2 : D ≤ 400) (hx : X < dbN N S D 200) :
    dateY N S D X = ((yearN N S D X : Nat) : Int) ∧ dateD N S D X = ((X - dbN N S D (yearN N S D X) : Nat) : Int) ∧ dateP N S D X = true ∧ yearN N S D X ≤ 199 ∧ dbN N S D (yearN N S D X) ≤ X ∧ X < dbN N S D (yearN N S D X + 1) ∧ X ≤ 100000 := by
  obtain ⟨b1, b2, b3, b4, _⟩ := tokN_bd h
  have e200 : dbF (N : Int) (S : Int) (D : Int) 200 = ((dbN N S D 200 : Nat) : Int) := dbF_yes (Y := 200) h h1 h2 (Nat.le_refl _)
  have c : (tok (N : Int) S = true ∧ (1 ≤ (D : Int) ∧ (D : Int) ≤ 400)) ∧ 0 ≤ (X : Int) ∧ (X : Int) < dbF N S D 200 := ⟨⟨tok_of_tokN h, by omega, by omega⟩, by omega, by rw [e200]; omega⟩
  have hlt := yearN_lt (by omega : 0 < N) (by omega : S ≤ N) h1 hx
  obtain ⟨i1, i2⟩ := yearN_is (by omega : 0 < N) (by omega : S ≤ N) h1 X
  have eY : dateY N S D X = ((yearN N S D X : Nat) : Int) := if_pos c
  have := dbN_le (by omega : 0 < N) (by omega : S ≤ N) h2 (show 200 ≤ 201 by omega)
  refine ⟨eY, ?_, decide_eq_true c, by omega, i1, i2, by omega⟩
  unfold dateD
  rw [if_pos c, eY, dbF_yes h h1 h2 (by omega)]
  omega

def driftF (n s y : Int) : Int := if tok n s = true ∧ 0 ≤ y ∧ y ≤ 200 then ((y.toNat * s.toNat % n.toNat : Nat) : Int) else -1

theorem driftF_no {n s y : Int} (h : ¬ (tok n s = true ∧ 0 ≤ y ∧ y ≤ 200)) : driftF n s y = -1 := if_neg h

theorem driftF_yes {N S Y : Nat} (h : tokN N S = true) (hy : Y ≤ 200) : driftF N S Y = ((Y * S % N : Nat) : Int) := if_pos ⟨tok_of_tokN h, by omega, by omega⟩

theorem drift_calc (n s y : Nat) : (y : Int) * s - n * ((flN n s y : Nat) : Int) = ((y * s % n : Nat) : Int) := by
  have := Nat.div_add_mod (y * s) n
  unfold flN
  have e : ((n * (y * s / n) + y * s % n : Nat) : Int) = ((y * s : Nat) : Int) := by rw [this]
  simp only [Int.natCast_add, Int.natCast_mul] at e
  omega
end Go.Proofs.Ytokmmbmkfpfmgaa
