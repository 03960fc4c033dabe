/- Plain numbers: what the laws of chapter 3 say, for all turns. -/
import Derived.Test.YtkhnnbgmckeoaaaRec
set_option linter.unusedVariables false
namespace Go.Proofs.Ytkhnnbgmckeoaaa
open N
variable {n s : Nat}

theorem rowsN_head (ht : tokN n s = true) : rowsN n s = ⟨1, s, 1, n - s⟩ :: (rowsN n s).tail := by
  obtain ⟨n2, _⟩ := tokN_bd ht
  obtain ⟨k, rfl⟩ : ∃ k, n = k + 1 := ⟨n - 1, by omega⟩
  unfold rowsN
  rw [rowsF]
  cases Nat.beq s (k + 1 - s) <;> rfl

theorem recSt_two (up : Bool) (ht : tokN n s = true) : recSt up n s 2 = (1 * s % n, [1]) := by
  obtain ⟨n2, _, s1, sn, _⟩ := tokN_bd ht
  have e : 1 * s % n = s := by rw [Nat.one_mul, Nat.mod_eq_of_lt sn]
  have h0 : recSt up n s 1 = (if up then n else 0, []) := rfl
  rw [recSt_succ, h0, recStep, if_pos]
  · rw [e]; rfl
  · refine ⟨by omega, ?_⟩
    rw [e]
    cases up
    · show 0 < s; omega
    · show s < n; omega

theorem recA_rows (ht : tokN n s = true) : recL true n s = 1 :: onceF Row.p 1 (rowsN n s).tail ∧ ∃ p', (recL true n s).getLast? = some p' ∧ p' * s % n = 1 ∧ p' < n :=
  rows_up ht n 1 s 1 (n - s) [1] (RowInv.start ht) (by have := tokN_bd ht; omega) (recSt_two true ht) rfl

theorem recB_rows (ht : tokN n s = true) : recL false n s = 1 :: onceF Row.q 1 (rowsN n s).tail :=
  rows_down ht n 1 s 1 (n - s) [1] (RowInv.start ht) (by have := tokN_bd ht; omega) (recSt_two false ht)

theorem onceF_mem (f : Row → Nat) (rs : List Row) : ∀ last, ∀ r ∈ rs, f r = last ∨ f r ∈ onceF f last rs := by
  induction rs with
  | nil => intro last r hr; simp at hr
  | cons x rs ih =>
    intro last r hr
    rw [onceF]
    rcases List.mem_cons.1 hr with rfl | hr
    · by_cases c : f r = last
      · exact .inl c
      · rw [if_neg c]; simp
    · by_cases c : f x = last
      · rw [if_pos c]; exact ih last r hr
      · rw [if_neg c]
        rcases ih (f x) r hr with h | h
        · rw [h]; simp
        · right; simp [h]

theorem row_p_mem (ht : tokN n s = true) {r : Row} (h : r ∈ rowsN n s) : r.p ∈ recL true n s := by
  rw [(recA_rows ht).1]
  rw [rowsN_head ht] at h
  rcases List.mem_cons.1 h with rfl | h
  · simp
  · rcases onceF_mem Row.p _ 1 r h with e | e
    · rw [e]; simp
    · simp [e]

theorem row_q_mem (ht : tokN n s = true) {r : Row} (h : r ∈ rowsN n s) : r.q ∈ recL false n s := by
  rw [recB_rows ht]
  rw [rowsN_head ht] at h
  rcases List.mem_cons.1 h with rfl | h
  · simp
  · rcases onceF_mem Row.q _ 1 r h with e | e
    · rw [e]; simp
    · simp [e]

theorem back_pt (ht : tokN n s = true) {k : Nat} (h1 : 1 ≤ k) (h2 : k < n) : k * (n - s) % n = n - k * s % n := by
  have hb := back_points (tok_of_tokN ht) (k := (k : Int)) (by omega) (by omega)
  obtain ⟨n2, _, s1, sn, _⟩ := tokN_bd ht
  have e : ((n : Int) - s) = ((n - s : Nat) : Int) := by omega
  rw [pointF_yes (tok_of_tokN ht) (by omega) (by omega), pointF_yes (tok_back.trans (tok_of_tokN ht)) (by omega) (by omega), e] at hb
  have e1 : (k : Int) * (s : Int) % (n : Int) = ((k * s % n : Nat) : Int) := by simp
  have e2 : (k : Int) * ((n - s : Nat) : Int) % (n : Int) = ((k * (n - s) % n : Nat) : Int) := by simp
  rw [e1, e2] at hb
  omega

theorem rec_back (ht : tokN n s = true) : recL true n (n - s) = recL false n s := by
  have key : ∀ k, k ≤ n → (recSt true n (n - s) k).1 + (recSt false n s k).1 = n ∧ (recSt true n (n - s) k).2 = (recSt false n s k).2 := by
    intro k
    induction k with
    | zero => intro _; exact ⟨rfl, rfl⟩
    | succ k ih =>
      intro hk
      obtain ⟨a, b⟩ := ih (by omega)
      rw [recSt_succ, recSt_succ]
      unfold recStep
      by_cases h1 : 1 ≤ k
      · have hp := back_pt ht h1 (by omega)
        have hlt := Nat.mod_lt (k * s) (by omega : 0 < n)
        by_cases c : (recSt false n s k).1 < k * s % n
        · rw [if_pos ⟨h1, by show k * (n - s) % n < _; omega⟩, if_pos ⟨h1, c⟩]
          exact ⟨by omega, by rw [b]⟩
        · rw [if_neg (by rintro ⟨_, h⟩; have h' : k * (n - s) % n < (recSt true n (n - s) k).1 := h; omega), if_neg (by rintro ⟨_, h⟩; exact c h)]
          exact ⟨a, b⟩
      · rw [if_neg (fun h => h1 h.1), if_neg (fun h => h1 h.1)]
        exact ⟨a, b⟩
  exact (key n (Nat.le_refl _)).2

def memP (x : Nat) (rs : List Row) : Bool := rs.any (fun r => Nat.beq r.p x || Nat.beq r.q x)

def chkNear (n s : Nat) : Bool :=
  (nearN n s).all (fun x => Nat.ble 1 x && (Nat.ble x n && (Nat.beq x n || memP x (rowsN n s)))) &&
  ((match (nearN n s).getLast? with | some x => Nat.beq x n | none => false) && (Nat.ble 2 (nearN n s).length && (Nat.ble (nearN n s).length 9 &&
  (Nat.beq ((nearN n s).getD ((nearN n s).length - 2) 0 * s % n) 1 || Nat.beq ((n - (nearN n s).getD ((nearN n s).length - 2) 0) * s % n) 1))))

theorem chkNear_all : ((List.range 61).all fun n => (List.range n).all fun s => !tokN n s || chkNear n s) = true := by decide +kernel

/-- between near times none is nearer -/
def nearP (n x : Nat) : Nat := bif Nat.ble x (n - x) then x else n - x

def bestGo (n s : Nat) : List Nat → Bool
  | x :: y :: r => (List.range y).all (fun t => Nat.beq t 0 || (Nat.beq t x || Nat.ble (nearP n (x * s % n)) (nearP n (t * s % n)))) && bestGo n s (y :: r)
  | _ => true

def chkBest (n s : Nat) : Bool := bestGo n s (nearN n s).tail
end Go.Proofs.Ytkhnnbgmckeoaaa
