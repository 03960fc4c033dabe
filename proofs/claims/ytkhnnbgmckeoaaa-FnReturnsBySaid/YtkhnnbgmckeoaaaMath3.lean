/- Plain numbers of chapter 3: records, the rule of near returns, quotients, near times; and what holds of all turns. -/
import Derived.Test.YtkhnnbgmckeoaaaMath2
set_option linter.unusedVariables false
namespace Go.Proofs.Ytkhnnbgmckeoaaa

def tokN (n s : Nat) : Bool := decide (2 ≤ n) && decide (n ≤ 60) && decide (1 ≤ s) && decide (s < n) && decide (Nat.gcd n s = 1)

theorem tokN_of {n s : Int} (h : tok n s = true) : ∃ N S : Nat, n = N ∧ s = S ∧ tokN N S = true := by
  have hb := tok_bd h
  obtain ⟨n, rfl⟩ := Int.eq_ofNat_of_zero_le (by omega : 0 ≤ n)
  obtain ⟨s, rfl⟩ := Int.eq_ofNat_of_zero_le (by omega : 0 ≤ s)
  refine ⟨n, s, rfl, rfl, ?_⟩
  rw [tok_iff] at h
  obtain ⟨a, b, c, d, e⟩ := h
  simp only [Int.toNat_natCast] at e
  unfold tokN
  simp [e]
  omega

theorem tokN_bd {n s : Nat} (h : tokN n s = true) : 2 ≤ n ∧ n ≤ 60 ∧ 1 ≤ s ∧ s < n ∧ Nat.gcd n s = 1 := by
  unfold tokN at h; simp [and_assoc] at h; exact h

theorem tok_of_tokN {n s : Nat} (h : tokN n s = true) : tok n s = true := by
  obtain ⟨a, b, c, d, e⟩ := tokN_bd h
  rw [tok_iff]
  refine ⟨by omega, by omega, by omega, by omega, ?_⟩
  simpa using e

/-- what holds of all turns, one by one, holds of each -/
theorem all_turns {f : Nat → Nat → Bool} (h : ((List.range 61).all fun n => (List.range n).all fun s => !tokN n s || f n s) = true) {n s : Nat} (ht : tokN n s = true) : f n s = true := by
  obtain ⟨a, b, c, d, e⟩ := tokN_bd ht
  have h1 := List.all_eq_true.1 h n (by simp; omega)
  have h2 := List.all_eq_true.1 h1 s (by simp; omega)
  simpa [ht] using h2

/-- the records so far, and the best point so far -/
def recStep (up : Bool) (n s : Nat) (st : Nat × List Nat) (k : Nat) : Nat × List Nat :=
  if 1 ≤ k ∧ (if up then k * s % n < st.1 else st.1 < k * s % n) then (k * s % n, st.2 ++ [k]) else st

def recSt (up : Bool) (n s k : Nat) : Nat × List Nat := (List.range k).foldl (recStep up n s) (if up then n else 0, [])

theorem recSt_succ (up : Bool) (n s k : Nat) : recSt up n s (k + 1) = recStep up n s (recSt up n s k) k := by
  unfold recSt; rw [List.range_succ, List.foldl_append]; rfl

def recL (up : Bool) (n s : Nat) : List Nat := (recSt up n s n).2

structure Row where
  p : Nat
  a : Nat
  q : Nat
  b : Nat

def rowsF : Nat → Nat → Nat → Nat → Nat → List Row
  | 0, p, a, q, b => [⟨p, a, q, b⟩]
  | f + 1, p, a, q, b => bif Nat.beq a b then [⟨p, a, q, b⟩] else ⟨p, a, q, b⟩ :: (bif Nat.blt b a then rowsF f (p + q) (a - b) q b else rowsF f p a (p + q) (b - a))

def rowsN (n s : Nat) : List Row := rowsF n 1 s 1 (n - s)

def quotsF : Nat → Nat → Nat → List Nat
  | 0, _, _ => []
  | f + 1, a, b => bif Nat.beq b 0 then [] else (a / b) :: quotsF f b (a % b)

def quotsN (n s : Nat) : List Nat := quotsF n n s

def ntF : List Nat → Nat → Nat → List Nat
  | [], _, _ => []
  | q :: qs, x, y => (q * y + x) :: ntF qs y (q * y + x)

def ntL : List Nat → List Nat
  | [] => []
  | q :: qs => 1 :: q :: ntF qs 1 q

def nearN (n s : Nat) : List Nat := ntL (quotsN n s)

/-- from behind: both numbers of a fraction -/
def fqF : List Nat → Nat × Nat
  | [] => (1, 0)
  | x :: r => (x * (fqF r).1 + (fqF r).2, (fqF r).1)

def chkRows (n s : Nat) : Bool :=
  (rowsN n s).all (fun r => Nat.beq (r.p * r.b + r.q * r.a) n && (Nat.ble 1 r.p && (Nat.blt r.p n && (Nat.ble 1 r.q && (Nat.blt r.q n && (Nat.beq (r.p * s % n) r.a && (Nat.beq (r.q * s % n + r.b) n && (Nat.ble 1 r.a && Nat.ble 1 r.b)))))))) &&
  (match (rowsN n s).getLast? with | some r => Nat.beq r.a 1 && (Nat.beq r.b 1 && Nat.beq (r.p + r.q) n) | none => false)

theorem chkRows_all : ((List.range 61).all fun n => (List.range n).all fun s => !tokN n s || chkRows n s) = true := by decide +kernel

def eqL : List Nat → List Nat → Bool
  | [], [] => true
  | x :: xs, y :: ys => Nat.beq x y && eqL xs ys
  | _, _ => false

def chkQuots (n s : Nat) : Bool :=
  (quotsN n s).all (fun x => Nat.ble 1 x && Nat.ble x 60) && ((match (quotsN n s).getLast? with | some x => Nat.ble 2 x | none => false) &&
  (Nat.beq (fqF (quotsN n s)).1 n && (Nat.beq (fqF (quotsN n s)).2 s && (Nat.beq ((quotsN n s).foldl (· + ·) 0) ((rowsN n s).length + 1) && Nat.ble (quotsN n s).length 8))))

theorem chkQuots_all : ((List.range 61).all fun n => (List.range n).all fun s => !tokN n s || chkQuots n s) = true := by decide +kernel
end Go.Proofs.Ytkhnnbgmckeoaaa
