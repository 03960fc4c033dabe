/- Plain numbers of chapter 3: records, the rule of near returns, quotients, near times; and what holds of all turns. Plain numbers: the rows of the rule of near returns are the pairs of nearest points, and the records are told by them. Plain numbers: what the laws of chapter 3 say, for all turns. -/
import Derived.Test.YtokmmbmkfpfmgaaGMath
set_option linter.unusedVariables false
namespace Go.Proofs.Ytokmmbmkfpfmgaa
set_option maxRecDepth 4000

def tokN (n s : Nat) : Bool := decide (2 ≤ n) && decide (n ≤ 60) && decide (1 ≤ s) && decide (s < n) && decide (Nat.gcd n s = 1)

theorem tokN_of {n s : Int} (h : tok n s = true) : ∃ N S : Nat, n = N ∧ s = S ∧ tokN N S = true := by
  have hb := tok_bd h
  obtain ⟨n, rfl⟩ := Int.eq_ofNat_of_zero_le (by omega : 0 ≤ n)
  obtain ⟨s, rfl⟩ := Int.eq_ofNat_of_zero_le (by omega : 0 ≤ s)
  refine ⟨n, s, rfl, rfl, ?_⟩
  rw [tok_iff] at h
  obtain ⟨a, b, c, d, e⟩ := h
  simp only [Int.toNat_natCast] at e
  unfold tokN
  simp [e]
  omega

theorem tokN_bd {n s : Nat} (h : tokN n s = true) : 2 ≤ n ∧ n ≤ 60 ∧ 1 ≤ s ∧ s < n ∧ Nat.gcd n s = 1 := by
  unfold tokN at h; simp [and_assoc] at h; exact h

theorem tok_of_tokN {n s : Nat} (h : tokN n s = true) : tok n s = true := by
  obtain ⟨a, b, c, d, e⟩ := tokN_bd h
  rw [tok_iff]
  refine ⟨by omega, by omega, by omega, by omega, ?_⟩
  simpa using e

/-- what holds of all turns, one by one, holds of each -/
theorem all_turns {f : Nat → Nat → Bool} (h : ((List.range 61).all fun n => (List.range n).all fun s => !tokN n s || f n s) = true) {n s : Nat} (ht : tokN n s = true) : f n s = true := by
  obtain ⟨a, b, c, d, e⟩ := tokN_bd ht
  have h1 := List.all_eq_true.1 h n (by simp; omega)
  have h2 := List.all_eq_true.1 h1 s (by simp; omega)
  simpa [ht] using h2

/-- the records so far, and the best point so far -/
def recStep (up : Bool) (n s : Nat) (st : Nat × List Nat) (k : Nat) : Nat × List Nat :=
  if 1 ≤ k ∧ (if up then k * s % n < st.1 else st.1 < k * s % n) then (k * s % n, st.2 ++ [k]) else st

def recSt (up : Bool) (n s k : Nat) : Nat × List Nat := (List.range k).foldl (recStep up n s) (if up then n else 0, [])

theorem recSt_succ (up : Bool) (n s k : Nat) : recSt up n s (k + 1) = recStep up n s (recSt up n s k) k := by
  unfold recSt; rw [List.range_succ, List.foldl_append]; rfl

def recL (up : Bool) (n s : Nat) : List Nat := (recSt up n s n).2

structure Row where
  p : Nat
  a : Nat
  q : Nat
  b : Nat

def rowsF : Nat → Nat → Nat → Nat → Nat → List Row
  | 0, p, a, q, b => [⟨p, a, q, b⟩]
  | f + 1, p, a, q, b => bif Nat.beq a b then [⟨p, a, q, b⟩] else ⟨p, a, q, b⟩ :: (bif Nat.blt b a then rowsF f (p + q) (a - b) q b else rowsF f p a (p + q) (b - a))

def rowsN (n s : Nat) : List Row := rowsF n 1 s 1 (n - s)

def quotsF : Nat → Nat → Nat → List Nat
  | 0, _, _ => []
  | f + 1, a, b => bif Nat.beq b 0 then [] else (a / b) :: quotsF f b (a % b)

def quotsN (n s : Nat) : List Nat := quotsF n n s

def ntF : List Nat → Nat → Nat → List Nat
  | [], _, _ => []
  | q :: qs, x, y => (q * y + x) :: ntF qs y (q * y + x)

def ntL : List Nat → List Nat
  | [] => []
  | q :: qs => 1 :: q :: ntF qs 1 q

def nearN (n s : Nat) : List Nat := ntL (quotsN n s)

/-- from behind: both numbers of a fraction -/
def fqF : List Nat → Nat × Nat
  | [] => (1, 0)
  | x :: r => (x * (fqF r).1 + (fqF r).2, (fqF r).1)

def chkRows (n s : Nat) : Bool :=
  (rowsN n s).all (fun r => Nat.beq (r.p * r.b + r.q * r.a) n && (Nat.ble 1 r.p && (Nat.blt r.p n && (Nat.ble 1 r.q && (Nat.blt r.q n && (Nat.beq (r.p * s % n) r.a && (Nat.beq (r.q * s % n + r.b) n && (Nat.ble 1 r.a && Nat.ble 1 r.b)))))))) &&
  (match (rowsN n s).getLast? with | some r => Nat.beq r.a 1 && (Nat.beq r.b 1 && Nat.beq (r.p + r.q) n) | none => false)

theorem chkRows_all : ((List.range 61).all fun n => (List.range n).all fun s => !tokN n s || chkRows n s) = true := by decide +kernel

def eqL : List Nat → List Nat → Bool
  | [], [] => true
  | x :: xs, y :: ys => Nat.beq x y && eqL xs ys
  | _, _ => false

def chkQuots (n s : Nat) : Bool :=
  (quotsN n s).all (fun x => Nat.ble 1 x && Nat.ble x 60) && ((match (quotsN n s).getLast? with | some x => Nat.ble 2 x | none => false) &&
  (Nat.beq (fqF (quotsN n s)).1 n && (Nat.beq (fqF (quotsN n s)).2 s && (Nat.beq ((quotsN n s).foldl (· + ·) 0) ((rowsN n s).length + 1) && Nat.ble (quotsN n s).length 8))))

theorem chkQuots_all : ((List.range 61).all fun n => (List.range n).all fun s => !tokN n s || chkQuots n s) = true := by decide +kernel
end Go.Proofs.Ytokmmbmkfpfmgaa

set_option linter.unusedVariables false
namespace Go.Proofs.Ytokmmbmkfpfmgaa
open N

theorem pt_natN (n s k : Nat) : pt (n : Int) (s : Int) (k : Int) = ((k * s % n : Nat) : Int) := by simp [pt]

/-- both nearest points, as far as they stay the nearest ones -/
structure RowInv (n s p a q b : Nat) : Prop where
  p1 : 1 ≤ p
  q1 : 1 ≤ q
  le : p + q ≤ n
  hp : IsMin n s ((p + q : Nat) : Int) p
  hq : IsMax n s ((p + q : Nat) : Int) q
  ea : (a : Int) = pt n s p
  eb : (b : Int) + pt n s q = n

theorem big_sum {a b p q n : Int} (ha : 1 ≤ a) (hb : 1 ≤ b) (hp : 1 ≤ p) (hq : 1 ≤ q) (e : a * q + b * p = n) : p + q ≤ n ∧ (p + q = n → a = 1 ∧ b = 1) := by
  have h1 : q ≤ a * q := by
    have := Int.mul_le_mul_of_nonneg_right ha (by omega : 0 ≤ q)
    rwa [Int.one_mul] at this
  have h2 : p ≤ b * p := by
    have := Int.mul_le_mul_of_nonneg_right hb (by omega : 0 ≤ p)
    rwa [Int.one_mul] at this
  refine ⟨by omega, fun h => ⟨?_, ?_⟩⟩
  · by_cases c : a = 1
    · exact c
    · have h3 : 2 * q ≤ a * q := Int.mul_le_mul_of_nonneg_right (by omega : 2 ≤ a) (by omega : 0 ≤ q)
      omega
  · by_cases c : b = 1
    · exact c
    · have h3 : 2 * p ≤ b * p := Int.mul_le_mul_of_nonneg_right (by omega : 2 ≤ b) (by omega : 0 ≤ p)
      omega

variable {n s : Nat}

/-- the nearest points stay the nearest ones till both times together -/
theorem persist (ht : tokN n s = true) {m p q : Nat} (hm2 : 2 ≤ m) (hm : m ≤ n) (hp : IsMin n s m p) (hq : IsMax n s m q) :
    p + q ≤ n ∧ ∀ d, m + d ≤ p + q → IsMin n s ((m + d : Nat) : Int) p ∧ IsMax n s ((m + d : Nat) : Int) q := by
  have h := turns_of (tok_of_tokN ht)
  obtain ⟨n2, _, s1, sn, _⟩ := tokN_bd ht
  have hp1 := hp.1; have hq1 := hq.1
  have hp2 := hp.2.1; have hq2 := hq.2.1
  have key : ∀ d, m + d ≤ p + q → m + d ≤ n → IsMin n s ((m + d : Nat) : Int) p ∧ IsMax n s ((m + d : Nat) : Int) q := by
    intro d
    induction d with
    | zero => intro _ _; exact ⟨hp, hq⟩
    | succ d ih =>
      intro h1 h2
      obtain ⟨i1, i2⟩ := ih (by omega) (by omega)
      rcases near_step h (m := ((m + d : Nat) : Int)) (by omega) (by omega) i1 i2 with ⟨a, b⟩ | ⟨e, _⟩ | ⟨e, _⟩
      · rw [show ((m + (d + 1) : Nat) : Int) = ((m + d : Nat) : Int) + 1 by omega]
        exact ⟨a, b⟩
      · omega
      · omega
  have le : p + q ≤ n := by
    by_cases c : p + q ≤ n
    · exact c
    · obtain ⟨i1, i2⟩ := key (n - m) (by omega) (by omega)
      rw [show m + (n - m) = n by omega] at i1 i2
      have hs := near_size h (by omega) (by omega) n (by omega) (by omega) i1 i2
      have a1 := h.pos (k := (p : Int)) hp1 (by have := i1.2.1; omega)
      have b1 := pt_hi (n := (n : Int)) s (q : Int) h.n2
      have := (big_sum (by omega : 1 ≤ pt n s p) (by omega : 1 ≤ (n : Int) - pt n s q) hp1 hq1 hs).1
      omega
  exact ⟨le, fun d hd => key d hd (by omega)⟩

theorem RowInv.size (ht : tokN n s = true) {p a q b : Nat} (h : RowInv n s p a q b) : (a : Int) * q + b * p = n ∧ 1 ≤ a ∧ 1 ≤ b := by
  have hT := turns_of (tok_of_tokN ht)
  obtain ⟨n2, _, s1, sn, _⟩ := tokN_bd ht
  have p1 := h.p1; have q1 := h.q1; have le := h.le
  have hs := near_size hT (by omega) (by omega) (p + q) (by omega) (by omega) h.hp h.hq
  have a1 := hT.pos (k := (p : Int)) (by omega) (by omega)
  have b1 := pt_hi (n := (n : Int)) s (q : Int) hT.n2
  rw [← h.ea] at hs a1
  rw [show (n : Int) - pt n s q = b by have := h.eb; omega] at hs
  exact ⟨hs, by omega, by have := h.eb; omega⟩

/-- in the last row both distances are 1, and both times together the size -/
theorem RowInv.last (ht : tokN n s = true) {p a q b : Nat} (h : RowInv n s p a q b) (e : a = b) : a = 1 ∧ p + q = n := by
  obtain ⟨hs, a1, b1⟩ := h.size ht
  have hT := turns_of (tok_of_tokN ht)
  subst e
  have hpt : pt n s ((p : Int) + q) = 0 := by
    have h1 := h.ea; have h2 := h.eb
    rcases pt_add (n := (n : Int)) s (p : Int) (q : Int) hT.n2 with ⟨c1, c2⟩ | ⟨c1, c2⟩ <;> omega
  have hpq : p + q = n := by
    by_cases c : p + q < n
    · have := hT.pos (k := (p : Int) + q) (by have := h.p1; omega) (by omega)
      omega
    · have := h.le; omega
  refine ⟨?_, hpq⟩
  have := (big_sum (a := a) (b := a) (p := p) (q := q) (n := n) (by omega) (by omega) (by have := h.p1; omega) (by have := h.q1; omega) hs).2 (by omega)
  omega

theorem RowInv.next (ht : tokN n s = true) {p a q b : Nat} (h : RowInv n s p a q b) (e : a ≠ b) :
    p + q < n ∧ (b < a → RowInv n s (p + q) (a - b) q b) ∧ (a < b → RowInv n s p a (p + q) (b - a)) := by
  obtain ⟨hs, a1, b1⟩ := h.size ht
  have hT := turns_of (tok_of_tokN ht)
  obtain ⟨n2, _, s1, sn, _⟩ := tokN_bd ht
  have p1 := h.p1; have q1 := h.q1; have le := h.le; have ea := h.ea; have eb := h.eb
  have lt : p + q < n := by
    by_cases c : p + q < n
    · exact c
    · have := (big_sum (by omega : 1 ≤ (a : Int)) (by omega : 1 ≤ (b : Int)) (by omega : 1 ≤ (p : Int)) (by omega : 1 ≤ (q : Int)) hs).2 (by omega)
      omega
  have hadd := pt_add (n := (n : Int)) s (p : Int) (q : Int) hT.n2
  rw [show (p : Int) + q = ((p + q : Nat) : Int) by omega] at hadd
  have hm := hT.pos (k := ((p + q : Nat) : Int)) (by omega) (by omega)
  refine ⟨lt, fun c => ?_, fun c => ?_⟩
  · -- the new point is the nearest above
    have hne : pt n s ((p + q : Nat) : Int) = pt n s p + pt n s q - n := by rcases hadd with ⟨x, y⟩ | ⟨x, y⟩ <;> omega
    rcases near_step hT (m := ((p + q : Nat) : Int)) (by omega) (by omega) h.hp h.hq with ⟨x, y⟩ | ⟨_, x, y, _⟩ | ⟨_, x, y, z⟩
    · have := x.2.2 ((p + q : Nat) : Int) (by omega) (by omega)
      have := pt_hi (n := (n : Int)) s (q : Int) hT.n2
      omega
    · rw [show ((p + q : Nat) : Int) + 1 = ((p + q + 1 : Nat) : Int) by omega] at x y
      obtain ⟨l2, k⟩ := persist ht (by omega) (by omega) x y
      obtain ⟨i1, i2⟩ := k (q - 1) (by omega)
      rw [show p + q + 1 + (q - 1) = p + q + q by omega] at i1 i2
      exact ⟨by omega, q1, l2, i1, i2, by omega, eb⟩
    · omega
  · have hne : pt n s ((p + q : Nat) : Int) = pt n s p + pt n s q := by rcases hadd with ⟨x, y⟩ | ⟨x, y⟩ <;> omega
    rcases near_step hT (m := ((p + q : Nat) : Int)) (by omega) (by omega) h.hp h.hq with ⟨x, y⟩ | ⟨_, x, y, z⟩ | ⟨_, x, y, _⟩
    · have := y.2.2 ((p + q : Nat) : Int) (by omega) (by omega)
      omega
    · omega
    · rw [show ((p + q : Nat) : Int) + 1 = ((p + q + 1 : Nat) : Int) by omega] at x y
      obtain ⟨l2, k⟩ := persist ht (by omega) (by omega) x y
      obtain ⟨i1, i2⟩ := k (p - 1) (by omega)
      rw [show p + q + 1 + (p - 1) = p + (p + q) by omega] at i1 i2
      exact ⟨p1, by omega, l2, i1, i2, ea, by omega⟩

theorem RowInv.start (ht : tokN n s = true) : RowInv n s 1 s 1 (n - s) := by
  have hT := turns_of (tok_of_tokN ht)
  obtain ⟨n2, _, s1, sn, _⟩ := tokN_bd ht
  have e1 : pt n s ((1 : Nat) : Int) = s := by
    rw [pt_natN, Nat.one_mul, Nat.mod_eq_of_lt sn]
  refine ⟨by omega, by omega, by omega, ?_, ?_, e1.symm, by rw [e1]; omega⟩
  · refine ⟨by omega, by omega, fun j j1 j2 => ?_⟩
    have : j = 1 := by omega
    subst this
    exact Int.le_refl _
  · refine ⟨by omega, by omega, fun j j1 j2 => ?_⟩
    rcases (by omega : j = 0 ∨ j = 1) with rfl | rfl
    · rw [pt0]; exact pt_lo _ _ hT.n2
    · exact Int.le_refl _

/-- no record above while the nearest point stays -/
theorem rec_stay_up {m d p : Nat} {acc : List Nat} (hm : 1 ≤ m) (h : recSt true n s m = (p * s % n, acc)) (hp : IsMin n s ((m + d : Nat) : Int) p) : recSt true n s (m + d) = (p * s % n, acc) := by
  have key : ∀ e, e ≤ d → recSt true n s (m + e) = (p * s % n, acc) := by
    intro e
    induction e with
    | zero => intro _; exact h
    | succ e ih =>
      intro he
      have i := ih (by omega)
      rw [show m + (e + 1) = (m + e) + 1 by omega, recSt_succ, i, recStep, if_neg]
      rintro ⟨_, c⟩
      have c' : (m + e) * s % n < p * s % n := c
      have := hp.2.2 ((m + e : Nat) : Int) (by omega) (by omega)
      rw [pt_natN, pt_natN] at this
      omega
  exact key d (Nat.le_refl _)

theorem rec_stay_down {m d q : Nat} {acc : List Nat} (h : recSt false n s m = (q * s % n, acc)) (hq : IsMax n s ((m + d : Nat) : Int) q) : recSt false n s (m + d) = (q * s % n, acc) := by
  have key : ∀ e, e ≤ d → recSt false n s (m + e) = (q * s % n, acc) := by
    intro e
    induction e with
    | zero => intro _; exact h
    | succ e ih =>
      intro he
      have i := ih (by omega)
      rw [show m + (e + 1) = (m + e) + 1 by omega, recSt_succ, i, recStep, if_neg]
      rintro ⟨_, c⟩
      have c' : q * s % n < (m + e) * s % n := c
      have := hq.2.2 ((m + e : Nat) : Int) (by omega) (by omega)
      rw [pt_natN, pt_natN] at this
      omega
  exact key d (Nat.le_refl _)

/-- each once, if it comes again at once -/
def onceF (f : Row → Nat) (last : Nat) : List Row → List Nat
  | [] => []
  | r :: rs => if f r = last then onceF f last rs else f r :: onceF f (f r) rs

theorem beq_no {a b : Nat} (h : a ≠ b) : Nat.beq a b = false := by
  cases e : Nat.beq a b with
  | false => rfl
  | true => exact absurd (Nat.eq_of_beq_eq_true e) h

theorem rowsF_stop {f p a q b : Nat} (h : a = b) : rowsF f p a q b = [⟨p, a, q, b⟩] := by
  cases f with
  | zero => rfl
  | succ f => rw [rowsF, (by simp [h] : Nat.beq a b = true)]; rfl

theorem rowsF_up {f p a q b : Nat} (h : b < a) : rowsF (f + 1) p a q b = ⟨p, a, q, b⟩ :: rowsF f (p + q) (a - b) q b := by
  have h1 : Nat.beq a b = false := beq_no (by omega)
  have h2 : Nat.blt b a = true := by simp [Nat.blt_eq, h]
  rw [rowsF, h1, h2]; rfl

theorem rowsF_down {f p a q b : Nat} (h : a < b) : rowsF (f + 1) p a q b = ⟨p, a, q, b⟩ :: rowsF f p a (p + q) (b - a) := by
  have h1 : Nat.beq a b = false := beq_no (by omega)
  have h2 : Nat.blt b a = false := by
    cases e : Nat.blt b a with
    | false => rfl
    | true => rw [Nat.blt_eq] at e; omega
  rw [rowsF, h1, h2]; rfl

theorem rows_up (ht : tokN n s = true) : ∀ (f p a q b : Nat) (acc : List Nat), RowInv n s p a q b → a + b ≤ f + 1 → recSt true n s (p + q) = (p * s % n, acc) → acc.getLast? = some p →
    (recSt true n s n).2 = acc ++ onceF Row.p p (rowsF f p a q b).tail ∧ ∃ p', (recSt true n s n).2.getLast? = some p' ∧ p' * s % n = 1 ∧ p' < n := by
  intro f
  induction f with
  | zero =>
    intro p a q b acc h hf hr hl
    obtain ⟨_, a1, b1⟩ := h.size ht
    omega
  | succ f ih =>
    intro p a q b acc h hf hr hl
    obtain ⟨_, a1, b1⟩ := h.size ht
    have ea := h.ea
    rw [pt_natN] at ea
    by_cases e : a = b
    · obtain ⟨e1, e2⟩ := h.last ht e
      rw [rowsF_stop e]
      rw [e2] at hr
      rw [hr]
      have := h.q1
      exact ⟨by simp [onceF], p, hl, by omega, by omega⟩
    · obtain ⟨lt, h1, h2⟩ := h.next ht e
      by_cases c : b < a
      · rw [rowsF_up c]
        have hn := h1 c
        have ea' := hn.ea
        rw [pt_natN] at ea'
        have hr1 : recSt true n s (p + q + 1) = ((p + q) * s % n, acc ++ [p + q]) := by
          rw [recSt_succ, hr, recStep, if_pos]
          refine ⟨by have := h.p1; omega, ?_⟩
          show (p + q) * s % n < p * s % n
          omega
        have hr2 := rec_stay_up (d := q - 1) (by omega) hr1 (by rw [show p + q + 1 + (q - 1) = p + q + q by have := h.q1; omega]; exact hn.hp)
        rw [show p + q + 1 + (q - 1) = p + q + q by have := h.q1; omega] at hr2
        obtain ⟨i1, i2⟩ := ih (p + q) (a - b) q b (acc ++ [p + q]) hn (by omega) hr2 (by simp)
        refine ⟨?_, i2⟩
        rw [i1, List.tail_cons]
        have hh : rowsF f (p + q) (a - b) q b = ⟨p + q, a - b, q, b⟩ :: (rowsF f (p + q) (a - b) q b).tail := by
          cases f with
          | zero => rfl
          | succ f =>
            rw [rowsF]
            cases Nat.beq (a - b) b <;> rfl
        rw [hh, onceF, if_neg (by show ¬ p + q = p; have := h.q1; omega)]
        simp
      · have c' : a < b := by omega
        rw [rowsF_down c']
        have hn := h2 c'
        have hr2 := rec_stay_up (d := p) (by have := h.p1; omega) hr (by rw [show p + q + p = p + (p + q) by omega]; exact hn.hp)
        rw [show p + q + p = p + (p + q) by omega] at hr2
        obtain ⟨i1, i2⟩ := ih p a (p + q) (b - a) acc hn (by omega) hr2 hl
        refine ⟨?_, i2⟩
        rw [i1, List.tail_cons]
        have hh : rowsF f p a (p + q) (b - a) = ⟨p, a, p + q, b - a⟩ :: (rowsF f p a (p + q) (b - a)).tail := by
          cases f with
          | zero => rfl
          | succ f =>
            rw [rowsF]
            cases Nat.beq a (b - a) <;> rfl
        rw [hh, onceF, if_pos rfl]
        simp

theorem rows_down (ht : tokN n s = true) : ∀ (f p a q b : Nat) (acc : List Nat), RowInv n s p a q b → a + b ≤ f + 1 → recSt false n s (p + q) = (q * s % n, acc) →
    (recSt false n s n).2 = acc ++ onceF Row.q q (rowsF f p a q b).tail := by
  intro f
  induction f with
  | zero =>
    intro p a q b acc h hf hr
    obtain ⟨_, a1, b1⟩ := h.size ht
    omega
  | succ f ih =>
    intro p a q b acc h hf hr
    obtain ⟨_, a1, b1⟩ := h.size ht
    have eb := h.eb
    rw [pt_natN] at eb
    by_cases e : a = b
    · obtain ⟨e1, e2⟩ := h.last ht e
      rw [rowsF_stop e]
      rw [e2] at hr
      rw [hr]
      simp [onceF]
    · obtain ⟨lt, h1, h2⟩ := h.next ht e
      by_cases c : b < a
      · rw [rowsF_up c]
        have hn := h1 c
        have hr2 := rec_stay_down (d := q) hr (by exact hn.hq)
        have i1 := ih (p + q) (a - b) q b acc hn (by omega) hr2
        rw [i1]
        have hh : rowsF f (p + q) (a - b) q b = ⟨p + q, a - b, q, b⟩ :: (rowsF f (p + q) (a - b) q b).tail := by
          cases f with
          | zero => rfl
          | succ f =>
            rw [rowsF]
            cases Nat.beq (a - b) b <;> rfl
        rw [List.tail_cons, hh, onceF, if_pos rfl]
        simp
      · have c' : a < b := by omega
        rw [rowsF_down c']
        have hn := h2 c'
        have eb' := hn.eb
        rw [pt_natN] at eb'
        have hr1 : recSt false n s (p + q + 1) = ((p + q) * s % n, acc ++ [p + q]) := by
          rw [recSt_succ, hr, recStep, if_pos]
          refine ⟨by have := h.p1; omega, ?_⟩
          show q * s % n < (p + q) * s % n
          omega
        have hr2 := rec_stay_down (d := p - 1) hr1 (by rw [show p + q + 1 + (p - 1) = p + (p + q) by have := h.p1; omega]; exact hn.hq)
        rw [show p + q + 1 + (p - 1) = p + (p + q) by have := h.p1; omega] at hr2
        have i1 := ih p a (p + q) (b - a) (acc ++ [p + q]) hn (by omega) hr2
        rw [i1, List.tail_cons]
        have hh : rowsF f p a (p + q) (b - a) = ⟨p, a, p + q, b - a⟩ :: (rowsF f p a (p + q) (b - a)).tail := by
          cases f with
          | zero => rfl
          | succ f =>
            rw [rowsF]
            cases Nat.beq a (b - a) <;> rfl
        rw [hh, onceF, if_neg (by show ¬ p + q = q; have := h.p1; omega)]
        simp
end Go.Proofs.Ytokmmbmkfpfmgaa

set_option linter.unusedVariables false
namespace Go.Proofs.Ytokmmbmkfpfmgaa
open N
variable {n s : Nat}

theorem rowsN_head (ht : tokN n s = true) : rowsN n s = ⟨1, s, 1, n - s⟩ :: (rowsN n s).tail := by
  obtain ⟨n2, _⟩ := tokN_bd ht
  obtain ⟨k, rfl⟩ : ∃ k, n = k + 1 := ⟨n - 1, by omega⟩
  unfold rowsN
  rw [rowsF]
  cases Nat.beq s (k + 1 - s) <;> rfl

theorem recSt_two (up : Bool) (ht : tokN n s = true) : recSt up n s 2 = (1 * s % n, [1]) := by
  obtain ⟨n2, _, s1, sn, _⟩ := tokN_bd ht
  have e : 1 * s % n = s := by rw [Nat.one_mul, Nat.mod_eq_of_lt sn]
  have h0 : recSt up n s 1 = (if up then n else 0, []) := rfl
  rw [recSt_succ, h0, recStep, if_pos]
  · rw [e]; rfl
  · refine ⟨by omega, ?_⟩
    rw [e]
    cases up
    · show 0 < s; omega
    · show s < n; omega

theorem recA_rows (ht : tokN n s = true) : recL true n s = 1 :: onceF Row.p 1 (rowsN n s).tail ∧ ∃ p', (recL true n s).getLast? = some p' ∧ p' * s % n = 1 ∧ p' < n :=
  rows_up ht n 1 s 1 (n - s) [1] (RowInv.start ht) (by have := tokN_bd ht; omega) (recSt_two true ht) rfl

theorem recB_rows (ht : tokN n s = true) : recL false n s = 1 :: onceF Row.q 1 (rowsN n s).tail :=
  rows_down ht n 1 s 1 (n - s) [1] (RowInv.start ht) (by have := tokN_bd ht; omega) (recSt_two false ht)

theorem onceF_mem (f : Row → Nat) (rs : List Row) : ∀ last, ∀ r ∈ rs, f r = last ∨ f r ∈ onceF f last rs := by
  induction rs with
  | nil => intro last r hr; simp at hr
  | cons x rs ih =>
    intro last r hr
    rw [onceF]
    rcases List.mem_cons.1 hr with rfl | hr
    · by_cases c : f r = last
      · exact .inl c
      · rw [if_neg c]; simp
    · by_cases c : f x = last
      · rw [if_pos c]; exact ih last r hr
      · rw [if_neg c]
        rcases ih (f x) r hr with h | h
        · rw [h]; simp
        · right; simp [h]

theorem row_p_mem (ht : tokN n s = true) {r : Row} (h : r ∈ rowsN n s) : r.p ∈ recL true n s := by
  rw [(recA_rows ht).1]
  rw [rowsN_head ht] at h
  rcases List.mem_cons.1 h with rfl | h
  · simp
  · rcases onceF_mem Row.p _ 1 r h with e | e
    · rw [e]; simp
    · simp [e]

theorem row_q_mem (ht : tokN n s = true) {r : Row} (h : r ∈ rowsN n s) : r.q ∈ recL false n s := by
  rw [recB_rows ht]
  rw [rowsN_head ht] at h
  rcases List.mem_cons.1 h with rfl | h
  · simp
  · rcases onceF_mem Row.q _ 1 r h with e | e
    · rw [e]; simp
    · simp [e]

theorem back_pt (ht : tokN n s = true) {k : Nat} (h1 : 1 ≤ k) (h2 : k < n) : k * (n - s) % n = n - k * s % n := by
  have hb := back_points (tok_of_tokN ht) (k := (k : Int)) (by omega) (by omega)
  obtain ⟨n2, _, s1, sn, _⟩ := tokN_bd ht
  have e : ((n : Int) - s) = ((n - s : Nat) : Int) := by omega
  rw [pointF_yes (tok_of_tokN ht) (by omega) (by omega), pointF_yes (tok_back.trans (tok_of_tokN ht)) (by omega) (by omega), e] at hb
  have e1 : (k : Int) * (s : Int) % (n : Int) = ((k * s % n : Nat) : Int) := by simp
  have e2 : (k : Int) * ((n - s : Nat) : Int) % (n : Int) = ((k * (n - s) % n : Nat) : Int) := by simp
  rw [e1, e2] at hb
  omega

theorem rec_back (ht : tokN n s = true) : recL true n (n - s) = recL false n s := by
  have key : ∀ k, k ≤ n → (recSt true n (n - s) k).1 + (recSt false n s k).1 = n ∧ (recSt true n (n - s) k).2 = (recSt false n s k).2 := by
    intro k
    induction k with
    | zero => intro _; exact ⟨rfl, rfl⟩
    | succ k ih =>
      intro hk
      obtain ⟨a, b⟩ := ih (by omega)
      rw [recSt_succ, recSt_succ]
      unfold recStep
      by_cases h1 : 1 ≤ k
      · have hp := back_pt ht h1 (by omega)
        have hlt := Nat.mod_lt (k * s) (by omega : 0 < n)
        by_cases c : (recSt false n s k).1 < k * s % n
        · rw [if_pos ⟨h1, by show k * (n - s) % n < _; omega⟩, if_pos ⟨h1, c⟩]
          exact ⟨by omega, by rw [b]⟩
        · rw [if_neg (by rintro ⟨_, h⟩; have h' : k * (n - s) % n < (recSt true n (n - s) k).1 := h; omega), if_neg (by rintro ⟨_, h⟩; exact c h)]
          exact ⟨a, b⟩
      · rw [if_neg (fun h => h1 h.1), if_neg (fun h => h1 h.1)]
        exact ⟨a, b⟩
  exact (key n (Nat.le_refl _)).2

def memP (x : Nat) (rs : List Row) : Bool := rs.any (fun r => Nat.beq r.p x || Nat.beq r.q x)

def chkNear (n s : Nat) : Bool :=
  (nearN n s).all (fun x => Nat.ble 1 x && (Nat.ble x n && (Nat.beq x n || memP x (rowsN n s)))) &&
  ((match (nearN n s).getLast? with | some x => Nat.beq x n | none => false) && (Nat.ble 2 (nearN n s).length && (Nat.ble (nearN n s).length 9 &&
  (Nat.beq ((nearN n s).getD ((nearN n s).length - 2) 0 * s % n) 1 || Nat.beq ((n - (nearN n s).getD ((nearN n s).length - 2) 0) * s % n) 1))))

theorem chkNear_all : ((List.range 61).all fun n => (List.range n).all fun s => !tokN n s || chkNear n s) = true := by decide +kernel

/-- between near times none is nearer -/
def nearP (n x : Nat) : Nat := bif Nat.ble x (n - x) then x else n - x

def bestGo (n s : Nat) : List Nat → Bool
  | x :: y :: r => (List.range y).all (fun t => Nat.beq t 0 || (Nat.beq t x || Nat.ble (nearP n (x * s % n)) (nearP n (t * s % n)))) && bestGo n s (y :: r)
  | _ => true

def chkBest (n s : Nat) : Bool := bestGo n s (nearN n s).tail
end Go.Proofs.Ytokmmbmkfpfmgaa
