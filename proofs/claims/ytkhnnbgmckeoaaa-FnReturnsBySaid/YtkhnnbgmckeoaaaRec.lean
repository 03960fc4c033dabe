/- Plain numbers: the rows of the rule of near returns are the pairs of nearest points, and the records are told by them. -/
import Derived.Test.YtkhnnbgmckeoaaaMath3
import Derived.Test.YtkhnnbgmckeoaaaNear
set_option linter.unusedVariables false
namespace Go.Proofs.Ytkhnnbgmckeoaaa
open N

theorem ptN (n s k : Nat) : pt (n : Int) (s : Int) (k : Int) = ((k * s % n : Nat) : Int) := by simp [pt]

/-- both nearest points, as far as they stay the nearest ones -/
structure RowInv (n s p a q b : Nat) : Prop where
  p1 : 1 ≤ p
  q1 : 1 ≤ q
  le : p + q ≤ n
  hp : IsMin n s ((p + q : Nat) : Int) p
  hq : IsMax n s ((p + q : Nat) : Int) q
  ea : (a : Int) = pt n s p
  eb : (b : Int) + pt n s q = n

theorem big_sum {a b p q n : Int} (ha : 1 ≤ a) (hb : 1 ≤ b) (hp : 1 ≤ p) (hq : 1 ≤ q) (e : a * q + b * p = n) : p + q ≤ n ∧ (p + q = n → a = 1 ∧ b = 1) := by
  have h1 : q ≤ a * q := by
    have := Int.mul_le_mul_of_nonneg_right ha (by omega : 0 ≤ q)
    rwa [Int.one_mul] at this
  have h2 : p ≤ b * p := by
    have := Int.mul_le_mul_of_nonneg_right hb (by omega : 0 ≤ p)
    rwa [Int.one_mul] at this
  refine ⟨by omega, fun h => ⟨?_, ?_⟩⟩
  · by_cases c : a = 1
    · exact c
    · have h3 : 2 * q ≤ a * q := Int.mul_le_mul_of_nonneg_right (by omega : 2 ≤ a) (by omega : 0 ≤ q)
      omega
  · by_cases c : b = 1
    · exact c
    · have h3 : 2 * p ≤ b * p := Int.mul_le_mul_of_nonneg_right (by omega : 2 ≤ b) (by omega : 0 ≤ p)
      omega

variable {n s : Nat}

/-- the nearest points stay the nearest ones till both times together -/
theorem persist (ht : tokN n s = true) {m p q : Nat} (hm2 : 2 ≤ m) (hm : m ≤ n) (hp : IsMin n s m p) (hq : IsMax n s m q) :
    p + q ≤ n ∧ ∀ d, m + d ≤ p + q → IsMin n s ((m + d : Nat) : Int) p ∧ IsMax n s ((m + d : Nat) : Int) q := by
  have h := turns_of (tok_of_tokN ht)
  obtain ⟨n2, _, s1, sn, _⟩ := tokN_bd ht
  have hp1 := hp.1; have hq1 := hq.1
  have hp2 := hp.2.1; have hq2 := hq.2.1
  have key : ∀ d, m + d ≤ p + q → m + d ≤ n → IsMin n s ((m + d : Nat) : Int) p ∧ IsMax n s ((m + d : Nat) : Int) q := by
    intro d
    induction d with
    | zero => intro _ _; exact ⟨hp, hq⟩
    | succ d ih =>
      intro h1 h2
      obtain ⟨i1, i2⟩ := ih (by omega) (by omega)
      rcases near_step h (m := ((m + d : Nat) : Int)) (by omega) (by omega) i1 i2 with ⟨a, b⟩ | ⟨e, _⟩ | ⟨e, _⟩
      · rw [show ((m + (d + 1) : Nat) : Int) = ((m + d : Nat) : Int) + 1 by omega]
        exact ⟨a, b⟩
      · omega
      · omega
  have le : p + q ≤ n := by
    by_cases c : p + q ≤ n
    · exact c
    · obtain ⟨i1, i2⟩ := key (n - m) (by omega) (by omega)
      rw [show m + (n - m) = n by omega] at i1 i2
      have hs := near_size h (by omega) (by omega) n (by omega) (by omega) i1 i2
      have a1 := h.pos (k := (p : Int)) hp1 (by have := i1.2.1; omega)
      have b1 := pt_hi (n := (n : Int)) s (q : Int) h.n2
      have := (big_sum (by omega : 1 ≤ pt n s p) (by omega : 1 ≤ (n : Int) - pt n s q) hp1 hq1 hs).1
      omega
  exact ⟨le, fun d hd => key d hd (by omega)⟩

theorem RowInv.size (ht : tokN n s = true) {p a q b : Nat} (h : RowInv n s p a q b) : (a : Int) * q + b * p = n ∧ 1 ≤ a ∧ 1 ≤ b := by
  have hT := turns_of (tok_of_tokN ht)
  obtain ⟨n2, _, s1, sn, _⟩ := tokN_bd ht
  have p1 := h.p1; have q1 := h.q1; have le := h.le
  have hs := near_size hT (by omega) (by omega) (p + q) (by omega) (by omega) h.hp h.hq
  have a1 := hT.pos (k := (p : Int)) (by omega) (by omega)
  have b1 := pt_hi (n := (n : Int)) s (q : Int) hT.n2
  rw [← h.ea] at hs a1
  rw [show (n : Int) - pt n s q = b by have := h.eb; omega] at hs
  exact ⟨hs, by omega, by have := h.eb; omega⟩

/-- in the last row both distances are 1, and both times together the size -/
theorem RowInv.last (ht : tokN n s = true) {p a q b : Nat} (h : RowInv n s p a q b) (e : a = b) : a = 1 ∧ p + q = n := by
  obtain ⟨hs, a1, b1⟩ := h.size ht
  have hT := turns_of (tok_of_tokN ht)
  subst e
  have hpt : pt n s ((p : Int) + q) = 0 := by
    have h1 := h.ea; have h2 := h.eb
    rcases pt_add (n := (n : Int)) s (p : Int) (q : Int) hT.n2 with ⟨c1, c2⟩ | ⟨c1, c2⟩ <;> omega
  have hpq : p + q = n := by
    by_cases c : p + q < n
    · have := hT.pos (k := (p : Int) + q) (by have := h.p1; omega) (by omega)
      omega
    · have := h.le; omega
  refine ⟨?_, hpq⟩
  have := (big_sum (a := a) (b := a) (p := p) (q := q) (n := n) (by omega) (by omega) (by have := h.p1; omega) (by have := h.q1; omega) hs).2 (by omega)
  omega

theorem RowInv.next (ht : tokN n s = true) {p a q b : Nat} (h : RowInv n s p a q b) (e : a ≠ b) :
    p + q < n ∧ (b < a → RowInv n s (p + q) (a - b) q b) ∧ (a < b → RowInv n s p a (p + q) (b - a)) := by
  obtain ⟨hs, a1, b1⟩ := h.size ht
  have hT := turns_of (tok_of_tokN ht)
  obtain ⟨n2, _, s1, sn, _⟩ := tokN_bd ht
  have p1 := h.p1; have q1 := h.q1; have le := h.le; have ea := h.ea; have eb := h.eb
  have lt : p + q < n := by
    by_cases c : p + q < n
    · exact c
    · have := (big_sum (by omega : 1 ≤ (a : Int)) (by omega : 1 ≤ (b : Int)) (by omega : 1 ≤ (p : Int)) (by omega : 1 ≤ (q : Int)) hs).2 (by omega)
      omega
  have hadd := pt_add (n := (n : Int)) s (p : Int) (q : Int) hT.n2
  rw [show (p : Int) + q = ((p + q : Nat) : Int) by omega] at hadd
  have hm := hT.pos (k := ((p + q : Nat) : Int)) (by omega) (by omega)
  refine ⟨lt, fun c => ?_, fun c => ?_⟩
  · -- the new point is the nearest above
    have hne : pt n s ((p + q : Nat) : Int) = pt n s p + pt n s q - n := by rcases hadd with ⟨x, y⟩ | ⟨x, y⟩ <;> omega
    rcases near_step hT (m := ((p + q : Nat) : Int)) (by omega) (by omega) h.hp h.hq with ⟨x, y⟩ | ⟨_, x, y, _⟩ | ⟨_, x, y, z⟩
    · have := x.2.2 ((p + q : Nat) : Int) (by omega) (by omega)
      have := pt_hi (n := (n : Int)) s (q : Int) hT.n2
      omega
    · rw [show ((p + q : Nat) : Int) + 1 = ((p + q + 1 : Nat) : Int) by omega] at x y
      obtain ⟨l2, k⟩ := persist ht (by omega) (by omega) x y
      obtain ⟨i1, i2⟩ := k (q - 1) (by omega)
      rw [show p + q + 1 + (q - 1) = p + q + q by omega] at i1 i2
      exact ⟨by omega, q1, l2, i1, i2, by omega, eb⟩
    · omega
  · have hne : pt n s ((p + q : Nat) : Int) = pt n s p + pt n s q := by rcases hadd with ⟨x, y⟩ | ⟨x, y⟩ <;> omega
    rcases near_step hT (m := ((p + q : Nat) : Int)) (by omega) (by omega) h.hp h.hq with ⟨x, y⟩ | ⟨_, x, y, z⟩ | ⟨_, x, y, _⟩
    · have := y.2.2 ((p + q : Nat) : Int) (by omega) (by omega)
      omega
    · omega
    · rw [show ((p + q : Nat) : Int) + 1 = ((p + q + 1 : Nat) : Int) by omega] at x y
      obtain ⟨l2, k⟩ := persist ht (by omega) (by omega) x y
      obtain ⟨i1, i2⟩ := k (p - 1) (by omega)
      rw [show p + q + 1 + (p - 1) = p + (p + q) by omega] at i1 i2
      exact ⟨p1, by omega, l2, i1, i2, ea, by omega⟩

theorem RowInv.start (ht : tokN n s = true) : RowInv n s 1 s 1 (n - s) := by
  have hT := turns_of (tok_of_tokN ht)
  obtain ⟨n2, _, s1, sn, _⟩ := tokN_bd ht
  have e1 : pt n s ((1 : Nat) : Int) = s := by
    rw [ptN, Nat.one_mul, Nat.mod_eq_of_lt sn]
  refine ⟨by omega, by omega, by omega, ?_, ?_, e1.symm, by rw [e1]; omega⟩
  · refine ⟨by omega, by omega, fun j j1 j2 => ?_⟩
    have : j = 1 := by omega
    subst this
    exact Int.le_refl _
  · refine ⟨by omega, by omega, fun j j1 j2 => ?_⟩
    rcases (by omega : j = 0 ∨ j = 1) with rfl | rfl
    · rw [pt0]; exact pt_lo _ _ hT.n2
    · exact Int.le_refl _

/-- no record above while the nearest point stays -/
theorem rec_stay_up {m d p : Nat} {acc : List Nat} (hm : 1 ≤ m) (h : recSt true n s m = (p * s % n, acc)) (hp : IsMin n s ((m + d : Nat) : Int) p) : recSt true n s (m + d) = (p * s % n, acc) := by
  have key : ∀ e, e ≤ d → recSt true n s (m + e) = (p * s % n, acc) := by
    intro e
    induction e with
    | zero => intro _; exact h
    | succ e ih =>
      intro he
      have i := ih (by omega)
      rw [show m + (e + 1) = (m + e) + 1 by omega, recSt_succ, i, recStep, if_neg]
      rintro ⟨_, c⟩
      have c' : (m + e) * s % n < p * s % n := c
      have := hp.2.2 ((m + e : Nat) : Int) (by omega) (by omega)
      rw [ptN, ptN] at this
      omega
  exact key d (Nat.le_refl _)

theorem rec_stay_down {m d q : Nat} {acc : List Nat} (h : recSt false n s m = (q * s % n, acc)) (hq : IsMax n s ((m + d : Nat) : Int) q) : recSt false n s (m + d) = (q * s % n, acc) := by
  have key : ∀ e, e ≤ d → recSt false n s (m + e) = (q * s % n, acc) := by
    intro e
    induction e with
    | zero => intro _; exact h
    | succ e ih =>
      intro he
      have i := ih (by omega)
      rw [show m + (e + 1) = (m + e) + 1 by omega, recSt_succ, i, recStep, if_neg]
      rintro ⟨_, c⟩
      have c' : q * s % n < (m + e) * s % n := c
      have := hq.2.2 ((m + e : Nat) : Int) (by omega) (by omega)
      rw [ptN, ptN] at this
      omega
  exact key d (Nat.le_refl _)

/-- each once, if it comes again at once -/
def onceF (f : Row → Nat) (last : Nat) : List Row → List Nat
  | [] => []
  | r :: rs => if f r = last then onceF f last rs else f r :: onceF f (f r) rs

theorem beq_no {a b : Nat} (h : a ≠ b) : Nat.beq a b = false := by
  cases e : Nat.beq a b with
  | false => rfl
  | true => exact absurd (Nat.eq_of_beq_eq_true e) h

theorem rowsF_stop {f p a q b : Nat} (h : a = b) : rowsF f p a q b = [⟨p, a, q, b⟩] := by
  cases f with
  | zero => rfl
  | succ f => rw [rowsF, (by simp [h] : Nat.beq a b = true)]; rfl

theorem rowsF_up {f p a q b : Nat} (h : b < a) : rowsF (f + 1) p a q b = ⟨p, a, q, b⟩ :: rowsF f (p + q) (a - b) q b := by
  have h1 : Nat.beq a b = false := beq_no (by omega)
  have h2 : Nat.blt b a = true := by simp [Nat.blt_eq, h]
  rw [rowsF, h1, h2]; rfl

theorem rowsF_down {f p a q b : Nat} (h : a < b) : rowsF (f + 1) p a q b = ⟨p, a, q, b⟩ :: rowsF f p a (p + q) (b - a) := by
  have h1 : Nat.beq a b = false := beq_no (by omega)
  have h2 : Nat.blt b a = false := by
    cases e : Nat.blt b a with
    | false => rfl
    | true => rw [Nat.blt_eq] at e; omega
  rw [rowsF, h1, h2]; rfl

theorem rows_up (ht : tokN n s = true) : ∀ (f p a q b : Nat) (acc : List Nat), RowInv n s p a q b → a + b ≤ f + 1 → recSt true n s (p + q) = (p * s % n, acc) → acc.getLast? = some p →
    (recSt true n s n).2 = acc ++ onceF Row.p p (rowsF f p a q b).tail ∧ ∃ p', (recSt true n s n).2.getLast? = some p' ∧ p' * s % n = 1 ∧ p' < n := by
  intro f
  induction f with
  | zero =>
    intro p a q b acc h hf hr hl
    obtain ⟨_, a1, b1⟩ := h.size ht
    omega
  | succ f ih =>
    intro p a q b acc h hf hr hl
    obtain ⟨_, a1, b1⟩ := h.size ht
    have ea := h.ea
    rw [ptN] at ea
    by_cases e : a = b
    · obtain ⟨e1, e2⟩ := h.last ht e
      rw [rowsF_stop e]
      rw [e2] at hr
      rw [hr]
      have := h.q1
      exact ⟨by simp [onceF], p, hl, by omega, by omega⟩
    · obtain ⟨lt, h1, h2⟩ := h.next ht e
      by_cases c : b < a
      · rw [rowsF_up c]
        have hn := h1 c
        have ea' := hn.ea
        rw [ptN] at ea'
        have hr1 : recSt true n s (p + q + 1) = ((p + q) * s % n, acc ++ [p + q]) := by
          rw [recSt_succ, hr, recStep, if_pos]
          refine ⟨by have := h.p1; omega, ?_⟩
          show (p + q) * s % n < p * s % n
          omega
        have hr2 := rec_stay_up (d := q - 1) (by omega) hr1 (by rw [show p + q + 1 + (q - 1) = p + q + q by have := h.q1; omega]; exact hn.hp)
        rw [show p + q + 1 + (q - 1) = p + q + q by have := h.q1; omega] at hr2
        obtain ⟨i1, i2⟩ := ih (p + q) (a - b) q b (acc ++ [p + q]) hn (by omega) hr2 (by simp)
        refine ⟨?_, i2⟩
        rw [i1, List.tail_cons]
        have hh : rowsF f (p + q) (a - b) q b = ⟨p + q, a - b, q, b⟩ :: (rowsF f (p + q) (a - b) q b).tail := by
          cases f with
          | zero => rfl
          | succ f =>
            rw [rowsF]
            cases Nat.beq (a - b) b <;> rfl
        rw [hh, onceF, if_neg (by show ¬ p + q = p; have := h.q1; omega)]
        simp
      · have c' : a < b := by omega
        rw [rowsF_down c']
        have hn := h2 c'
        have hr2 := rec_stay_up (d := p) (by have := h.p1; omega) hr (by rw [show p + q + p = p + (p + q) by omega]; exact hn.hp)
        rw [show p + q + p = p + (p + q) by omega] at hr2
        obtain ⟨i1, i2⟩ := ih p a (p + q) (b - a) acc hn (by omega) hr2 hl
        refine ⟨?_, i2⟩
        rw [i1, List.tail_cons]
        have hh : rowsF f p a (p + q) (b - a) = ⟨p, a, p + q, b - a⟩ :: (rowsF f p a (p + q) (b - a)).tail := by
          cases f with
          | zero => rfl
          | succ f =>
            rw [rowsF]
            cases Nat.beq a (b - a) <;> rfl
        rw [hh, onceF, if_pos rfl]
        simp

theorem rows_down (ht : tokN n s = true) : ∀ (f p a q b : Nat) (acc : List Nat), RowInv n s p a q b → a + b ≤ f + 1 → recSt false n s (p + q) = (q * s % n, acc) →
    (recSt false n s n).2 = acc ++ onceF Row.q q (rowsF f p a q b).tail := by
  intro f
  induction f with
  | zero =>
    intro p a q b acc h hf hr
    obtain ⟨_, a1, b1⟩ := h.size ht
    omega
  | succ f ih =>
    intro p a q b acc h hf hr
    obtain ⟨_, a1, b1⟩ := h.size ht
    have eb := h.eb
    rw [ptN] at eb
    by_cases e : a = b
    · obtain ⟨e1, e2⟩ := h.last ht e
      rw [rowsF_stop e]
      rw [e2] at hr
      rw [hr]
      simp [onceF]
    · obtain ⟨lt, h1, h2⟩ := h.next ht e
      by_cases c : b < a
      · rw [rowsF_up c]
        have hn := h1 c
        have hr2 := rec_stay_down (d := q) hr (by exact hn.hq)
        have i1 := ih (p + q) (a - b) q b acc hn (by omega) hr2
        rw [i1]
        have hh : rowsF f (p + q) (a - b) q b = ⟨p + q, a - b, q, b⟩ :: (rowsF f (p + q) (a - b) q b).tail := by
          cases f with
          | zero => rfl
          | succ f =>
            rw [rowsF]
            cases Nat.beq (a - b) b <;> rfl
        rw [List.tail_cons, hh, onceF, if_pos rfl]
        simp
      · have c' : a < b := by omega
        rw [rowsF_down c']
        have hn := h2 c'
        have eb' := hn.eb
        rw [ptN] at eb'
        have hr1 : recSt false n s (p + q + 1) = ((p + q) * s % n, acc ++ [p + q]) := by
          rw [recSt_succ, hr, recStep, if_pos]
          refine ⟨by have := h.p1; omega, ?_⟩
          show q * s % n < (p + q) * s % n
          omega
        have hr2 := rec_stay_down (d := p - 1) hr1 (by rw [show p + q + 1 + (p - 1) = p + (p + q) by have := h.p1; omega]; exact hn.hq)
        rw [show p + q + 1 + (p - 1) = p + (p + q) by have := h.p1; omega] at hr2
        have i1 := ih p a (p + q) (b - a) (acc ++ [p + q]) hn (by omega) hr2
        rw [i1, List.tail_cons]
        have hh : rowsF f p a (p + q) (b - a) = ⟨p, a, p + q, b - a⟩ :: (rowsF f p a (p + q) (b - a)).tail := by
          cases f with
          | zero => rfl
          | succ f =>
            rw [rowsF]
            cases Nat.beq a (b - a) <;> rfl
        rw [hh, onceF, if_neg (by show ¬ p + q = q; have := h.p1; omega)]
        simp
end Go.Proofs.Ytkhnnbgmckeoaaa
