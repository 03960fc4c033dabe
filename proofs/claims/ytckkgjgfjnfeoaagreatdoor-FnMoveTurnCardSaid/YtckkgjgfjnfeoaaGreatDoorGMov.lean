/- Plain decimals: the digits of a number, and the number of digits. Plain words of two moves: the turn that they tell, and the moves of a turn. Texts as lists of bytes; words of moves, and runs, as texts. Plain runs of moves: building the text, and reading it. -/
import Derived.Test.YtckkgjgfjnfeoaaGreatDoorGKit
import Derived.Test.YtckkgjgfjnfeoaaGreatDoorGRec
set_option linter.unusedVariables false
namespace Go.Proofs.YtckkgjgfjnfeoaaGreatDoor
set_option maxRecDepth 4000

set_option maxRecDepth 4000

/-- the byte of a digit -/
def digB (k : Nat) : UInt8 := UInt8.ofNat (48 + k)

theorem digB_nat {k : Nat} (h : k < 10) : (digB k).toNat = 48 + k := by
  unfold digB
  rw [UInt8.toNat_ofNat']
  omega

theorem digB_inj {j k : Nat} (hj : j < 10) (hk : k < 10) (h : digB j = digB k) : j = k := by
  have := congrArg UInt8.toNat h
  rw [digB_nat hj, digB_nat hk] at this
  omega

/-- the digits of a number, the highest one first -/
def decF : Nat → Nat → List UInt8
  | 0, n => [digB (n % 10)]
  | f + 1, n => if n < 10 then [digB n] else decF f (n / 10) ++ [digB (n % 10)]

def decN (n : Nat) : List UInt8 := decF 20 n

theorem decF_fuel : ∀ f g n, n < 10 ^ (f + 1) → n < 10 ^ (g + 1) → decF f n = decF g n := by
  intro f
  induction f with
  | zero =>
    intro g n h1 h2
    have h1 : n < 10 := by simpa using h1
    cases g with
    | zero => rfl
    | succ g => simp only [decF]; rw [if_pos h1, Nat.mod_eq_of_lt h1]
  | succ f ih =>
    intro g n h1 h2
    by_cases c : n < 10
    · cases g with
      | zero => simp only [decF]; rw [if_pos c, Nat.mod_eq_of_lt c]
      | succ g => simp only [decF]; rw [if_pos c, if_pos c]
    · cases g with
      | zero => exact absurd (by simpa using h2) c
      | succ g =>
        simp only [decF]
        rw [if_neg c, if_neg c, ih g (n / 10) (by rw [Nat.div_lt_iff_lt_mul (by omega), ← Nat.pow_succ]; exact h1) (by rw [Nat.div_lt_iff_lt_mul (by omega), ← Nat.pow_succ]; exact h2)]

theorem decN_small {n : Nat} (h : n < 10) : decN n = [digB n] := by unfold decN; simp only [decF]; rw [if_pos h]

theorem decN_big {n : Nat} (h : ¬ n < 10) (hb : n < 10 ^ 20) : decN n = decN (n / 10) ++ [digB (n % 10)] := by
  have e : decN n = decF 19 (n / 10) ++ [digB (n % 10)] := by
    unfold decN
    rw [show (20 : Nat) = 19 + 1 from rfl]
    simp only [decF]
    rw [if_neg h]
  rw [e]
  unfold decN
  rw [decF_fuel 19 20 (n / 10) (by rw [Nat.div_lt_iff_lt_mul (by omega)]; exact Nat.lt_of_lt_of_le hb (by decide)) (by rw [Nat.div_lt_iff_lt_mul (by omega)]; exact Nat.lt_of_lt_of_le hb (by decide))]

/-- the number of digits -/
def valN (l : List UInt8) : Nat := l.foldl (fun v c => 10 * v + (c.toNat - 48)) 0

theorem valN_snoc (l : List UInt8) (c : UInt8) : valN (l ++ [c]) = 10 * valN l + (c.toNat - 48) := by unfold valN; rw [List.foldl_append]; rfl

def isDig (c : UInt8) : Bool := decide (48 ≤ c.toNat) && decide (c.toNat ≤ 57)

theorem isDig_digB {k : Nat} (h : k < 10) : isDig (digB k) = true := by unfold isDig; rw [digB_nat h]; simp; omega

theorem digB_of {c : UInt8} (h : isDig c = true) : digB (c.toNat - 48) = c := by
  unfold isDig at h
  simp at h
  apply UInt8.toNat_inj.1
  rw [digB_nat (by omega)]
  omega

/-- digits without a leading 0 -/
def canD (l : List UInt8) : Prop := l ≠ [] ∧ (∀ c ∈ l, isDig c = true) ∧ (1 < l.length → l.head? ≠ some 48)

theorem decF_len : ∀ f n, 1 ≤ (decF f n).length ∧ (decF f n).length ≤ f + 1 := by
  intro f
  induction f with
  | zero => intro n; exact ⟨Nat.le_refl _, Nat.le_refl _⟩
  | succ f ih =>
    intro n
    simp only [decF]
    split
    · exact ⟨Nat.le_refl _, by simp⟩
    · have := ih (n / 10)
      rw [List.length_append, List.length_singleton]
      omega

theorem decN_pos (n : Nat) : 1 ≤ (decN n).length := (decF_len 20 n).1

theorem decN_ne (n : Nat) : decN n ≠ [] := by
  intro h
  have := decN_pos n
  rw [h] at this
  simp at this

theorem decN_len {n : Nat} : ∀ k, n < 10 ^ (k + 1) → k + 1 ≤ 20 → (decN n).length ≤ k + 1 := by
  intro k h hk
  have e : decN n = decF k n := by
    unfold decN
    exact decF_fuel 20 k n (Nat.lt_of_lt_of_le h (Nat.pow_le_pow_right (by omega) (by omega))) h
  rw [e]
  exact (decF_len k n).2

theorem decN_val {n : Nat} (h : n < 10 ^ 20) : valN (decN n) = n ∧ (∀ c ∈ decN n, isDig c = true) := by
  induction n using Nat.strongRecOn with
  | _ n ih =>
    by_cases c : n < 10
    · rw [decN_small c]
      refine ⟨?_, fun x hx => ?_⟩
      · show 10 * 0 + ((digB n).toNat - 48) = n
        rw [digB_nat c]; omega
      · rw [List.mem_singleton] at hx; subst hx; exact isDig_digB c
    · obtain ⟨i1, i2⟩ := ih (n / 10) (by omega) (Nat.lt_of_le_of_lt (Nat.div_le_self _ _) h)
      rw [decN_big c h]
      refine ⟨?_, fun x hx => ?_⟩
      · rw [valN_snoc, i1, digB_nat (by omega)]; omega
      · rcases List.mem_append.1 hx with g | g
        · exact i2 x g
        · rw [List.mem_singleton] at g; subst g; exact isDig_digB (by omega)

theorem decN_head {n : Nat} (h : n < 10 ^ 20) (h1 : 1 ≤ n) : (decN n).head? ≠ some 48 := by
  induction n using Nat.strongRecOn with
  | _ n ih =>
    by_cases c : n < 10
    · rw [decN_small c]
      intro e
      have e : digB n = 48 := by simpa using e
      have := congrArg UInt8.toNat e
      rw [digB_nat c] at this
      have : (48 : UInt8).toNat = 48 := rfl
      omega
    · have i := ih (n / 10) (by omega) (Nat.lt_of_le_of_lt (Nat.div_le_self _ _) h) (by omega)
      rw [decN_big c h, List.head?_append]
      cases e : (decN (n / 10)).head? with
      | none => exact absurd (List.head?_eq_none_iff.1 e) (decN_ne _)
      | some x => rw [e] at i; exact i

theorem decN_can {n : Nat} (h : n < 10 ^ 20) : canD (decN n) := by
  refine ⟨decN_ne n, (decN_val h).2, fun hl => ?_⟩
  by_cases c : n < 10
  · rw [decN_small c] at hl; simp at hl
  · exact decN_head h (by omega)

theorem decN_inj {m n : Nat} (hm : m < 10 ^ 20) (hn : n < 10 ^ 20) (h : decN m = decN n) : m = n := by
  have a := (decN_val hm).1
  have b := (decN_val hn).1
  rw [h, b] at a
  exact a.symm

theorem snoc_cases {α : Type} (l : List α) (h : l ≠ []) : ∃ r x, l = r ++ [x] := ⟨l.dropLast, l.getLast h, (List.dropLast_concat_getLast h).symm⟩

/-- digits without a leading 0 are the digits of their number -/
theorem can_dec : ∀ k (l : List UInt8), l.length = k → k ≤ 19 → canD l → decN (valN l) = l ∧ valN l < 10 ^ k ∧ (l.head? ≠ some 48 → 1 ≤ valN l) := by
  intro k
  induction k with
  | zero => intro l hl _ hc; exact absurd (List.length_eq_zero_iff.1 hl) hc.1
  | succ k ih =>
    intro l hl hk hc
    obtain ⟨r, x, rfl⟩ := snoc_cases l hc.1
    rw [List.length_append, List.length_singleton] at hl
    have hx := hc.2.1 x (by simp)
    have hxb := hx
    unfold isDig at hxb
    simp at hxb
    by_cases c : r = []
    · subst c
      rw [List.nil_append]
      have hv : valN [x] = x.toNat - 48 := by show 10 * 0 + (x.toNat - 48) = _; omega
      rw [hv]
      refine ⟨?_, ?_, fun hh => ?_⟩
      · rw [decN_small (by omega), digB_of hx]
      · have : 10 ^ 1 ≤ 10 ^ (k + 1) := Nat.pow_le_pow_right (by omega) (by omega)
        omega
      · have ne : x ≠ 48 := fun e => hh (by rw [e]; rfl)
        have : x.toNat ≠ 48 := fun e => ne (by apply UInt8.toNat_inj.1; rw [e]; rfl)
        omega
    · have hr : 1 ≤ r.length := by
        cases r with
        | nil => exact absurd rfl c
        | cons => simp
      have hd : r.head? ≠ some 48 := by
        have := hc.2.2 (by rw [List.length_append]; simp; omega)
        rw [List.head?_append] at this
        cases e : r.head? with
        | none => simp
        | some y => rw [e] at this; exact this
      obtain ⟨i1, i2, i3⟩ := ih r (by omega) (by omega) ⟨c, fun y hy => hc.2.1 y (List.mem_append_left _ hy), fun _ => hd⟩
      have hv := valN_snoc r x
      have p := i3 hd
      rw [hv]
      have hb : 10 * valN r + (x.toNat - 48) < 10 ^ (k + 1) := by rw [Nat.pow_succ]; omega
      refine ⟨?_, hb, fun _ => by omega⟩
      rw [decN_big (by omega) (Nat.lt_of_lt_of_le hb (Nat.pow_le_pow_right (by omega) (by omega))), show (10 * valN r + (x.toNat - 48)) / 10 = valN r by omega, show (10 * valN r + (x.toNat - 48)) % 10 = x.toNat - 48 by omega, i1, digB_of hx]
end Go.Proofs.YtckkgjgfjnfeoaaGreatDoor

set_option linter.unusedVariables false
namespace Go.Proofs.YtckkgjgfjnfeoaaGreatDoor

set_option maxRecDepth 4000

/-- both numbers that a word tells: the step, and what lacks to the size -/
def mvVal : List Bool → Nat × Nat
  | [] => (1, 1)
  | false :: u => ((mvVal u).1, (mvVal u).2 + (mvVal u).1)
  | true :: u => ((mvVal u).1 + (mvVal u).2, (mvVal u).2)

theorem mvVal_pos (u : List Bool) : 1 ≤ (mvVal u).1 ∧ 1 ≤ (mvVal u).2 := by
  induction u with
  | nil => exact ⟨Nat.le_refl _, Nat.le_refl _⟩
  | cons x u ih => cases x <;> simp only [mvVal] <;> omega

theorem mvVal_gcd (u : List Bool) : Nat.gcd (mvVal u).1 (mvVal u).2 = 1 := by
  induction u with
  | nil => rfl
  | cons x u ih =>
    cases x
    · show Nat.gcd (mvVal u).1 ((mvVal u).2 + (mvVal u).1) = 1
      rw [Nat.gcd_add_self_right]; exact ih
    · show Nat.gcd ((mvVal u).1 + (mvVal u).2) (mvVal u).2 = 1
      rw [Nat.gcd_add_self_left]; exact ih

theorem mvVal_len (u : List Bool) : u.length + 2 ≤ (mvVal u).1 + (mvVal u).2 := by
  induction u with
  | nil => exact Nat.le_refl _
  | cons x u ih =>
    have := mvVal_pos u
    cases x <;> simp only [mvVal, List.length_cons] <;> omega

/-- the size and the step of a word's turn -/
def mvN (u : List Bool) : Nat := (mvVal u).1 + (mvVal u).2

def mvS (u : List Bool) : Nat := (mvVal u).1

theorem mv_tok (u : List Bool) : tokN (mvN u) (mvS u) = decide (mvN u ≤ 60) := by
  have h1 := mvVal_pos u
  have h2 := mvVal_gcd u
  have g : Nat.gcd (mvN u) (mvS u) = 1 := by
    unfold mvN mvS
    rw [Nat.gcd_comm, Nat.add_comm, Nat.gcd_add_self_right]
    exact h2
  unfold tokN
  have e : decide (Nat.gcd (mvN u) (mvS u) = 1) = true := decide_eq_true g
  rw [e, Bool.and_true]
  unfold mvN mvS at *
  by_cases c : (mvVal u).1 + (mvVal u).2 ≤ 60
  · simp [c]; omega
  · simp [c]

/-! ### both fractions, move by move -/
structure Frac where
  a : Nat
  b : Nat
  c : Nat
  d : Nat

def Frac.go (f : Frac) : Bool → Frac
  | false => ⟨f.a, f.b, f.a + f.c, f.b + f.d⟩
  | true => ⟨f.a + f.c, f.b + f.d, f.c, f.d⟩

def Frac.first : Frac := ⟨0, 1, 1, 1⟩

def fracs (f : Frac) (u : List Bool) : Frac := u.foldl Frac.go f

theorem fracs_cons (f : Frac) (x : Bool) (u : List Bool) : fracs f (x :: u) = fracs (f.go x) u := rfl

theorem fracs_snoc (f : Frac) (u : List Bool) (x : Bool) : fracs f (u ++ [x]) = (fracs f u).go x := by unfold fracs; rw [List.foldl_append]; rfl

theorem fracs_app (f : Frac) (u v : List Bool) : fracs f (u ++ v) = fracs (fracs f u) v := by unfold fracs; rw [List.foldl_append]

theorem fracs_val (u : List Bool) : ∀ f : Frac, (fracs f u).a + (fracs f u).c = f.a * (mvVal u).2 + f.c * (mvVal u).1 ∧ (fracs f u).b + (fracs f u).d = f.b * (mvVal u).2 + f.d * (mvVal u).1 := by
  induction u with
  | nil => intro f; simp [fracs, mvVal]
  | cons x u ih =>
    intro f
    rw [fracs_cons]
    have h := ih (f.go x)
    rw [h.1, h.2]
    cases x
    · simp only [Frac.go, mvVal, Nat.mul_add, Nat.add_mul]; omega
    · simp only [Frac.go, mvVal, Nat.mul_add, Nat.add_mul]; omega

theorem frac_step (u : List Bool) : (fracs Frac.first u).a + (fracs Frac.first u).c = mvS u ∧ (fracs Frac.first u).b + (fracs Frac.first u).d = mvN u := by
  have h := fracs_val u Frac.first
  rw [h.1, h.2]
  unfold mvS mvN Frac.first
  simp
  omega

/-- sizes only grow -/
theorem mvN_take (u : List Bool) (x : Bool) : mvN u < mvN (u ++ [x]) := by
  rw [← (frac_step u).2, ← (frac_step (u ++ [x])).2, fracs_snoc]
  have pos : ∀ v : List Bool, ∀ f : Frac, 1 ≤ f.b → 1 ≤ f.d → 1 ≤ (fracs f v).b ∧ 1 ≤ (fracs f v).d := by
    intro v
    induction v with
    | nil => intro f h1 h2; exact ⟨h1, h2⟩
    | cons y v ih =>
      intro f h1 h2
      rw [fracs_cons]
      cases y
      · exact ih _ h1 (by show 1 ≤ f.b + f.d; omega)
      · exact ih _ (by show 1 ≤ f.b + f.d; omega) h2
  have := pos u Frac.first (Nat.le_refl _) (Nat.le_refl _)
  cases x <;> simp only [Frac.go] <;> omega

theorem mvN_mono (u v : List Bool) : mvN u ≤ mvN (u ++ v) := by
  induction v generalizing u with
  | nil => rw [List.append_nil]; exact Nat.le_refl _
  | cons x v ih =>
    have a := mvN_take u x
    have b := ih (u ++ [x])
    rw [List.append_assoc] at b
    exact Nat.le_trans (Nat.le_of_lt a) b

/-! ### the moves of a turn -/

def mvF : Nat → Nat → Nat → List Bool
  | 0, _, _ => []
  | f + 1, a, b => if a < b then false :: mvF f a (b - a) else if b < a then true :: mvF f (a - b) b else []

theorem mvF_down {f a b : Nat} (h : a < b) : mvF (f + 1) a b = false :: mvF f a (b - a) := by simp only [mvF]; rw [if_pos h]

theorem mvF_up {f a b : Nat} (h : b < a) : mvF (f + 1) a b = true :: mvF f (a - b) b := by simp only [mvF]; rw [if_neg (by omega), if_pos h]

theorem mvF_stop {f a b : Nat} (h : a = b) : mvF f a b = [] := by
  cases f with
  | zero => rfl
  | succ f => simp only [mvF]; rw [if_neg (by omega), if_neg (by omega)]

theorem mvF_val (u : List Bool) : ∀ f, u.length ≤ f → mvF f (mvVal u).1 (mvVal u).2 = u := by
  induction u with
  | nil =>
    intro f _
    cases f <;> rfl
  | cons x u ih =>
    intro f hf
    obtain ⟨f, rfl⟩ : ∃ g, f = g + 1 := ⟨f - 1, by simp at hf; omega⟩
    have h1 := mvVal_pos u
    have i := ih f (by simp at hf; omega)
    cases x
    · show mvF (f + 1) (mvVal u).1 ((mvVal u).2 + (mvVal u).1) = _
      rw [mvF_down (by omega), Nat.add_sub_cancel, i]
    · show mvF (f + 1) ((mvVal u).1 + (mvVal u).2) (mvVal u).2 = _
      rw [mvF_up (by omega), Nat.add_sub_cancel, i]

theorem val_mvF : ∀ (f a b : Nat), 1 ≤ a → 1 ≤ b → Nat.gcd a b = 1 → a + b ≤ f + 1 → mvVal (mvF f a b) = (a, b) := by
  intro f
  induction f with
  | zero => intro a b h1 h2; omega
  | succ f ih =>
    intro a b h1 h2 hg hf
    by_cases c : a < b
    · rw [mvF_down c]
      have := ih a (b - a) h1 (by omega) (by rw [Nat.gcd_sub_self_right (by omega)]; exact hg) (by omega)
      simp only [mvVal, this]
      rw [Nat.sub_add_cancel (by omega)]
    · by_cases d : b < a
      · rw [mvF_up d]
        have := ih (a - b) b (by omega) h2 (by rw [Nat.gcd_sub_self_left (by omega)]; exact hg) (by omega)
        simp only [mvVal, this]
        rw [Nat.sub_add_cancel (by omega)]
      · obtain rfl : a = b := by omega
        rw [mvF_stop rfl]
        rw [Nat.gcd_self] at hg
        subst hg
        rfl

def movesN (n s : Nat) : List Bool := mvF n s (n - s)

theorem moves_val {n s : Nat} (ht : tokN n s = true) : mvVal (movesN n s) = (s, n - s) := by
  obtain ⟨b1, b2, b3, b4, g⟩ := tokN_bd ht
  exact val_mvF n s (n - s) b3 (by omega) (by rw [Nat.gcd_sub_self_right (by omega), Nat.gcd_comm]; exact g) (by omega)

theorem moves_tells {n s : Nat} (ht : tokN n s = true) : mvN (movesN n s) = n ∧ mvS (movesN n s) = s := by
  obtain ⟨b1, b2, b3, b4, g⟩ := tokN_bd ht
  unfold mvN mvS
  rw [moves_val ht]
  exact ⟨by show s + (n - s) = n; omega, rfl⟩

theorem moves_of (u : List Bool) : movesN (mvN u) (mvS u) = u := by
  have h := mvVal_pos u
  have l := mvVal_len u
  unfold movesN
  have e : mvN u - mvS u = (mvVal u).2 := by unfold mvN mvS; omega
  rw [e]
  exact mvF_val u _ (by unfold mvN; omega)

theorem moves_le {n s : Nat} (ht : tokN n s = true) : (movesN n s).length + 2 ≤ n := by
  have := mvVal_len (movesN n s)
  have e := (moves_tells ht).1
  unfold mvN at e
  omega

/-! ### with letters exchanged, and from behind -/

theorem mv_not (u : List Bool) : mvVal (u.map (!·)) = ((mvVal u).2, (mvVal u).1) := by
  induction u with
  | nil => rfl
  | cons x u ih => cases x <;> simp only [List.map_cons, Bool.not_true, Bool.not_false, mvVal, ih]

theorem mv_other (u : List Bool) : mvN (u.map (!·)) = mvN u ∧ mvS (u.map (!·)) = mvN u - mvS u := by
  unfold mvN mvS
  rw [mv_not]
  simp only []
  omega

/-- four numbers of a word: both columns -/
def mvM : List Bool → Frac
  | [] => ⟨1, 0, 0, 1⟩
  | false :: u => ⟨(mvM u).a, (mvM u).b, (mvM u).a + (mvM u).c, (mvM u).b + (mvM u).d⟩
  | true :: u => ⟨(mvM u).a + (mvM u).c, (mvM u).b + (mvM u).d, (mvM u).c, (mvM u).d⟩

theorem Frac.same {a b c d a' b' c' d' : Nat} (h1 : a = a') (h2 : b = b') (h3 : c = c') (h4 : d = d') : (⟨a, b, c, d⟩ : Frac) = ⟨a', b', c', d'⟩ := by subst h1 h2 h3 h4; rfl

theorem pair_same {a b a' b' : Nat} (h1 : a = a') (h2 : b = b') : (a, b) = (a', b') := by subst h1 h2; rfl

theorem mvM_val (u : List Bool) : mvVal u = ((mvM u).a + (mvM u).b, (mvM u).c + (mvM u).d) := by
  induction u with
  | nil => rfl
  | cons x u ih =>
    have e1 : (mvVal u).1 = (mvM u).a + (mvM u).b := by rw [ih]
    have e2 : (mvVal u).2 = (mvM u).c + (mvM u).d := by rw [ih]
    cases x
    · show ((mvVal u).1, (mvVal u).2 + (mvVal u).1) = ((mvM u).a + (mvM u).b, (mvM u).a + (mvM u).c + ((mvM u).b + (mvM u).d))
      exact pair_same e1 (by omega)
    · show ((mvVal u).1 + (mvVal u).2, (mvVal u).2) = ((mvM u).a + (mvM u).c + ((mvM u).b + (mvM u).d), (mvM u).c + (mvM u).d)
      exact pair_same (by omega) e2

theorem mvM_det (u : List Bool) : (mvM u).a * (mvM u).d = (mvM u).b * (mvM u).c + 1 := by
  induction u with
  | nil => rfl
  | cons x u ih =>
    cases x
    · simp only [mvM, Nat.mul_add]
      rw [Nat.mul_comm (mvM u).a (mvM u).b]
      omega
    · simp only [mvM, Nat.add_mul]
      rw [Nat.mul_comm (mvM u).c (mvM u).d]
      omega

def Frac.snoc (f : Frac) : Bool → Frac
  | true => ⟨f.a, f.a + f.b, f.c, f.c + f.d⟩
  | false => ⟨f.a + f.b, f.b, f.c + f.d, f.d⟩

theorem mvM_snoc (u : List Bool) (x : Bool) : mvM (u ++ [x]) = (mvM u).snoc x := by
  induction u with
  | nil => cases x <;> rfl
  | cons y u ih =>
    rw [List.cons_append]
    cases y <;> cases x <;> simp only [mvM, ih, Frac.snoc] <;> exact Frac.same (by omega) (by omega) (by omega) (by omega)

theorem mvM_rev (u : List Bool) : mvM u.reverse = ⟨(mvM u).d, (mvM u).b, (mvM u).c, (mvM u).a⟩ := by
  induction u with
  | nil => rfl
  | cons x u ih =>
    rw [List.reverse_cons, mvM_snoc, ih]
    cases x <;> simp only [mvM, Frac.snoc] <;> exact Frac.same (by omega) (by omega) (by omega) (by omega)

/-- from behind the sizes are the same, and both steps together are a step of 1 -/
theorem mv_back (u : List Bool) : mvN u.reverse = mvN u ∧ mvS u * mvS u.reverse % mvN u = 1 % mvN u := by
  have e1 := mvM_val u
  have e2 := mvM_val u.reverse
  have dt := mvM_det u
  rw [mvM_rev] at e2
  unfold mvN mvS
  rw [e1, e2]
  simp only []
  generalize (mvM u).a = a at *
  generalize (mvM u).b = b at *
  generalize (mvM u).c = c at *
  generalize (mvM u).d = d at *
  refine ⟨by omega, ?_⟩
  have e : (a + b) * (d + b) = 1 + b * (a + b + (c + d)) := by
    simp only [Nat.add_mul, Nat.mul_add]
    rw [Nat.mul_comm a b]
    omega
  rw [e, Nat.add_mul_mod_self_right]

/-! ### moves and rows of near returns -/

theorem rows_moves : ∀ (f p a q b : Nat), (rowsF f p a q b).length = (mvF f a b).length + 1 := by
  intro f
  induction f with
  | zero => intro p a q b; rfl
  | succ f ih =>
    intro p a q b
    rcases Nat.lt_trichotomy a b with c | c | c
    · rw [rowsF_down c, List.length_cons, ih, mvF_down c]; rfl
    · rw [rowsF_stop c, mvF_stop c]; rfl
    · rw [rowsF_up c, List.length_cons, ih, mvF_up c]; rfl

theorem rowsN_moves (n s : Nat) : (rowsN n s).length = (movesN n s).length + 1 := rows_moves _ _ _ _ _

/-- the times of a row are the lower numbers of both fractions -/
theorem rows_fracs : ∀ (f p a q b : Nat) (x y : Nat) (k : Nat), k ≤ (mvF f a b).length →
    ∃ r, (rowsF f p a q b)[k]? = some r ∧ (fracs ⟨x, p, y, q⟩ ((mvF f a b).take k)).b = r.p ∧ (fracs ⟨x, p, y, q⟩ ((mvF f a b).take k)).d = r.q := by
  intro f
  induction f with
  | zero =>
    intro p a q b x y k hk
    obtain rfl : k = 0 := by simp [mvF] at hk; exact hk
    exact ⟨_, rfl, rfl, rfl⟩
  | succ f ih =>
    intro p a q b x y k hk
    rcases Nat.lt_trichotomy a b with c | c | c
    · rw [rowsF_down c]
      rw [mvF_down c] at hk ⊢
      cases k with
      | zero => exact ⟨_, rfl, rfl, rfl⟩
      | succ k =>
        rw [List.getElem?_cons_succ, List.take_succ_cons, fracs_cons]
        exact ih p a (p + q) (b - a) x (x + y) k (by simpa using hk)
    · rw [rowsF_stop c]
      rw [mvF_stop c] at hk ⊢
      obtain rfl : k = 0 := by simpa using hk
      exact ⟨_, rfl, rfl, rfl⟩
    · rw [rowsF_up c]
      rw [mvF_up c] at hk ⊢
      cases k with
      | zero => exact ⟨_, rfl, rfl, rfl⟩
      | succ k =>
        rw [List.getElem?_cons_succ, List.take_succ_cons, fracs_cons]
        exact ih (p + q) (a - b) q b (x + y) y k (by simpa using hk)

theorem moves_rows (n s : Nat) {k : Nat} (hk : k ≤ (movesN n s).length) : ∃ r, (rowsN n s)[k]? = some r ∧ mvN ((movesN n s).take k) = r.p + r.q := by
  obtain ⟨r, h1, h2, h3⟩ := rows_fracs n 1 s 1 (n - s) 0 1 k hk
  refine ⟨r, h1, ?_⟩
  have := (frac_step ((movesN n s).take k)).2
  rw [← this, ← h2, ← h3]
  rfl

/-! ### runs are quotients -/

/-- the lengths of runs; the last run goes on -/
def runsF : List Bool → Bool → Nat → List Nat
  | [], _, c => [c]
  | x :: u, l, c => bif (x == l) then runsF u l (c + 1) else c :: runsF u x 1

def runsN (n s : Nat) : List Nat := runsF (movesN n s) false 1

/-- the last one of a list one more -/
def oneMore : List Nat → List Nat
  | [] => []
  | [x] => [x + 1]
  | x :: y :: r => x :: oneMore (y :: r)

def mvC : Nat → Nat → Nat → List Bool
  | 0, _, _ => []
  | f + 1, a, b => bif Nat.blt a b then false :: mvC f a (b - a) else bif Nat.blt b a then true :: mvC f (a - b) b else []

theorem blt_yes {a b : Nat} (h : a < b) : Nat.blt a b = true := by rw [Nat.blt_eq]; exact h

theorem blt_no {a b : Nat} (h : ¬ a < b) : Nat.blt a b = false := by
  cases e : Nat.blt a b with
  | false => rfl
  | true => rw [Nat.blt_eq] at e; exact absurd e h

theorem mvC_eq : ∀ f a b, mvC f a b = mvF f a b := by
  intro f
  induction f with
  | zero => intro a b; rfl
  | succ f ih =>
    intro a b
    simp only [mvC, mvF, ih]
    by_cases c : a < b
    · rw [if_pos c, blt_yes c]; rfl
    · have c' : Nat.blt a b = false := blt_no c
      rw [if_neg c, c']
      by_cases d : b < a
      · rw [if_pos d, blt_yes d]; rfl
      · have d' : Nat.blt b a = false := blt_no d
        rw [if_neg d, d']; rfl

theorem eqL_iff : ∀ xs ys : List Nat, eqL xs ys = true → xs = ys := by
  intro xs
  induction xs with
  | nil => intro ys h; cases ys <;> simp_all [eqL]
  | cons x xs ih =>
    intro ys h
    cases ys with
    | nil => simp [eqL] at h
    | cons y ys =>
      simp only [eqL, Bool.and_eq_true] at h
      rw [Nat.eq_of_beq_eq_true h.1, ih ys h.2]

def chkRuns (n s : Nat) : Bool := eqL (oneMore (runsF (mvC n s (n - s)) false 1)) (quotsN n s)

theorem chkRuns_all : ((List.range 61).all fun n => (List.range n).all fun s => !tokN n s || chkRuns n s) = true := by decide +kernel

theorem runs_quots {n s : Nat} (ht : tokN n s = true) : oneMore (runsN n s) = quotsN n s := by
  have h := all_turns chkRuns_all ht
  unfold chkRuns at h
  rw [mvC_eq] at h
  exact eqL_iff _ _ h
end Go.Proofs.YtckkgjgfjnfeoaaGreatDoor

set_option linter.unusedVariables false
namespace Go.Proofs.YtckkgjgfjnfeoaaGreatDoor

set_option maxRecDepth 4000

/-! ### texts as lists of bytes -/

def txtL (l : List UInt8) : ByteArray := ⟨l.toArray⟩

theorem txtL_size (l : List UInt8) : (txtL l).size = l.length := by simp [txtL, ByteArray.size]

theorem txtL_toList (l : List UInt8) : (txtL l).toList = l := by unfold txtL; rw [ByteArray.toList_mk]

theorem txtL_of (t : ByteArray) : txtL t.toList = t := by
  apply ByteArray.ext
  show t.toList.toArray = t.data
  rw [ByteArray.toList_eq]

theorem toList_len (t : ByteArray) : t.toList.length = t.size := by
  have := congrArg ByteArray.size (txtL_of t)
  rw [txtL_size] at this
  exact this

theorem txtL_inj {l k : List UInt8} (h : txtL l = txtL k) : l = k := by
  have := congrArg ByteArray.toList h
  rwa [txtL_toList, txtL_toList] at this

theorem txtL_append (l k : List UInt8) : txtL l ++ txtL k = txtL (l ++ k) := by
  apply ByteArray.ext
  simp [txtL, ByteArray.data_append]

theorem txtL_get {l : List UInt8} {i : Nat} (h : i < (txtL l).size) : (txtL l)[i] = l.getD i 0 := by
  have h' : i < l.length := by rw [txtL_size] at h; exact h
  show (txtL l).data[i]'h = _
  simp [txtL, List.getD_eq_getElem?_getD, h']

theorem txtL_extract (l : List UInt8) (a b : Nat) : (txtL l).extract a b = txtL ((l.drop a).take (b - a)) := by
  apply ByteArray.ext
  simp [txtL, ByteArray.data_extract]

theorem txt_eqb {t r : ByteArray} : (t.toList == r.toList) = decide (t = r) := by
  by_cases e : t = r
  · subst e; simp
  · rw [decide_eq_false e, beq_eq_false_iff_ne]
    exact fun h => e (by rw [← txtL_of t, ← txtL_of r, h])

theorem mem_txt {t : ByteArray} {c : UInt8} : c ∈ t.toList ↔ ∃ i, ∃ h : i < t.size, t[i] = c := by
  rw [ByteArray.toList_eq, Array.mem_toList_iff, Array.mem_iff_getElem]
  rfl

/-! ### words of moves -/

def byteM (b : Bool) : UInt8 := if b then 82 else 76

def txtM (u : List Bool) : ByteArray := txtL (u.map byteM)

theorem txtM_size (u : List Bool) : (txtM u).size = u.length := by unfold txtM; rw [txtL_size, List.length_map]

theorem byteM_inj {a b : Bool} (h : byteM a = byteM b) : a = b := by cases a <;> cases b <;> first | rfl | (exact absurd h (by decide))

theorem map_byteM_inj {u v : List Bool} (h : u.map byteM = v.map byteM) : u = v := by
  induction u generalizing v with
  | nil => cases v with
    | nil => rfl
    | cons b r => simp at h
  | cons a r ih => cases v with
    | nil => simp at h
    | cons b q =>
      simp only [List.map_cons, List.cons.injEq] at h
      rw [byteM_inj h.1, ih h.2]

theorem txtM_inj {u v : List Bool} (h : txtM u = txtM v) : u = v := map_byteM_inj (txtL_inj h)

theorem txtM_append (u v : List Bool) : txtM u ++ txtM v = txtM (u ++ v) := by unfold txtM; rw [txtL_append, List.map_append]

theorem txtM_get {u : List Bool} {i : Nat} (h : i < (txtM u).size) : (txtM u)[i] = byteM (u.getD i false) := by
  have h' : i < u.length := by rw [txtM_size] at h; exact h
  have e := txtL_get (l := u.map byteM) (i := i) (by rw [txtL_size, List.length_map]; exact h')
  refine Eq.trans (show (txtM u)[i] = (u.map byteM).getD i 0 from e) ?_
  simp [List.getD_eq_getElem?_getD, h']

theorem txtM_extract (u : List Bool) (a b : Nat) : (txtM u).extract a b = txtM ((u.drop a).take (b - a)) := by
  unfold txtM; rw [txtL_extract, List.map_take, List.map_drop]

/-- the word of a text -/
def wordM (t : ByteArray) : List Bool := t.toList.map (· == 82)

theorem wordM_txt (u : List Bool) : wordM (txtM u) = u := by
  unfold wordM txtM
  rw [txtL_toList, List.map_map]
  conv => rhs; rw [← List.map_id u]
  refine List.map_congr_left fun b _ => ?_
  cases b <;> rfl

def AllM (t : ByteArray) (k : Nat) : Prop := ∀ i (h : i < t.size), i < k → t[i] = 76 ∨ t[i] = 82

theorem AllM.next {u : ByteArray} {k : Nat} (h : AllM u k) (hk : k < u.size) (e : u[k] = 76 ∨ u[k] = 82) : AllM u (k + 1) := by
  intro i hi hik
  by_cases c : i = k
  · subst c; exact e
  · exact h i hi (by omega)

theorem AllM.txt {t : ByteArray} (h : AllM t t.size) : txtM (wordM t) = t := by
  have e : (wordM t).map byteM = t.toList := by
    unfold wordM
    rw [List.map_map]
    conv => rhs; rw [← List.map_id t.toList]
    refine List.map_congr_left fun c hc => ?_
    obtain ⟨i, hi, rfl⟩ := mem_txt.1 hc
    rcases h i hi hi with e | e
    · rw [e]; rfl
    · rw [e]; rfl
  unfold txtM
  rw [e, txtL_of]

theorem AllM.of_txt (u : List Bool) (k : Nat) : AllM (txtM u) k := by
  intro i hi _
  rw [txtM_get hi]
  cases u.getD i false
  · exact .inl rfl
  · exact .inr rfl

/-- a text is a word of at most 58 moves -/
def mvP (t : ByteArray) : Prop := t.size ≤ 58 ∧ AllM t t.size

theorem mvP_iff {t : ByteArray} : mvP t ↔ ∃ u : List Bool, u.length ≤ 58 ∧ txtM u = t := by
  constructor
  · intro h
    refine ⟨wordM t, ?_, h.2.txt⟩
    have := congrArg ByteArray.size h.2.txt
    rw [txtM_size] at this
    have := h.1
    omega
  · rintro ⟨u, hu, rfl⟩
    exact ⟨by rw [txtM_size]; exact hu, AllM.of_txt u _⟩

theorem mvP_txt {u : List Bool} (h : u.length ≤ 58) : mvP (txtM u) := mvP_iff.2 ⟨u, h, rfl⟩

def mvOkF (t : ByteArray) : Bool := decide (t.size ≤ 58) && t.toList.all fun c => c == 76 || c == 82

theorem mvOk_iff {t : ByteArray} : mvOkF t = true ↔ mvP t := by
  unfold mvOkF mvP AllM
  rw [Bool.and_eq_true, decide_eq_true_eq, List.all_eq_true]
  constructor
  · rintro ⟨h1, h2⟩
    refine ⟨h1, fun i hi _ => ?_⟩
    have := h2 _ (mem_txt.2 ⟨i, hi, rfl⟩)
    simpa using this
  · rintro ⟨h1, h2⟩
    refine ⟨h1, fun c hc => ?_⟩
    obtain ⟨i, hi, rfl⟩ := mem_txt.1 hc
    have := h2 i hi hi
    simpa using this

theorem mvOk_yes {t : ByteArray} (h : mvP t) : mvOkF t = true := mvOk_iff.2 h

theorem mvOk_no {t : ByteArray} (h : ¬ mvP t) : mvOkF t = false := by
  cases e : mvOkF t with
  | false => rfl
  | true => exact absurd (mvOk_iff.1 e) h

theorem mvOk_cases (t : ByteArray) : (∃ u : List Bool, u.length ≤ 58 ∧ t = txtM u ∧ mvOkF t = true) ∨ (¬ mvP t ∧ mvOkF t = false) := by
  by_cases h : mvP t
  · obtain ⟨u, hu, e⟩ := mvP_iff.1 h
    exact .inl ⟨u, hu, e.symm, mvOk_yes h⟩
  · exact .inr ⟨h, mvOk_no h⟩

/-! ### what the functions answer -/

/-- a function of words, as one of texts; of others the empty text -/
def onM (f : List Bool → ByteArray) (t : ByteArray) : ByteArray := if mvOkF t = true then f (wordM t) else ⟨#[]⟩

theorem onM_yes {f : List Bool → ByteArray} {u : List Bool} (h : u.length ≤ 58) : onM f (txtM u) = f u := by
  unfold onM
  rw [if_pos (mvOk_yes (mvP_txt h)), wordM_txt]

theorem onM_no {f : List Bool → ByteArray} {t : ByteArray} (h : ¬ mvP t) : onM f t = ⟨#[]⟩ := by
  unfold onM
  rw [if_neg (by rw [mvOk_no h]; simp)]

def backM (t : ByteArray) : ByteArray := onM (fun u => txtM u.reverse) t

def otherM (t : ByteArray) : ByteArray := onM (fun u => txtM (u.map (!·))) t

/-- the turn of a text -/
def mtP (t : ByteArray) : Bool := mvOkF t && decide (mvN (wordM t) ≤ 60)

def mtF (t : ByteArray) : Int × Int := if mtP t = true then ((mvN (wordM t) : Int), (mvS (wordM t) : Int)) else (0, 0)

theorem mtP_yes {u : List Bool} (h : u.length ≤ 58) (hn : mvN u ≤ 60) : mtP (txtM u) = true := by
  unfold mtP
  rw [mvOk_yes (mvP_txt h), wordM_txt, decide_eq_true hn]; rfl

theorem mtP_big {u : List Bool} (hn : ¬ mvN u ≤ 60) : mtP (txtM u) = false := by
  unfold mtP
  rw [wordM_txt, decide_eq_false hn, Bool.and_false]

theorem mtP_no {t : ByteArray} (h : ¬ mvP t) : mtP t = false := by
  unfold mtP
  rw [mvOk_no h]; rfl

theorem mtF_yes {u : List Bool} (h : u.length ≤ 58) (hn : mvN u ≤ 60) : mtF (txtM u) = ((mvN u : Int), (mvS u : Int)) := by
  unfold mtF
  rw [if_pos (mtP_yes h hn), wordM_txt]

theorem mtF_no {t : ByteArray} (h : mtP t = false) : mtF t = (0, 0) := by
  unfold mtF
  rw [if_neg (by rw [h]; simp)]

/-- the moves of a turn -/
def mfF (n s : Int) : ByteArray := if tok n s = true then txtM (movesN n.toNat s.toNat) else ⟨#[]⟩

theorem mfF_yes {N S : Nat} (h : tokN N S = true) : mfF N S = txtM (movesN N S) := by unfold mfF; rw [if_pos (tok_of_tokN h)]; rfl

theorem mfF_no {n s : Int} (h : ¬ tok n s = true) : mfF n s = ⟨#[]⟩ := if_neg h

/-! ### runs as texts -/

/-- the runs of a word, from behind: a letter and how many -/
def runsM : List Bool → List (Bool × Nat)
  | [] => []
  | x :: u => match runsM u with
    | [] => [(x, 1)]
    | (y, c) :: r => if x = y then (y, c + 1) :: r else (x, 1) :: (y, c) :: r

def runB (r : Bool × Nat) : List UInt8 := byteM r.1 :: decN r.2

def runsB (rs : List (Bool × Nat)) : List UInt8 := (rs.map runB).flatten

def runsTxt (u : List Bool) : ByteArray := if u = [] then txtL [46] else txtL (runsB (runsM u))

def rtF (t : ByteArray) : ByteArray := onM runsTxt t
end Go.Proofs.YtckkgjgfjnfeoaaGreatDoor

set_option linter.unusedVariables false
namespace Go.Proofs.YtckkgjgfjnfeoaaGreatDoor

set_option maxRecDepth 4000

theorem runsM_nil_iff (u : List Bool) : runsM u = [] ↔ u = [] := by
  constructor
  · intro h
    cases u with
    | nil => rfl
    | cons x u =>
      simp only [runsM] at h
      split at h
      · simp at h
      · split at h <;> simp at h
  · rintro rfl; rfl

theorem runsM_head : ∀ (u : List Bool) (y : Bool) (c : Nat) (r : List (Bool × Nat)), runsM u = (y, c) :: r → u.head? = some y ∧ 1 ≤ c := by
  intro u
  cases u with
  | nil => intro y c r h; simp [runsM] at h
  | cons x u =>
    intro y c r h
    simp only [runsM] at h
    split at h
    · simp at h; exact ⟨by rw [h.1.1]; rfl, by omega⟩
    · rename_i y' c' r' e
      split at h
      · rename_i hxy
        simp at h
        exact ⟨by rw [hxy, h.1.1]; rfl, by omega⟩
      · simp at h
        exact ⟨by rw [h.1.1]; rfl, by omega⟩

/-- a longest row of equal letters is one run -/
theorem runsM_run (x : Bool) (v : List Bool) (hv : v = [] ∨ v.head? = some (!x)) : ∀ c, runsM (List.replicate (c + 1) x ++ v) = (x, c + 1) :: runsM v := by
  intro c
  induction c with
  | zero =>
    show runsM (x :: v) = _
    simp only [runsM]
    cases e : runsM v with
    | nil => rfl
    | cons p r =>
      obtain ⟨y, k⟩ := p
      have hh := runsM_head v y k r e
      have hy : y = !x := by
        rcases hv with h | h
        · rw [h] at hh; simp at hh
        · rw [h] at hh; simp at hh; rw [hh.1]; simp
      have hne : ¬ x = y := by rw [hy]; cases x <;> simp
      dsimp only
      rw [if_neg hne]
  | succ c ih =>
    rw [List.replicate_succ, List.cons_append]
    show runsM (x :: (List.replicate (c + 1) x ++ v)) = _
    simp only [runsM]
    rw [ih]
    dsimp only
    rw [if_pos rfl]

/-- the word of runs -/
def expR (rs : List (Bool × Nat)) : List Bool := (rs.map fun r => List.replicate r.2 r.1).flatten

theorem expR_cons (r : Bool × Nat) (rs : List (Bool × Nat)) : expR (r :: rs) = List.replicate r.2 r.1 ++ expR rs := rfl

theorem expR_snoc (r : Bool × Nat) (rs : List (Bool × Nat)) : expR (rs ++ [r]) = expR rs ++ List.replicate r.2 r.1 := by unfold expR; simp

theorem expR_runs (u : List Bool) : expR (runsM u) = u := by
  induction u with
  | nil => rfl
  | cons x u ih =>
    simp only [runsM]
    split
    · rename_i e
      rw [(runsM_nil_iff u).1 e]; rfl
    · rename_i y c r e
      rw [e] at ih
      split
      · rename_i hxy
        subst hxy
        rw [expR_cons] at ih ⊢
        dsimp only at ih ⊢
        rw [List.replicate_succ, List.cons_append, ih]
      · rw [expR_cons, ih]; rfl

theorem runsM_pos (u : List Bool) : ∀ r ∈ runsM u, 1 ≤ r.2 := by
  induction u with
  | nil => intro r h; simp [runsM] at h
  | cons x u ih =>
    simp only [runsM]
    split
    · intro r h; simp at h; subst h; exact Nat.le_refl _
    · rename_i y c q e
      rw [e] at ih
      split
      · intro r h
        rcases List.mem_cons.1 h with rfl | h
        · show 1 ≤ c + 1; omega
        · exact ih r (List.mem_cons_of_mem _ h)
      · intro r h
        rcases List.mem_cons.1 h with rfl | h
        · exact Nat.le_refl _
        · exact ih r h

theorem expR_len (rs : List (Bool × Nat)) : (expR rs).length = (rs.map (·.2)).sum := by
  induction rs with
  | nil => rfl
  | cons r rs ih => rw [expR_cons, List.length_append, List.length_replicate, ih]; rfl

theorem runsB_cons (r : Bool × Nat) (rs : List (Bool × Nat)) : runsB (r :: rs) = runB r ++ runsB rs := rfl

theorem runsB_snoc (r : Bool × Nat) (rs : List (Bool × Nat)) : runsB (rs ++ [r]) = runsB rs ++ runB r := by unfold runsB; simp

theorem runsB_app (rs qs : List (Bool × Nat)) : runsB (rs ++ qs) = runsB rs ++ runsB qs := by unfold runsB; simp

theorem runB_len {r : Bool × Nat} (h : r.2 < 100) : 2 ≤ (runB r).length ∧ (runB r).length ≤ 3 := by
  unfold runB
  have a := decN_pos r.2
  have b := decN_len (n := r.2) 1 (by omega) (by omega)
  rw [List.length_cons]
  omega

theorem runsB_len : ∀ (rs : List (Bool × Nat)), (∀ r ∈ rs, 1 ≤ r.2) → (expR rs).length ≤ 58 → (runsB rs).length ≤ 3 * (expR rs).length := by
  intro rs
  induction rs with
  | nil => intro _ _; exact Nat.le_refl _
  | cons r rs ih =>
    intro hp hl
    rw [expR_cons, List.length_append, List.length_replicate] at hl
    have h1 := hp r List.mem_cons_self
    have i := ih (fun q hq => hp q (List.mem_cons_of_mem _ hq)) (by omega)
    have b := runB_len (r := r) (by omega)
    rw [runsB_cons, List.length_append, expR_cons, List.length_append, List.length_replicate]
    omega

theorem runsTxt_size {u : List Bool} (h : u.length ≤ 58) : 1 ≤ (runsTxt u).size ∧ (runsTxt u).size ≤ 174 := by
  unfold runsTxt
  by_cases c : u = []
  · rw [if_pos c, txtL_size]; exact ⟨Nat.le_refl _, by simp⟩
  · rw [if_neg c, txtL_size]
    have a := runsB_len (runsM u) (runsM_pos u) (by rw [expR_runs]; exact h)
    rw [expR_runs] at a
    refine ⟨?_, by omega⟩
    cases e : runsM u with
    | nil => exact absurd ((runsM_nil_iff u).1 e) c
    | cons r rs =>
      rw [runsB_cons, List.length_append]
      unfold runB
      rw [List.length_cons]
      omega

/-- words are told by their texts -/
theorem byteM_not_dig (b : Bool) : isDig (byteM b) = false := by cases b <;> rfl

theorem span_dig : ∀ (l k : List UInt8), (∀ c ∈ l, isDig c = true) → (k = [] ∨ ∃ c r, k = c :: r ∧ isDig c = false) → (l ++ k).takeWhile isDig = l ∧ (l ++ k).dropWhile isDig = k := by
  intro l
  induction l with
  | nil =>
    intro k _ hk
    rcases hk with rfl | ⟨c, r, rfl, e⟩
    · exact ⟨rfl, rfl⟩
    · rw [List.nil_append, List.takeWhile_cons, List.dropWhile_cons, e]; exact ⟨rfl, rfl⟩
  | cons x l ih =>
    intro k h hk
    have hx := h x List.mem_cons_self
    obtain ⟨i1, i2⟩ := ih k (fun c hc => h c (List.mem_cons_of_mem _ hc)) hk
    rw [List.cons_append, List.takeWhile_cons, List.dropWhile_cons, hx]
    exact ⟨by simp [i1], by simp [i2]⟩

theorem runsB_begin (rs : List (Bool × Nat)) : runsB rs = [] ∨ ∃ c r, runsB rs = c :: r ∧ isDig c = false := by
  cases rs with
  | nil => exact .inl rfl
  | cons r rs => exact .inr ⟨byteM r.1, decN r.2 ++ runsB rs, rfl, byteM_not_dig _⟩

theorem runsB_inj : ∀ (rs qs : List (Bool × Nat)), (∀ r ∈ rs, r.2 < 100) → (∀ r ∈ qs, r.2 < 100) → runsB rs = runsB qs → rs = qs := by
  intro rs
  induction rs with
  | nil =>
    intro qs _ _ h
    cases qs with
    | nil => rfl
    | cons q qs => simp [runsB, runB] at h
  | cons r rs ih =>
    intro qs h1 h2 h
    cases qs with
    | nil => simp [runsB, runB] at h
    | cons q qs =>
      rw [runsB_cons, runsB_cons] at h
      unfold runB at h
      rw [List.cons_append, List.cons_append] at h
      injection h with e1 e2
      have a := span_dig (decN r.2) (runsB rs) (decN_val (by have := h1 r List.mem_cons_self; omega)).2 (runsB_begin rs)
      have b := span_dig (decN q.2) (runsB qs) (decN_val (by have := h2 q List.mem_cons_self; omega)).2 (runsB_begin qs)
      rw [e2] at a
      have c1 := a.1.symm.trans b.1
      have c2 := a.2.symm.trans b.2
      have n1 := decN_inj (by have := h1 r List.mem_cons_self; omega) (by have := h2 q List.mem_cons_self; omega) c1
      have n2 := byteM_inj e1
      rw [ih qs (fun x hx => h1 x (List.mem_cons_of_mem _ hx)) (fun x hx => h2 x (List.mem_cons_of_mem _ hx)) c2]
      congr 1
      exact Prod.ext n2 n1

theorem runsM_lt {u : List Bool} (h : u.length ≤ 58) : ∀ r ∈ runsM u, r.2 < 100 := by
  have key : ∀ rs : List (Bool × Nat), (expR rs).length ≤ 58 → ∀ r ∈ rs, r.2 < 100 := by
    intro rs
    induction rs with
    | nil => intro _ r hr; simp at hr
    | cons q rs ih =>
      intro hl r hr
      rw [expR_cons, List.length_append, List.length_replicate] at hl
      rcases List.mem_cons.1 hr with rfl | hr
      · omega
      · exact ih (by omega) r hr
  exact key _ (by rw [expR_runs]; exact h)

theorem runsTxt_inj {u v : List Bool} (hu : u.length ≤ 58) (hv : v.length ≤ 58) (h : runsTxt u = runsTxt v) : u = v := by
  unfold runsTxt at h
  have dot : ∀ w : List Bool, ([46] : List UInt8) ≠ runsB (runsM w) := fun w e => by
    cases c : runsM w with
    | nil => rw [c] at e; simp [runsB] at e
    | cons r rs =>
      rw [c, runsB_cons] at e
      unfold runB at e
      injection e with e1 _
      have := byteM_not_dig r.1
      cases hr : r.1
      · rw [hr] at e1; exact absurd e1 (by decide)
      · rw [hr] at e1; exact absurd e1 (by decide)
  by_cases c : u = []
  · by_cases d : v = []
    · rw [c, d]
    · rw [if_pos c, if_neg d] at h
      exact absurd (txtL_inj h) (dot v)
  · by_cases d : v = []
    · rw [if_neg c, if_pos d] at h
      exact absurd (txtL_inj h).symm (dot u)
    · rw [if_neg c, if_neg d] at h
      have := runsB_inj _ _ (runsM_lt hu) (runsM_lt hv) (txtL_inj h)
      rw [← expR_runs u, ← expR_runs v, this]

/-- a text of runs with a dot behind it is none -/
theorem runs_no_dot {u v : List Bool} (hu : u.length ≤ 58) (hv : v.length ≤ 58) : runsTxt v ≠ runsTxt u ++ txtL [46] := by
  intro h
  have hs := runsTxt_size hu
  unfold runsTxt at h
  rw [show (if u = [] then txtL [46] else txtL (runsB (runsM u))) = txtL (if u = [] then [46] else runsB (runsM u)) by split <;> rfl, txtL_append] at h
  by_cases d : v = []
  · rw [if_pos d] at h
    have e := txtL_inj h
    have l := congrArg List.length e
    rw [List.length_append] at l
    simp at l
    split at l
    · simp at l
    · have := (runsM_nil_iff u)
      rename_i c
      cases e2 : runsM u with
      | nil => exact c (this.1 e2)
      | cons r rs => rw [e2, runsB_cons] at l; simp [runB] at l
  · rw [if_neg d] at h
    have e := txtL_inj h
    -- the last byte of runs is a digit
    have last : ∀ rs : List (Bool × Nat), rs ≠ [] → (∀ r ∈ rs, r.2 < 100) → ∃ c, (runsB rs).getLast? = some c ∧ isDig c = true := by
      intro rs hne hlt
      obtain ⟨q, r, rfl⟩ := snoc_cases rs hne
      rw [runsB_snoc]
      obtain ⟨l, c, e⟩ := snoc_cases (decN r.2) (decN_ne _)
      refine ⟨c, ?_, ?_⟩
      · unfold runB
        rw [e]
        rw [← List.cons_append, ← List.append_assoc, List.getLast?_concat]
      · have := (decN_val (n := r.2) (by have := hlt r (by simp); omega)).2 c (by rw [e]; simp)
        exact this
    obtain ⟨c, h1, h2⟩ := last (runsM v) (fun h => d ((runsM_nil_iff v).1 h)) (runsM_lt hv)
    rw [e] at h1
    simp [List.getLast?_append] at h1
    subst h1
    exact absurd h2 (by decide)
end Go.Proofs.YtckkgjgfjnfeoaaGreatDoor
