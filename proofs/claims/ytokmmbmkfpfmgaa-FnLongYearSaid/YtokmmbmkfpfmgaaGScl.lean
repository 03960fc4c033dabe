/- Scales: both kinds of gaps, and how often each comes. Scales are told by the rows of the rule of near returns. In a scale: the order, the gaps as letters of another turn, spans of gaps, patterns. In a scale: the gaps as a word, balanced round the circle. -/
import Derived.Test.YtokmmbmkfpfmgaaSpreadG
import Derived.Test.YtokmmbmkfpfmgaaGOrd
import Derived.Test.YtokmmbmkfpfmgaaLong
import Derived.Test.YtokmmbmkfpfmgaaGRec
import Derived.Test.YtokmmbmkfpfmgaaGCode
set_option linter.unusedVariables false
namespace Go.Proofs.Ytokmmbmkfpfmgaa
set_option maxRecDepth 4000

set_option maxRecDepth 4000
open N

/-- both distances are the same for all points alone -/
theorem scale_even {n s : Int} (ht : tok n s = true) {m p q : Int} (hm : m ≤ n) (hp : IsMin n s m p) (hq : IsMax n s m q) (he : p + q = m) : pt n s p = n - pt n s q ↔ m = n := by
  have h := turns_of ht
  have a := pt_add (n := n) s p q h.n2
  rw [he] at a
  obtain ⟨p1, p2, _⟩ := hp
  obtain ⟨q1, q2, _⟩ := hq
  constructor
  · intro e
    by_cases c : m = n
    · exact c
    · have := h.pos (k := m) (by omega) (by omega)
      omega
  · intro e
    subst e
    have z : pt m s m = 0 := by unfold pt; rw [Int.mul_comm]; simp
    have p0 := h.pos (k := p) (by omega) (by omega)
    have q0 := h.pos (k := q) (by omega) (by omega)
    omega

/-- each gap of a scale is one of both distances, and both come -/
theorem scale_gaps {n s : Int} (ht : tok n s = true) {m : Nat} {p q x : Int} (hm : (m : Int) ≤ n) (hp : IsMin n s m p) (hq : IsMax n s m q) (he : p + q = m) : x ∈ gapsT n s m ↔ x = pt n s p ∨ x = n - pt n s q := by
  have perm := gaps_perm ht hm hp hq
  obtain ⟨p1, p2, _⟩ := hp
  obtain ⟨q1, q2, _⟩ := hq
  rw [perm.mem_iff, List.mem_map]
  constructor
  · rintro ⟨t, ht, rfl⟩
    unfold gapAt
    by_cases c : (t : Int) + p < m
    · rw [if_pos c]; exact .inl rfl
    · rw [if_neg c, if_pos (by omega)]; exact .inr rfl
  · rintro (rfl | rfl)
    · exact ⟨0, by simp; omega, by unfold gapAt; rw [if_pos (by omega)]⟩
    · exact ⟨m - 1, by simp; omega, by unfold gapAt; rw [if_neg (by omega), if_pos (by omega)]⟩

/-- the kinds of gaps of a scale -/
theorem scale_kinds {n s : Int} (ht : tok n s = true) {m : Nat} {p q : Int} (hm : (m : Int) ≤ n) (hp : IsMin n s m p) (hq : IsMax n s m q) (he : p + q = m) :
    kindsL (gapsT n s m) = if (m : Int) = n then [pt n s p] else [min (pt n s p) (n - pt n s q), max (pt n s p) (n - pt n s q)] := by
  have hev := scale_even ht hm hp hq he
  obtain ⟨k1, k2⟩ := kindsL_is (gapsT n s m)
  have hg := fun x => scale_gaps (x := x) ht hm hp hq he
  by_cases c : (m : Int) = n
  · rw [if_pos c]
    have e := hev.2 c
    refine asc_ext k1 (by simp) fun x => ?_
    rw [k2, hg]
    simp
    omega
  · rw [if_neg c]
    have e : ¬ pt n s p = n - pt n s q := fun h => c (hev.1 h)
    refine asc_ext k1 (by simp; omega) fun x => ?_
    rw [k2, hg]
    simp
    omega
end Go.Proofs.Ytokmmbmkfpfmgaa

set_option linter.unusedVariables false
namespace Go.Proofs.Ytokmmbmkfpfmgaa

set_option maxRecDepth 4000
open N

/-- both nearest points come in as many steps as there are points -/
def scaleF (n s m : Int) : Bool := decide (0 < nearA n s m) && decide (nearA n s m + nearB n s m = m)

theorem scaleF_iff {n s m : Int} : scaleF n s m = true ↔ ∃ p q, tok n s = true ∧ 2 ≤ m ∧ m ≤ n ∧ IsMin n s m p ∧ IsMax n s m q ∧ p + q = m := by
  unfold scaleF
  rw [Bool.and_eq_true, decide_eq_true_eq, decide_eq_true_eq]
  constructor
  · rintro ⟨h1, h2⟩
    by_cases c : tok n s = true ∧ 2 ≤ m ∧ m ≤ n
    · obtain ⟨ht, hm2, hm⟩ := c
      exact ⟨_, _, ht, hm2, hm, nearA_is ht hm2 hm, nearB_is ht hm2 hm, h2⟩
    · rw [nearA_no c] at h1; omega
  · rintro ⟨p, q, ht, hm2, hm, hp, hq, e⟩
    rw [nearA_of ht hm2 hm hp, nearB_of ht hm2 hm hq]
    exact ⟨by have := hp.1; omega, e⟩

theorem scaleF_no {n s m : Int} (h : ¬ (tok n s = true ∧ 2 ≤ m ∧ m ≤ n)) : scaleF n s m = false := by
  cases e : scaleF n s m with
  | false => rfl
  | true =>
    obtain ⟨p, q, a, b, c, _⟩ := scaleF_iff.1 e
    exact absurd ⟨a, b, c⟩ h

theorem min_sub {n s m m' p : Int} (h : IsMin n s m' p) (hp : p < m) (hm : m ≤ m') : IsMin n s m p := ⟨h.1, hp, fun j a b => h.2.2 j a (by omega)⟩

theorem max_sub {n s m m' p : Int} (h : IsMax n s m' p) (hp : p < m) (hm : m ≤ m') : IsMax n s m p := ⟨h.1, hp, fun j a b => h.2.2 j a (by omega)⟩

/-- the scales of fewer than so many points -/
def scUp (n s : Int) : Nat → List Int
  | 0 => []
  | k + 1 => if scaleF n s k = true then scUp n s k ++ [(k : Int)] else scUp n s k

def scalesF (n s : Int) : List Int := scUp n s (n.toNat + 1)

theorem scUp_yes {n s : Int} {k : Nat} (h : scaleF n s k = true) : scUp n s (k + 1) = scUp n s k ++ [(k : Int)] := if_pos h

theorem scUp_no {n s : Int} {k : Nat} (h : ¬ scaleF n s k = true) : scUp n s (k + 1) = scUp n s k := if_neg h

theorem scUp_two (n s : Int) : scUp n s 2 = [] := by
  rw [scUp_no (k := 1) (by rw [scaleF_no (fun h => by omega)]; simp), scUp_no (k := 0) (by rw [scaleF_no (fun h => by omega)]; simp)]
  rfl

theorem scUp_none {n s : Int} (h : ¬ tok n s = true) (k : Nat) : scUp n s k = [] := by
  induction k with
  | zero => rfl
  | succ k ih => rw [scUp_no (by rw [scaleF_no (fun c => h c.1)]; simp), ih]

theorem scalesF_no {n s : Int} (h : ¬ tok n s = true) : scalesF n s = [] := scUp_none h _

theorem scUp_gap {n s : Int} {k d : Nat} (h : ∀ j : Nat, k ≤ j → j < k + d → ¬ scaleF n s j = true) : scUp n s (k + d) = scUp n s k := by
  induction d with
  | zero => rfl
  | succ d ih =>
    rw [← Nat.add_assoc, scUp_no (h (k + d) (by omega) (by omega))]
    exact ih fun j a b => h j a (by omega)

theorem scUp_facts (n s : Int) (k : Nat) : (scUp n s k).Pairwise (· < ·) ∧ (∀ x ∈ scUp n s k, 2 ≤ x ∧ x < k ∧ scaleF n s x = true) ∧ (scUp n s k).length ≤ k := by
  induction k with
  | zero => exact ⟨List.Pairwise.nil, fun x hx => absurd hx List.not_mem_nil, Nat.le_refl _⟩
  | succ k ih =>
    obtain ⟨i1, i2, i3⟩ := ih
    by_cases c : scaleF n s k = true
    · rw [scUp_yes c]
      refine ⟨List.pairwise_append.2 ⟨i1, by simp, fun a ha b hb => ?_⟩, fun x hx => ?_, by simp; omega⟩
      · rw [List.mem_singleton] at hb
        subst hb
        exact (i2 a ha).2.1
      · rcases List.mem_append.1 hx with h | h
        · have := i2 x h; exact ⟨this.1, by omega, this.2.2⟩
        · rw [List.mem_singleton] at h
          subst h
          obtain ⟨p, q, _, h2, _⟩ := scaleF_iff.1 c
          exact ⟨h2, by omega, c⟩
    · rw [scUp_no c]
      exact ⟨i1, fun x hx => by have := i2 x hx; exact ⟨this.1, by omega, this.2.2⟩, by omega⟩

variable {n s : Nat}

/-- a row of the rule is a scale -/
theorem RowInv.scale (ht : tokN n s = true) {p a q b : Nat} (h : RowInv n s p a q b) : scaleF n s ((p + q : Nat) : Int) = true :=
  scaleF_iff.2 ⟨p, q, tok_of_tokN ht, by have := h.p1; have := h.q1; omega, by have := h.le; omega, h.hp, h.hq, by omega⟩

/-- between two rows there is none -/
theorem RowInv.between (ht : tokN n s = true) {p a q b p' a' q' b' : Nat} (h' : RowInv n s p' a' q' b') {m : Nat} (hp : p' < m) (hq : q' < m) (hm : m < p' + q') : ¬ scaleF n s m = true := by
  intro c
  obtain ⟨x, y, t, m2, mn, hx, hy, e⟩ := scaleF_iff.1 c
  have h := turns_of t
  have e1 := min_unique h mn hx (min_sub h'.hp (by omega) (by omega))
  have e2 := max_unique h mn hy (max_sub h'.hq (by omega) (by omega))
  omega

theorem scales_from (ht : tokN n s = true) : ∀ (f p a q b : Nat), RowInv n s p a q b → a + b ≤ f + 1 →
    scUp n s (n + 1) = scUp n s (p + q) ++ (rowsF f p a q b).map (fun r => ((r.p + r.q : Nat) : Int)) := by
  intro f
  induction f with
  | zero =>
    intro p a q b h hf
    obtain ⟨_, h1, h2⟩ := h.size ht
    omega
  | succ f ih =>
    intro p a q b h hf
    obtain ⟨_, h1, h2⟩ := h.size ht
    have hy := scUp_yes (h.scale ht)
    by_cases e : a = b
    · obtain ⟨_, hn⟩ := h.last ht e
      rw [rowsF_stop e, show n + 1 = p + q + 1 by omega, hy]
      rfl
    · obtain ⟨lt, up, down⟩ := h.next ht e
      have p1 := h.p1; have q1 := h.q1
      by_cases c : b < a
      · rw [rowsF_up c, ih _ _ _ _ (up c) (by omega)]
        have hg : scUp n s (p + q + 1 + (q - 1)) = scUp n s (p + q + 1) := scUp_gap fun j h1 h2 => RowInv.between (p := p) (a := a) (q := q) (b := b) ht (up c) (by omega) (by omega) (by omega)
        rw [show p + q + q = p + q + 1 + (q - 1) by omega, hg, hy]
        simp
      · rw [rowsF_down (by omega), ih _ _ _ _ (down (by omega)) (by omega)]
        have hg : scUp n s (p + q + 1 + (p - 1)) = scUp n s (p + q + 1) := scUp_gap fun j h1 h2 => RowInv.between (p := p) (a := a) (q := q) (b := b) ht (down (by omega)) (by omega) (by omega) (by omega)
        rw [show p + (p + q) = p + q + 1 + (p - 1) by omega, hg, hy]
        simp

theorem scales_rows (ht : tokN n s = true) : scalesF n s = (rowsN n s).map fun r => ((r.p + r.q : Nat) : Int) := by
  unfold scalesF rowsN
  have := scales_from ht n 1 s 1 (n - s) (RowInv.start ht) (by have := tokN_bd ht; omega)
  rw [Int.toNat_natCast, this, scUp_two]
  rfl

/-- two rows that follow each other -/
def Nxt (r r' : Row) : Prop := (r.b < r.a ∧ r' = ⟨r.p + r.q, r.a - r.b, r.q, r.b⟩) ∨ (r.a < r.b ∧ r' = ⟨r.p, r.a, r.p + r.q, r.b - r.a⟩)

def Inv (n s : Nat) (r : Row) : Prop := RowInv n s r.p r.a r.q r.b

theorem rowsF_first (f p a q b : Nat) : (rowsF f p a q b)[0]? = some ⟨p, a, q, b⟩ := by
  cases f with
  | zero => rfl
  | succ f =>
    rcases Nat.lt_trichotomy a b with c | c | c
    · rw [rowsF_down c]; rfl
    · rw [rowsF_stop c]; rfl
    · rw [rowsF_up c]; rfl

theorem rows_adj (ht : tokN n s = true) : ∀ (f p a q b : Nat), RowInv n s p a q b → a + b ≤ f + 1 → ∀ k, k + 1 < (rowsF f p a q b).length →
    ∃ r r', (rowsF f p a q b)[k]? = some r ∧ (rowsF f p a q b)[k + 1]? = some r' ∧ Inv n s r ∧ Inv n s r' ∧ Nxt r r' := by
  intro f
  induction f with
  | zero =>
    intro p a q b h hf
    obtain ⟨_, h1, h2⟩ := h.size ht
    omega
  | succ f ih =>
    intro p a q b h hf k hk
    obtain ⟨_, h1, h2⟩ := h.size ht
    by_cases e : a = b
    · rw [rowsF_stop e] at hk
      simp at hk
    · obtain ⟨lt, up, down⟩ := h.next ht e
      by_cases c : b < a
      · rw [rowsF_up c] at hk ⊢
        cases k with
        | zero =>
          refine ⟨⟨p, a, q, b⟩, ⟨p + q, a - b, q, b⟩, rfl, ?_, h, up c, .inl ⟨c, rfl⟩⟩
          rw [List.getElem?_cons_succ]
          exact rowsF_first _ _ _ _ _
        | succ k =>
          rw [List.getElem?_cons_succ, List.getElem?_cons_succ]
          exact ih _ _ _ _ (up c) (by omega) k (by simpa using hk)
      · have c' : a < b := by omega
        rw [rowsF_down c'] at hk ⊢
        cases k with
        | zero =>
          refine ⟨⟨p, a, q, b⟩, ⟨p, a, p + q, b - a⟩, rfl, ?_, h, down c', .inr ⟨c', rfl⟩⟩
          rw [List.getElem?_cons_succ]
          exact rowsF_first _ _ _ _ _
        | succ k =>
          rw [List.getElem?_cons_succ, List.getElem?_cons_succ]
          exact ih _ _ _ _ (down c') (by omega) k (by simpa using hk)

theorem rowsN_adj (ht : tokN n s = true) {k : Nat} (hk : k + 1 < (rowsN n s).length) : ∃ r r', (rowsN n s)[k]? = some r ∧ (rowsN n s)[k + 1]? = some r' ∧ Inv n s r ∧ Inv n s r' ∧ Nxt r r' :=
  rows_adj ht n 1 s 1 (n - s) (RowInv.start ht) (by have := tokN_bd ht; omega) k hk

/-- what the scales are, place by place -/
theorem scales_len (ht : tokN n s = true) : (scalesF n s).length = (rowsN n s).length := by rw [scales_rows ht, List.length_map]

theorem scales_at (ht : tokN n s = true) {k : Nat} {r : Row} (h : (rowsN n s)[k]? = some r) : (scalesF n s).getD k 0 = ((r.p + r.q : Nat) : Int) := by
  rw [scales_rows ht, List.getD_eq_getElem?_getD, List.getElem?_map, h]
  rfl

theorem rows_end (ht : tokN n s = true) : ∀ (f p a q b : Nat), RowInv n s p a q b → a + b ≤ f + 1 → ∃ r, (rowsF f p a q b)[(rowsF f p a q b).length - 1]? = some r ∧ r.p + r.q = n := by
  intro f
  induction f with
  | zero =>
    intro p a q b h hf
    obtain ⟨_, h1, h2⟩ := h.size ht
    omega
  | succ f ih =>
    intro p a q b h hf
    obtain ⟨_, h1, h2⟩ := h.size ht
    by_cases e : a = b
    · rw [rowsF_stop e]
      exact ⟨_, rfl, (h.last ht e).2⟩
    · obtain ⟨lt, up, down⟩ := h.next ht e
      have pos : ∀ p a q b, 0 < (rowsF f p a q b).length := fun p a q b => by
        have h0 := rowsF_first f p a q b
        exact (List.getElem?_eq_some_iff.1 h0).1
      by_cases c : b < a
      · obtain ⟨r, h1, h2⟩ := ih _ _ _ _ (up c) (by omega)
        refine ⟨r, ?_, h2⟩
        rw [rowsF_up c, List.length_cons, Nat.add_sub_cancel]
        have := pos (p + q) (a - b) q b
        generalize rowsF f (p + q) (a - b) q b = T at *
        obtain ⟨l, hl⟩ : ∃ l, T.length = l + 1 := ⟨T.length - 1, by omega⟩
        rw [hl] at h1 ⊢
        rw [List.getElem?_cons_succ]
        exact h1
      · obtain ⟨r, h1, h2⟩ := ih _ _ _ _ (down (by omega)) (by omega)
        refine ⟨r, ?_, h2⟩
        rw [rowsF_down (by omega), List.length_cons, Nat.add_sub_cancel]
        have := pos p a (p + q) (b - a)
        generalize rowsF f p a (p + q) (b - a) = T at *
        obtain ⟨l, hl⟩ : ∃ l, T.length = l + 1 := ⟨T.length - 1, by omega⟩
        rw [hl] at h1 ⊢
        rw [List.getElem?_cons_succ]
        exact h1

/-- the first scale has two points, the last one all -/
theorem scales_ends (ht : tokN n s = true) : (scalesF n s).getD 0 0 = 2 ∧ 1 ≤ (scalesF n s).length ∧ (scalesF n s).getD ((scalesF n s).length - 1) 0 = n := by
  have h0 : (rowsN n s)[0]? = some ⟨1, s, 1, n - s⟩ := rowsF_first _ _ _ _ _
  obtain ⟨r, h1, h2⟩ := rows_end ht n 1 s 1 (n - s) (RowInv.start ht) (by have := tokN_bd ht; omega)
  refine ⟨scales_at ht h0, ?_, ?_⟩
  · rw [scales_len ht]
    exact (List.getElem?_eq_some_iff.1 h0).1
  · rw [scales_len ht]
    have := scales_at ht (k := (rowsN n s).length - 1) h1
    rw [this, h2]

/-- from one scale to the next one -/
theorem scale_grows (ht : tokN n s = true) {k : Nat} (hk : k + 1 < (scalesF n s).length) :
    ∃ m m' : Nat, ∃ x y : Int, (scalesF n s).getD k 0 = m ∧ (scalesF n s).getD (k + 1) 0 = m' ∧ 2 ≤ m ∧ m < m' ∧ m' ≤ n ∧ kindsL (gapsT n s m) = [x, y] ∧ 1 ≤ x ∧ x < y ∧ y ≤ n ∧
      leastF n s m' = min x (y - x) ∧ (((gapsT n s m).count y : Nat) : Int) = (m' : Int) - m := by
  rw [scales_len ht] at hk
  obtain ⟨r, r', e1, e2, i1, i2, hn⟩ := rowsN_adj ht hk
  have hT := tok_of_tokN ht
  have a1 := i1.p1; have a2 := i1.q1; have a3 := i1.le; have a4 := i1.ea; have a5 := i1.eb
  have b1 := i2.p1; have b2 := i2.q1; have b3 := i2.le; have b4 := i2.ea; have b5 := i2.eb
  obtain ⟨_, ha, hb⟩ := i1.size ht
  have hk1 := scale_kinds hT (m := r.p + r.q) (by omega) i1.hp i1.hq (by omega)
  have hl := least_near hT (m := r'.p + r'.q) (by omega) (by omega)
  rw [nearA_of hT (by omega) (by omega) i2.hp, nearB_of hT (by omega) (by omega) i2.hq, ← b4, show (n : Int) - pt n s r'.q = r'.b by omega] at hl
  have hc := fun x => gaps_count hT (m := r.p + r.q) (by omega) i1.hp i1.hq x
  rw [← a4, show (n : Int) - pt n s r.q = r.b by omega] at hk1
  have hlt : r.p + r.q < r'.p + r'.q := by rcases hn with ⟨c, rfl⟩ | ⟨c, rfl⟩ <;> simp <;> omega
  rw [if_neg (by omega)] at hk1
  refine ⟨r.p + r.q, r'.p + r'.q, _, _, scales_at ht e1, scales_at ht e2, by omega, hlt, b3, hk1, ?_⟩
  rcases hn with ⟨c, rfl⟩ | ⟨c, rfl⟩
  · dsimp only at *
    refine ⟨by omega, by omega, by have := i1.ea; have := pt_hi (n := (n : Int)) s (r.p : Int) (turns_of hT).n2; omega, by omega, ?_⟩
    rw [show max (r.a : Int) r.b = r.a by omega, hc, ← a4, show (n : Int) - pt n s r.q = r.b by omega, if_pos rfl, if_neg (by omega), if_neg (by omega)]
    omega
  · dsimp only at *
    refine ⟨by omega, by omega, by have := i1.eb; have := pt_lo (n := (n : Int)) s (r.q : Int) (turns_of hT).n2; omega, by omega, ?_⟩
    rw [show max (r.a : Int) r.b = r.b by omega, hc, ← a4, show (n : Int) - pt n s r.q = r.b by omega, if_neg (by omega), if_pos rfl, if_neg (by omega)]
    omega
end Go.Proofs.Ytokmmbmkfpfmgaa

set_option linter.unusedVariables false
namespace Go.Proofs.Ytokmmbmkfpfmgaa

set_option maxRecDepth 4000
open N

/-- both times have no common divisor: the points of a scale are a turn of their own -/
theorem scale_order {n s : Int} (ht : tok n s = true) {m p q : Nat} (h2 : 2 ≤ m) (hm : (m : Int) ≤ n) (hp : IsMin n s m p) (hq : IsMax n s m q) (he : p + q = m) :
    ∀ i, i < m → (ordT n s m).getD i 0 = ((i * p % m : Nat) : Int) := by
  have p1 := hp.1; have q1 := hq.1
  intro i
  induction i with
  | zero => intro _; rw [ordT_zero ht (by omega) hm, Nat.zero_mul, Nat.zero_mod]; rfl
  | succ i ih =>
    intro hi
    have i0 := ih (by omega)
    have st := ordT_step ht h2 hm (i := i) (by omega) hp hq
    rw [if_pos hi, i0] at st
    rw [← st, mod_next (by omega) (by omega)]
    have := Nat.mod_lt (i * p) (show 0 < m by omega)
    generalize i * p % m = t at *
    by_cases c : t + p < m
    · rw [if_pos (by omega), if_neg (by omega)]; omega
    · rw [if_neg (by omega), if_pos (by omega), if_pos (by omega)]; omega

/-- no two times are the same: so there is no common divisor -/
theorem scale_coprime {n s : Int} (ht : tok n s = true) {m p q : Nat} (h2 : 2 ≤ m) (hm : (m : Int) ≤ n) (hp : IsMin n s m p) (hq : IsMax n s m q) (he : p + q = m) : Nat.gcd m p = 1 := by
  have p1 := hp.1; have q1 := hq.1
  obtain ⟨g, hg⟩ : ∃ g, Nat.gcd m p = g := ⟨_, rfl⟩
  rw [hg]
  have d1 : g ∣ m := hg ▸ Nat.gcd_dvd_left m p
  have d2 : g ∣ p := hg ▸ Nat.gcd_dvd_right m p
  obtain ⟨k, hk⟩ := d1
  obtain ⟨l, hl⟩ := d2
  have g0 : g ≠ 0 := fun h => by subst h; omega
  have k0 : k ≠ 0 := fun h => by subst h; omega
  by_cases c : g = 1
  · exact c
  · have hkm : k < m := by
      have := Nat.mul_le_mul_right k (show 2 ≤ g by omega)
      omega
    have e := scale_order ht h2 hm hp hq he k hkm
    have z : k * p % m = 0 := by
      rw [hk, hl, ← Nat.mul_assoc, Nat.mul_comm k g]
      exact Nat.mul_mod_right _ _
    rw [z] at e
    have e0 := ordT_zero ht (by omega : 1 ≤ m) hm
    exact absurd (by rw [e0, e]; rfl) (ordT_ne ht hm (show 0 < k by omega) hkm)

/-- the gaps of a scale are letters: the distance above for 0, that below for 1 -/
theorem scale_letters {n s : Int} (ht : tok n s = true) {m p q : Nat} (h2 : 2 ≤ m) (hm : (m : Int) ≤ n) (hp : IsMin n s m p) (hq : IsMax n s m q) (he : p + q = m) {i : Nat} (hi : i < m) :
    (gapsT n s m).getD i 0 = if letN m p i = true then n - pt n s q else pt n s p := by
  have p1 := hp.1; have q1 := hq.1
  rw [gapsT_getD n s hi 0]
  obtain ⟨t, t1, t2, t3⟩ := ordT_at ht hm hi
  rw [scale_order ht h2 hm hp hq he i hi] at t2
  rw [gap_at (turns_of ht) hm hp hq hi t1 t3]
  have t2 : i * p % m = t := by omega
  unfold gapAt letN
  rw [t2]
  by_cases c : t + p < m
  · rw [if_pos (by omega), if_neg (by simp; omega)]
  · rw [if_neg (by omega), if_pos (by omega), if_pos (by simp; omega)]

/-! ### letters come again -/

theorem mod_add_mul {n s k c : Nat} : (k + c * n) * s % n = k * s % n := by
  rw [Nat.add_mul, Nat.mul_right_comm, Nat.add_mul_mod_self_right]

theorem let_mod (n s k : Nat) : letN n s (k % n) = letN n s k := by
  unfold letN
  have h := mod_add_mul (n := n) (s := s) (k := k % n) (c := k / n)
  rw [show k % n + k / n * n = k by rw [Nat.mul_comm]; exact Nat.mod_add_div k n] at h
  rw [h]

theorem word_mod (n s a m : Nat) : wordL n s (a % n) m = wordL n s a m := by
  unfold wordL
  refine List.map_congr_left fun j _ => ?_
  rw [← let_mod n s (a + j), ← let_mod n s (a % n + j), Nat.mod_add_mod]

theorem word_twice {n s : Nat} (h0 : 0 < n) : wordL n s 0 n ++ wordL n s 0 n = wordL n s 0 (2 * n) := by
  unfold wordL
  rw [Nat.two_mul, List.range_add, List.map_append, List.map_map]
  congr 1
  refine List.map_congr_left fun j _ => ?_
  show letN n s (0 + j) = letN n s (0 + (n + j))
  rw [← let_mod n s (0 + (n + j)), ← let_mod n s (0 + j)]
  congr 1
  simp

/-! ### how many ones there are in so many letters -/

def onesW (n s a k : Nat) : Nat := (wordL n s a k).count true

theorem onesW_fl {n s : Nat} (h0 : 0 < n) (hs : s ≤ n) (a k : Nat) : flN n s (a + k) = flN n s a + onesW n s a k := ones_word h0 hs a k

theorem onesW_le (n s a k : Nat) : onesW n s a k ≤ k := by
  have := List.count_le_length (a := true) (l := wordL n s a k)
  rw [wordL_length] at this
  exact this

theorem onesW_bal {n s : Nat} (h0 : 0 < n) (hs : s ≤ n) (a b k : Nat) : onesW n s a k ≤ onesW n s b k + 1 := by
  have h1 := onesW_fl h0 hs a k
  have h2 := onesW_fl h0 hs b k
  have h3 := bal_fl h0 s a b k
  omega

theorem onesW_mod (n s a k : Nat) : onesW n s (a % n) k = onesW n s a k := by unfold onesW; rw [word_mod]

theorem onesW_succ (n s a k : Nat) : onesW n s a (k + 1) = onesW n s a k + (letN n s (a + k)).toNat := by
  unfold onesW
  rw [wordL_succ, List.count_append, List.count_singleton]
  cases letN n s (a + k) <;> rfl

/-- of fewer letters than all there are not as many ones everywhere -/
theorem onesW_two {n s : Nat} (hs : s ≤ n) (hg : Nat.gcd n s = 1) {k : Nat} (k1 : 1 ≤ k) (hk : k < n) (v : Nat) : ∃ a, a < n ∧ onesW n s a k ≠ v := by
  have h0 : 0 < n := by omega
  apply Classical.byContradiction
  intro no
  have all : ∀ a, onesW n s a k = v := fun a => by
    rw [← onesW_mod]
    by_cases c : onesW n s (a % n) k = v
    · exact c
    · exact absurd ⟨a % n, Nat.mod_lt _ h0, c⟩ no
  have up : ∀ j, flN n s (j * k) = j * v := by
    intro j
    induction j with
    | zero => unfold flN; simp
    | succ j ih =>
      rw [Nat.succ_mul, onesW_fl h0 hs, ih, all, Nat.succ_mul]
  have e := up n
  unfold flN at e
  rw [Nat.mul_assoc, Nat.mul_div_cancel_left _ h0] at e
  have d : n ∣ k * s := ⟨v, e⟩
  have d2 : n ∣ k := Nat.Coprime.dvd_of_dvd_mul_right hg d
  have := Nat.le_of_dvd (by omega) d2
  omega

theorem onesW_pair {n s : Nat} (hs : s ≤ n) (hg : Nat.gcd n s = 1) {k : Nat} (k1 : 1 ≤ k) (hk : k < n) :
    ∃ c, c < k ∧ (∀ a, onesW n s a k = c ∨ onesW n s a k = c + 1) ∧ (∃ a, a < n ∧ onesW n s a k = c) ∧ ∃ a, a < n ∧ onesW n s a k = c + 1 := by
  have h0 : 0 < n := by omega
  obtain ⟨a, ha, na⟩ := onesW_two hs hg k1 hk (onesW n s 0 k)
  have b1 := onesW_bal h0 hs a 0 k
  have b2 := onesW_bal h0 hs 0 a k
  have l1 := onesW_le n s a k
  have l2 := onesW_le n s 0 k
  by_cases c : onesW n s a k < onesW n s 0 k
  · refine ⟨onesW n s a k, by omega, fun b => ?_, ⟨a, ha, rfl⟩, ⟨0, h0, by omega⟩⟩
    have := onesW_bal h0 hs b a k
    have := onesW_bal h0 hs 0 b k
    omega
  · refine ⟨onesW n s 0 k, by omega, fun b => ?_, ⟨0, h0, rfl⟩, ⟨a, ha, by omega⟩⟩
    have := onesW_bal h0 hs b 0 k
    have := onesW_bal h0 hs a b k
    omega

/-! ### spans -/

/-- so many numbers from a place on, round and round, added -/
def spanS (G : List Int) (f : Nat) : Nat → Int
  | 0 => 0
  | k + 1 => spanS G f k + G.getD ((f + k) % G.length) 0

theorem spanS_succ (G : List Int) (f k : Nat) : spanS G f (k + 1) = spanS G f k + G.getD ((f + k) % G.length) 0 := rfl

def spanL (G : List Int) (k : Nat) : List Int := (List.range G.length).map fun f => spanS G f k

theorem spanL_length (G : List Int) (k : Nat) : (spanL G k).length = G.length := by simp [spanL]

theorem spanL_getD {G : List Int} {k f : Nat} (h : f < G.length) : (spanL G k).getD f 0 = spanS G f k := by
  rw [List.getD_eq_getElem?_getD]
  simp [spanL, h]

theorem spanL_one (G : List Int) : spanL G 1 = G := by
  apply List.ext_getElem (by rw [spanL_length])
  intro f h1 h2
  have a := spanL_getD (k := 1) h2
  rw [List.getD_eq_getElem?_getD, List.getElem?_eq_getElem h1] at a
  rw [spanS_succ, Nat.add_zero, Nat.mod_eq_of_lt h2, List.getD_eq_getElem?_getD, List.getElem?_eq_getElem h2] at a
  have a' : (spanL G 1)[f] = 0 + G[f] := a
  omega

theorem mem_spanL {G : List Int} {k : Nat} {x : Int} : x ∈ spanL G k ↔ ∃ f, f < G.length ∧ spanS G f k = x := by
  unfold spanL
  simp

theorem spanS_bd {G : List Int} {B : Int} (hB : ∀ i, i < G.length → 1 ≤ G.getD i 0 ∧ G.getD i 0 ≤ B) (h0 : 0 < G.length) (f k : Nat) : (k : Int) ≤ spanS G f k ∧ spanS G f k ≤ k * B := by
  induction k with
  | zero => exact ⟨Int.le_refl _, by show (0 : Int) ≤ _; simp⟩
  | succ k ih =>
    have := hB ((f + k) % G.length) (Nat.mod_lt _ h0)
    rw [spanS_succ, show ((k + 1 : Nat) : Int) = (k : Int) + 1 by omega, Int.add_mul, Int.one_mul]
    omega

/-- all of them together are the same wherever one begins -/
theorem spanS_from (G : List Int) (f : Nat) : ∀ a b, spanS G f (a + b) = spanS G f a + spanS G (f + a) b := by
  intro a b
  induction b with
  | zero => show _ = _ + (0 : Int); rw [Nat.add_zero]; omega
  | succ b ih =>
    rw [← Nat.add_assoc, spanS_succ, spanS_succ, ih, ← Nat.add_assoc]
    omega

theorem spanS_turn {G : List Int} (h0 : 0 < G.length) (f k : Nat) : spanS G (f + G.length) k = spanS G f k := by
  induction k with
  | zero => rfl
  | succ k ih =>
    rw [spanS_succ, spanS_succ, ih, show f + G.length + k = f + k + G.length by omega, Nat.add_mod_right]

theorem spanS_all {G : List Int} (h0 : 0 < G.length) (f : Nat) : spanS G f G.length = spanS G 0 G.length := by
  induction f with
  | zero => rfl
  | succ f ih =>
    rw [← ih]
    have a := spanS_from G f 1 G.length
    have b := spanS_from G f G.length 1
    rw [Nat.add_comm 1 G.length, b, spanS_turn h0] at a
    omega

theorem spanS_first {G : List Int} : ∀ k, k ≤ G.length → spanS G 0 k = sumT G k := by
  intro k
  induction k with
  | zero => intro _; simp [spanS, sumT]
  | succ k ih =>
    intro hk
    rw [spanS_succ, ih (by omega), sumT_succ G (by omega), Nat.zero_add, Nat.mod_eq_of_lt (by omega)]

/-- in a scale a span is told by its ones -/
theorem span_ones {n s : Int} (ht : tok n s = true) {m p q : Nat} (h2 : 2 ≤ m) (hm : (m : Int) ≤ n) (hp : IsMin n s m p) (hq : IsMax n s m q) (he : p + q = m) (f k : Nat) :
    spanS (gapsT n s m) f k = k * pt n s p + onesW m p f k * (n - pt n s q - pt n s p) := by
  have hl := gapsT_length n s m
  induction k with
  | zero => simp [spanS, onesW, wordL]
  | succ k ih =>
    have hx : (f + k) % m < m := Nat.mod_lt _ (by omega)
    rw [spanS_succ, hl, ih, scale_letters ht h2 hm hp hq he hx, let_mod, onesW_succ, show ((k + 1 : Nat) : Int) = (k : Int) + 1 by omega, Int.add_mul, Int.one_mul]
    generalize (k : Int) * pt n s p = x
    cases letN m p (f + k) with
    | false =>
      simp
      omega
    | true =>
      rw [if_pos rfl, show ((onesW m p f k + true.toNat : Nat) : Int) = (onesW m p f k : Int) + 1 by simp, Int.add_mul, Int.one_mul]
      omega

/-- the lengths of spans, each once, in ascending order -/
def sizesF (n s m k : Int) : List Int := if 1 ≤ k ∧ k ≤ (gapsF n s m).length then kindsL (spanL (gapsF n s m) k.toNat) else []

theorem sizes_two {n s : Int} (ht : tok n s = true) {m p q : Nat} (h2 : 2 ≤ m) (hm : (m : Int) < n) (hp : IsMin n s m p) (hq : IsMax n s m q) (he : p + q = m) {k : Nat} (k1 : 1 ≤ k) (hk : k < m) :
    ∃ x : Int, sizesF n s m k = [x, x + (max (pt n s p) (n - pt n s q) - min (pt n s p) (n - pt n s q))] := by
  have p1 := hp.1; have q1 := hq.1
  have hl := gapsT_length n s m
  unfold sizesF
  rw [gapsF_yes ht (by omega) (by omega), hl, if_pos (by omega), Int.toNat_natCast]
  obtain ⟨c, hc, all, ⟨a, ha, ea⟩, ⟨b, hb, eb⟩⟩ := onesW_pair (n := m) (s := p) (by omega) (scale_coprime ht h2 (by omega) hp hq he) k1 hk
  have hev := scale_even ht (by omega : (m : Int) ≤ n) hp hq (by omega)
  have hne : ¬ pt n s p = n - pt n s q := fun h => by have := hev.1 h; omega
  have val := fun f => span_ones ht h2 (by omega) hp hq he f k
  obtain ⟨k1', k2⟩ := kindsL_is (spanL (gapsT n s m) k)
  have eb2 : ((c + 1 : Nat) : Int) * (n - pt n s q - pt n s p) = c * (n - pt n s q - pt n s p) + (n - pt n s q - pt n s p) := by rw [show ((c + 1 : Nat) : Int) = (c : Int) + 1 by omega, Int.add_mul, Int.one_mul]
  generalize hX : (c : Int) * (n - pt n s q - pt n s p) = X at *
  generalize hK : (k : Int) * pt n s p = K at *
  have m1 : ∀ x, x ∈ spanL (gapsT n s m) k ↔ x = K + X ∨ x = K + (X + (n - pt n s q - pt n s p)) := fun x => by
    rw [mem_spanL]
    constructor
    · rintro ⟨f, _, rfl⟩
      rw [val]
      rcases all f with e | e
      · rw [e, hX]; exact .inl rfl
      · rw [e, eb2]; exact .inr rfl
    · rintro (rfl | rfl)
      · exact ⟨a, by rw [hl]; exact ha, by rw [val, ea, hX]⟩
      · exact ⟨b, by rw [hl]; exact hb, by rw [val, eb, eb2]⟩
  generalize pt n s p = A at *
  generalize n - pt n s q = B at *
  by_cases h : A < B
  · refine ⟨K + X, asc_ext k1' (by simp; omega) fun x => ?_⟩
    rw [k2, m1]
    simp
    omega
  · refine ⟨K + (X + (B - A)), asc_ext k1' (by simp; omega) fun x => ?_⟩
    rw [k2, m1]
    simp
    omega

theorem sizes_one {n s m : Int} : sizesF n s m 1 = kindsF n s m := by
  unfold sizesF kindsF
  by_cases c : 1 ≤ (1 : Int) ∧ (1 : Int) ≤ (gapsF n s m).length
  · rw [if_pos c, show (1 : Int).toNat = 1 from rfl, spanL_one]
  · rw [if_neg c]
    have : gapsF n s m = [] := List.length_eq_zero_iff.1 (by omega)
    rw [this]; rfl

theorem sizes_all {n s : Int} (ht : tok n s = true) {m : Nat} (h1 : 1 ≤ m) (hm : (m : Int) ≤ n) : sizesF n s m m = [n] := by
  have hl := gapsT_length n s m
  unfold sizesF
  rw [gapsF_yes ht (by omega) (by omega), hl, if_pos (by omega), Int.toNat_natCast]
  obtain ⟨k1, k2⟩ := kindsL_is (spanL (gapsT n s m) m)
  have tot := gaps_total (turns_of ht) h1 hm
  have val : ∀ f, spanS (gapsT n s m) f m = n := fun f => by
    have a := spanS_all (G := gapsT n s m) (by omega) f
    have b := spanS_first (G := gapsT n s m) m (by omega)
    rw [hl] at a
    rw [a, b, tot]
  refine asc_ext k1 (by simp) fun x => ?_
  rw [k2, mem_spanL, List.mem_singleton]
  constructor
  · rintro ⟨f, _, rfl⟩; exact val f
  · rintro rfl; exact ⟨0, by omega, val 0⟩

theorem sizes_no {n s m k : Int} (h : ¬ (1 ≤ k ∧ k ≤ (gapsF n s m).length)) : sizesF n s m k = [] := by unfold sizesF; rw [if_neg h]

theorem sizes_some {n s m k : Int} (h1 : 1 ≤ k) (h2 : k ≤ (gapsF n s m).length) : sizesF n s m k ≠ [] := by
  unfold sizesF
  rw [if_pos ⟨h1, h2⟩]
  intro e
  have := ((kindsL_is (spanL (gapsF n s m) k.toNat)).2 (spanS (gapsF n s m) 0 k.toNat)).2 (mem_spanL.2 ⟨0, by omega, rfl⟩)
  rw [e] at this
  simp at this
end Go.Proofs.Ytokmmbmkfpfmgaa

set_option linter.unusedVariables false
namespace Go.Proofs.Ytokmmbmkfpfmgaa

set_option maxRecDepth 4000
open N

/-- the gaps as letters: is it more than the least one -/
def patF (n s m : Int) : List Bool := if scaleF n s m = true then (gapsF n s m).map fun g => !decide (g = leastF n s m) else []

theorem patF_no {n s m : Int} (h : ¬ scaleF n s m = true) : patF n s m = [] := if_neg h

theorem patF_yes {n s m : Int} (h : scaleF n s m = true) : patF n s m = (gapsF n s m).map fun g => !decide (g = leastF n s m) := if_pos h

/-- what a scale is, in plain numbers -/
theorem scale_nat {n s m : Int} (h : scaleF n s m = true) : ∃ M p q : Nat, m = M ∧ tok n s = true ∧ 2 ≤ M ∧ (M : Int) ≤ n ∧ IsMin n s M p ∧ IsMax n s M q ∧ p + q = M ∧ nearA n s M = p ∧ nearB n s M = q := by
  obtain ⟨p, q, ht, h2, hm, hp, hq, e⟩ := scaleF_iff.1 h
  obtain ⟨M, rfl⟩ := Int.eq_ofNat_of_zero_le (show 0 ≤ m by omega)
  obtain ⟨P, rfl⟩ := Int.eq_ofNat_of_zero_le (show 0 ≤ p by have := hp.1; omega)
  obtain ⟨Q, rfl⟩ := Int.eq_ofNat_of_zero_le (show 0 ≤ q by have := hq.1; omega)
  exact ⟨M, P, Q, rfl, ht, by omega, hm, hp, hq, by omega, nearA_of ht h2 hm hp, nearB_of ht h2 hm hq⟩

theorem patF_len {n s m : Int} (h : scaleF n s m = true) : ((patF n s m).length : Int) = m := by
  obtain ⟨M, p, q, rfl, ht, h2, hm, _⟩ := scale_nat h
  rw [patF_yes h, List.length_map, gapsF_yes ht (by omega) hm, gapsT_length]

theorem patF_le (n s m : Int) : (patF n s m).length ≤ 60 := by
  by_cases h : scaleF n s m = true
  · obtain ⟨M, p, q, rfl, ht, h2, hm, _⟩ := scale_nat h
    have := patF_len h
    have := tok_bd ht
    omega
  · rw [patF_no h]; simp

theorem pat_words {n s : Int} {m p q : Nat} (ht : tok n s = true) (h2 : 2 ≤ m) (hm : (m : Int) ≤ n) (hp : IsMin n s m p) (hq : IsMax n s m q) (he : p + q = m) :
    patF n s m = (if pt n s p < n - pt n s q then wordL m p 0 m else if n - pt n s q < pt n s p then (wordL m p 0 m).map (!·) else List.replicate m false) := by
  have hs : scaleF n s m = true := scaleF_iff.2 ⟨p, q, ht, by omega, hm, hp, hq, by omega⟩
  have hl := least_near ht h2 hm
  rw [nearA_of ht (by omega) hm hp, nearB_of ht (by omega) hm hq] at hl
  have len := gapsT_length n s m
  have lt := fun i (hi : i < m) => scale_letters ht h2 hm hp hq he hi
  rw [patF_yes hs, gapsF_yes ht (by omega) hm, hl]
  have at' : ∀ i (hi : i < m), (gapsT n s m)[i]'(by rw [len]; exact hi) = if letN m p i = true then n - pt n s q else pt n s p := fun i hi => by
    have a := lt i hi
    rw [List.getD_eq_getElem?_getD, List.getElem?_eq_getElem (by rw [len]; exact hi)] at a
    exact a
  generalize pt n s p = A at *
  generalize n - pt n s q = B at *
  by_cases c : A < B
  · rw [if_pos c]
    apply List.ext_getElem (by rw [List.length_map, len, wordL_length])
    intro i i1 i2
    have hi : i < m := by rw [wordL_length] at i2; exact i2
    rw [List.getElem_map, at' i hi]
    simp only [wordL, List.getElem_map, List.getElem_range, Nat.zero_add]
    cases letN m p i with
    | true => rw [if_pos rfl]; simp; omega
    | false => rw [if_neg (by simp)]; simp; omega
  · rw [if_neg c]
    by_cases d : B < A
    · rw [if_pos d]
      apply List.ext_getElem (by rw [List.length_map, List.length_map, len, wordL_length])
      intro i i1 i2
      have hi : i < m := by rw [List.length_map, wordL_length] at i2; exact i2
      rw [List.getElem_map, at' i hi]
      simp only [wordL, List.getElem_map, List.getElem_range, Nat.zero_add]
      cases letN m p i with
      | true => rw [if_pos rfl]; simp; omega
      | false => rw [if_neg (by simp)]; simp; omega
    · rw [if_neg d]
      apply List.ext_getElem (by rw [List.length_map, len, List.length_replicate])
      intro i i1 i2
      have hi : i < m := by rw [List.length_replicate] at i2; exact i2
      rw [List.getElem_map, at' i hi]
      cases letN m p i with
      | true => rw [if_pos rfl]; simp; omega
      | false => rw [if_neg (by simp)]; simp; omega

theorem winO_none (k i l : Nat) : winO (List.replicate k false) i l = 0 := by
  unfold winO
  rw [List.count_eq_zero]
  intro h
  have := List.mem_of_mem_drop (List.mem_of_mem_take h)
  rw [List.mem_replicate] at this
  exact absurd this.2 (by simp)

/-- twice the pattern is balanced -/
theorem pat_bal {n s m : Int} (h : scaleF n s m = true) : Bal (patF n s m ++ patF n s m) := by
  obtain ⟨M, p, q, rfl, ht, h2, hm, hp, hq, he, _⟩ := scale_nat h
  have q1 := hq.1
  rw [pat_words ht h2 hm hp hq he]
  split
  · rw [word_twice (by omega)]
    exact bal_word (by omega) (by omega) _ _
  · split
    · rw [← List.map_append, word_twice (by omega)]
      exact (bal_word (by omega) (by omega) _ _).not
    · rw [List.replicate_append_replicate]
      intro i j l _ _
      rw [winO_none, winO_none]
      omega

/-- its ones are the greater gaps -/
theorem pat_ones {n s m : Int} (h : scaleF n s m = true) : ((patF n s m).count true = 0 ↔ greatF n s m = leastF n s m) ∧ ((patF n s m).count true ≠ 0 → (patF n s m).count true = (gapsF n s m).count (greatF n s m)) := by
  obtain ⟨M, p, q, rfl, ht, h2, hm, hp, hq, he, _⟩ := scale_nat h
  have gm := gapsF_yes ht (by omega : 1 ≤ M) hm
  obtain ⟨_, ⟨j, hj, ej⟩, ⟨i, hi, ei⟩, lo, hi'⟩ := gaps_facts ht (by omega : 1 ≤ M) hm
  rw [← greatF_yes ht (by omega) hm] at ej hi'
  rw [← leastF_yes ht (by omega) hm] at ei lo
  have gl := least_great ht (by omega : 1 ≤ M) hm
  have len := gapsT_length n s M
  have mem := fun x => scale_gaps (x := x) ht hm hp hq (by omega)
  have mg : greatF n s M ∈ gapsT n s M := by rw [ej]; exact getD_mem' 0 (by rw [len]; exact hj)
  have ml : leastF n s M ∈ gapsT n s M := by rw [ei]; exact getD_mem' 0 (by rw [len]; exact hi)
  have up : ∀ x ∈ gapsT n s M, x ≤ greatF n s M := fun x hx => by
    obtain ⟨k, hk, e⟩ := mem_getD 0 hx
    rw [len] at hk
    rw [← e]; exact hi' k hk
  have dn : ∀ x ∈ gapsT n s M, leastF n s M ≤ x := fun x hx => by
    obtain ⟨k, hk, e⟩ := mem_getD 0 hx
    rw [len] at hk
    rw [← e]; exact lo k hk
  have cnt : (patF n s M).count true = (gapsT n s M).countP (fun g => !decide (g = leastF n s M)) := by
    rw [patF_yes h, gm, List.count, List.countP_map]
    congr 1
    funext g
    simp
  rw [cnt, gm]
  constructor
  · rw [List.countP_eq_zero]
    constructor
    · intro z
      have := z _ mg
      simpa using this
    · intro e x hx
      have a := up x hx; have b := dn x hx
      simp
      omega
  · intro nz
    have ne : greatF n s M ≠ leastF n s M := fun e => nz (by
      rw [List.countP_eq_zero]
      intro x hx
      have a := up x hx; have b := dn x hx
      simp
      omega)
    unfold List.count
    apply List.countP_congr
    intro x hx
    have a := (mem x).1 hx
    have b := (mem _).1 mg
    have c := (mem _).1 ml
    have d := up x hx; have e := dn x hx
    simp
    omega

/-- the other way round it is a scale, and its gaps are the same from behind -/
theorem scale_back {n s m : Int} : scaleF n (n - s) m = scaleF n s m := by
  unfold scaleF
  have e : nearB n (n - s) m = nearA n s m := by
    have := nearA_back (n := n) (s := n - s) (m := m)
    rw [show n - (n - s) = s by omega] at this
    exact this.symm
  rw [nearA_back, e]
  by_cases c : tok n s = true ∧ 2 ≤ m ∧ m ≤ n
  · have a := (nearA_is c.1 c.2.1 c.2.2).1
    have b := (nearB_is c.1 c.2.1 c.2.2).1
    rw [decide_eq_true (show 0 < nearB n s m by omega), decide_eq_true (show 0 < nearA n s m by omega), Int.add_comm]
  · rw [nearA_no c, nearB_no c]

theorem gapsT_back {n s : Int} (ht : tok n s = true) {m : Nat} (hm : (m : Int) ≤ n) : gapsT n (n - s) m = (gapsT n s m).reverse := by
  have l1 := gapsT_length n s m
  have l2 := gapsT_length n (n - s) m
  apply List.ext_getElem (by rw [List.length_reverse, l1, l2])
  intro i i1 i2
  rw [l2] at i1
  have a := gaps_back ht hm (k := m - 1 - i) (by omega)
  rw [show m - 1 - (m - 1 - i) = i by omega, List.getD_eq_getElem?_getD, List.getElem?_eq_getElem (by rw [l2]; exact i1), List.getD_eq_getElem?_getD, List.getElem?_eq_getElem (by rw [l1]; omega)] at a
  rw [List.getElem_reverse]
  have b : (gapsT n s m).length - 1 - i = m - 1 - i := by rw [l1]
  simp only [b]
  exact a

theorem least_back {n s : Int} (ht : tok n s = true) {m : Nat} (h1 : 1 ≤ m) (hm : (m : Int) ≤ n) : leastF n (n - s) m = leastF n s m := by
  have hb : tok n (n - s) = true := by rw [tok_back]; exact ht
  obtain ⟨_, _, ⟨i, hi, ei⟩, lo, _⟩ := gaps_facts ht h1 hm
  obtain ⟨_, _, ⟨j, hj, ej⟩, lo', _⟩ := gaps_facts hb h1 hm
  rw [← leastF_yes ht h1 hm] at ei lo
  rw [← leastF_yes hb h1 hm] at ej lo'
  have a := gaps_back ht hm hi
  have b := gaps_back ht hm (k := m - 1 - j) (by omega)
  rw [show m - 1 - (m - 1 - j) = j by omega] at b
  have c := lo' (m - 1 - i) (by omega)
  have d := lo (m - 1 - j) (by omega)
  omega

theorem pat_back {n s m : Int} (h : scaleF n s m = true) : patF n (n - s) m = (patF n s m).reverse := by
  obtain ⟨M, p, q, rfl, ht, h2, hm, _⟩ := scale_nat h
  have hb : tok n (n - s) = true := by rw [tok_back]; exact ht
  rw [patF_yes h, patF_yes (by rw [scale_back]; exact h), gapsF_yes ht (by omega) hm, gapsF_yes hb (by omega) hm, gapsT_back ht hm, least_back ht (by omega) hm, List.map_reverse]
end Go.Proofs.Ytokmmbmkfpfmgaa
