/- Plain numbers: turns are told by quotients. -/
import Derived.Test.YtckkgjgfjnfeoaaDoorGRec
set_option linter.unusedVariables false
namespace Go.Proofs.YtckkgjgfjnfeoaaDoor
set_option maxRecDepth 4000

def castL (xs : List Nat) : List Int := xs.map fun x : Nat => (x : Int)

theorem castL_snoc (xs : List Nat) (k : Nat) : castL (xs ++ [k]) = castL xs ++ [(k : Int)] := by simp [castL]

theorem castL_len (xs : List Nat) : (castL xs).length = xs.length := by simp [castL]

theorem castL_getD (xs : List Nat) (i : Nat) : (castL xs).getD i 0 = ((xs.getD i 0 : Nat) : Int) := by
  simp only [castL, List.getD_eq_getElem?_getD, List.getElem?_map]
  cases xs[i]? <;> simp

theorem castL_inj {xs ys : List Nat} : castL xs = castL ys ↔ xs = ys := by
  constructor
  · intro h
    exact (List.map_inj_right (fun a b h => by omega)).1 h
  · rintro rfl; rfl

/-- from behind: both numbers of a fraction, as long as they are small -/
def fqStep (x : Int) : Option (Nat × Nat) → Option (Nat × Nat)
  | none => none
  | some (a, b) => if 1 ≤ x ∧ x ≤ 60 ∧ x.toNat * a + b ≤ 60 then some (x.toNat * a + b, a) else none

def fqO (L : List Int) : Option (Nat × Nat) := L.foldr fqStep (some (1, 0))

theorem fqO_cons (x : Int) (r : List Int) : fqO (x :: r) = fqStep x (fqO r) := rfl

def fromF (L : List Int) : (Int × Int) × Bool :=
  if 1 ≤ L.length ∧ L.length ≤ 8 ∧ 2 ≤ L.getD (L.length - 1) 0 then
    match fqO L with
    | some (a, b) => if tok a b = true then (((a : Int), (b : Int)), true) else ((0, 0), false)
    | none => ((0, 0), false)
  else ((0, 0), false)

theorem fqO_drop {L : List Int} {k : Nat} (h : k < L.length) : fqO (L.drop k) = fqStep (L.getD k 0) (fqO (L.drop (k + 1))) := by
  rw [List.drop_eq_getElem_cons h, fqO_cons, List.getD_eq_getElem?_getD, List.getElem?_eq_getElem h]; rfl

theorem fqStep_some {x : Int} {a b : Nat} (h1 : 1 ≤ x) (h2 : x ≤ 60) (h3 : x.toNat * a + b ≤ 60) : fqStep x (some (a, b)) = some (x.toNat * a + b, a) := if_pos ⟨h1, h2, h3⟩

theorem fqStep_none {x : Int} {a b : Nat} (h : ¬ (1 ≤ x ∧ x ≤ 60 ∧ x.toNat * a + b ≤ 60)) : fqStep x (some (a, b)) = none := if_neg h

/-- once it is too great it stays so -/
theorem fqO_none {L : List Int} {k : Nat} (h : fqO (L.drop k) = none) : fqO L = none := by
  induction k with
  | zero => simpa using h
  | succ k ih =>
    by_cases hk : k < L.length
    · refine ih ?_
      rw [fqO_drop hk, h]; rfl
    · rw [List.drop_eq_nil_of_le (by omega)] at h
      cases h

theorem quotsF_pos {f a b : Nat} (hb : 0 < b) : quotsF (f + 1) a b = (a / b) :: quotsF f b (a % b) := by
  have : Nat.beq b 0 = false := beq_no (by omega)
  rw [quotsF, this]; rfl

theorem quotsF_zero (f a : Nat) : quotsF f a 0 = [] := by
  cases f <;> rfl

theorem fq_quots : ∀ (L : List Int) (a b : Nat), L ≠ [] → 2 ≤ L.getD (L.length - 1) 0 → fqO L = some (a, b) → 1 ≤ b ∧ b < a ∧ ∀ f, b < f → castL (quotsF f a b) = L := by
  intro L
  induction L with
  | nil => intro a b h; exact absurd rfl h
  | cons x r ih =>
    intro a b _ hl h
    rw [fqO_cons] at h
    cases hr : r with
    | nil =>
      subst hr
      have hl' : 2 ≤ x := by simpa using hl
      have h0 : fqO [] = some (1, 0) := rfl
      rw [h0] at h
      unfold fqStep at h
      simp only at h
      split at h
      · rename_i c
        simp at h
        obtain ⟨rfl, rfl⟩ := h
        refine ⟨by omega, by omega, fun f hf => ?_⟩
        obtain ⟨g, rfl⟩ : ∃ g, f = g + 1 := ⟨f - 1, by omega⟩
        rw [quotsF_pos (by omega), Nat.mod_one, quotsF_zero, Nat.div_one]
        simp [castL]
        omega
      · cases h
    | cons y r' =>
      rw [← hr]
      have hl' : 2 ≤ r.getD (r.length - 1) 0 := by
        rw [hr] at hl ⊢
        simpa using hl
      cases hf : fqO r with
      | none => rw [hf] at h; cases h
      | some ab =>
        obtain ⟨a', b'⟩ := ab
        obtain ⟨i1, i2, i3⟩ := ih a' b' (by rw [hr]; simp) hl' hf
        rw [hf] at h
        unfold fqStep at h
        simp only at h
        split at h
        · rename_i c
          simp at h
          obtain ⟨rfl, rfl⟩ := h
          have hx : 1 ≤ x.toNat := by omega
          have hm : a' ≤ x.toNat * a' := Nat.le_mul_of_pos_left a' (by omega)
          refine ⟨by omega, by omega, fun f hf => ?_⟩
          obtain ⟨g, rfl⟩ : ∃ g, f = g + 1 := ⟨f - 1, by omega⟩
          have e1 : (x.toNat * a' + b') / a' = x.toNat := by
            rw [Nat.mul_comm, Nat.mul_add_div (by omega), Nat.div_eq_of_lt i2, Nat.add_zero]
          have e2 : (x.toNat * a' + b') % a' = b' := by
            rw [Nat.mul_comm, Nat.mul_add_mod, Nat.mod_eq_of_lt i2]
          rw [quotsF_pos (by omega), e1, e2]
          show ((x.toNat : Nat) : Int) :: castL (quotsF g a' b') = x :: r
          rw [i3 g (by omega)]
          congr 1
          omega
        · cases h

theorem from_yes {L : List Int} {p : Int × Int} (h : fromF L = (p, true)) : tok p.1 p.2 = true ∧ ∃ a b : Nat, p = ((a : Int), (b : Int)) ∧ castL (quotsN a b) = L := by
  unfold fromF at h
  split at h
  · rename_i c
    cases hf : fqO L with
    | none => rw [hf] at h; simp at h
    | some ab =>
      obtain ⟨a, b⟩ := ab
      rw [hf] at h
      simp only at h
      by_cases ht : tok (a : Int) (b : Int) = true
      · rw [if_pos ht] at h
        simp at h
        subst h
        obtain ⟨i1, i2, i3⟩ := fq_quots L a b (by rintro rfl; simp at c) c.2.2 hf
        exact ⟨ht, a, b, rfl, i3 a i2⟩
      · rw [if_neg ht] at h; simp at h
  · simp at h

theorem from_no {L : List Int} (h : (fromF L).2 = false) : fromF L = ((0, 0), false) := by
  unfold fromF at h ⊢
  split
  · rename_i c
    rw [if_pos c] at h
    cases hf : fqO L with
    | none => rfl
    | some ab =>
      obtain ⟨a, b⟩ := ab
      rw [hf] at h
      simp only at h ⊢
      by_cases ht : tok (a : Int) (b : Int) = true
      · rw [if_pos ht] at h; simp at h
      · rw [if_neg ht]
  · rfl

/-- the quotients of a turn tell it -/
def fqB : List Nat → Nat × Nat × Bool
  | [] => (1, 0, true)
  | x :: r => match fqB r with | (a, b, ok) => (x * a + b, a, ok && (Nat.ble 1 x && (Nat.ble x 60 && Nat.ble (x * a + b) 60)))

theorem fqB_some : ∀ (q : List Nat), (fqB q).2.2 = true → fqO (castL q) = some ((fqB q).1, (fqB q).2.1) := by
  intro q
  induction q with
  | nil => intro _; rfl
  | cons x r ih =>
    intro h
    obtain ⟨⟨a, b, ok⟩, hab⟩ : ∃ x, fqB r = x := ⟨_, rfl⟩
    rw [fqB, hab] at h ⊢
    simp only [Bool.and_eq_true, Nat.ble_eq] at h
    have i := ih (by rw [hab]; exact h.1)
    rw [hab] at i
    show fqStep (x : Int) (fqO (castL r)) = _
    rw [i]
    simp only
    rw [fqStep_some (by omega) (by omega) (by simpa using h.2.2.2)]
    simp

def chkFrom (n s : Nat) : Bool :=
  match fqB (quotsN n s) with | (a, b, ok) => Nat.beq a n && (Nat.beq b s && ok)

theorem chkFrom_all : ((List.range 61).all fun n => (List.range n).all fun s => !tokN n s || chkFrom n s) = true := by decide +kernel

theorem from_quots {n s : Nat} (ht : tokN n s = true) : fromF (castL (quotsN n s)) = (((n : Int), (s : Int)), true) := by
  have c := all_turns chkFrom_all ht
  have d := all_turns chkQuots_all ht
  unfold chkFrom at c
  unfold chkQuots at d
  simp only [Bool.and_eq_true, Nat.ble_eq] at d
  obtain ⟨d1, d2, d3, d4, d5, d6⟩ := d
  obtain ⟨⟨a, b, ok⟩, hab⟩ : ∃ x, fqB (quotsN n s) = x := ⟨_, rfl⟩
  rw [hab] at c
  simp only [Bool.and_eq_true, Nat.beq_eq] at c
  obtain ⟨rfl, rfl, rfl⟩ := c
  have hf := fqB_some _ (by rw [hab])
  rw [hab] at hf
  have hne : quotsN a b ≠ [] := by
    intro e
    rw [e] at d2
    simp at d2
  obtain ⟨l, hl⟩ : ∃ l, (quotsN a b).getLast? = some l := by
    cases e : (quotsN a b).getLast? with
    | none => rw [e] at d2; simp at d2
    | some l => exact ⟨l, rfl⟩
  rw [hl] at d2
  simp only [Nat.ble_eq] at d2
  have hpos : 1 ≤ (quotsN a b).length := by
    cases e : quotsN a b with
    | nil => exact absurd e hne
    | cons x r => simp
  have hlast : (castL (quotsN a b)).getD ((castL (quotsN a b)).length - 1) 0 = l := by
    rw [castL_len, castL_getD, List.getD_eq_getElem?_getD, ← List.getLast?_eq_getElem?, hl]
    rfl
  unfold fromF
  rw [if_pos ⟨by rw [castL_len]; exact hpos, by rw [castL_len]; exact d6, by rw [hlast]; omega⟩, hf]
  simp only
  rw [if_pos (tok_of_tokN ht)]
end Go.Proofs.YtckkgjgfjnfeoaaDoor
