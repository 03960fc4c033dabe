/- Digits by near times, of a turn: the basis and the greatest digits keep the rules of a scale; what chapter 9's functions answer. -/
import Derived.Test.YtckkgjgfjnfeoaaDoorScale
import Derived.Test.YtckkgjgfjnfeoaaDoorGQuot
set_option linter.unusedVariables false
namespace Go.Proofs.YtckkgjgfjnfeoaaDoor
set_option maxRecDepth 4000

set_option maxRecDepth 4000

def basN (n s : Nat) : List Nat := bif Nat.beq ((quotsN n s).getD 0 0) 1 then (nearN n s).dropLast.drop 1 else (nearN n s).dropLast

def mostN (n s : Nat) : List Nat := bif Nat.beq ((quotsN n s).getD 0 0) 1 then (quotsN n s).drop 1 else ((quotsN n s).getD 0 0 - 1) :: (quotsN n s).drop 1

def basAt (n s k : Nat) : Nat := (basN n s ++ [n]).getD k 0

def mostAt (n s k : Nat) : Nat := (mostN n s).getD k 0

def bmN (n s : Nat) : Nat := (basN n s).length

def chkBas (n s : Nat) : Bool :=
  Nat.ble 1 (basN n s).length && (Nat.ble (basN n s).length 8 && (Nat.beq (mostN n s).length (basN n s).length && (Nat.beq (basAt n s 0) 1 && (Nat.beq (basAt n s 1) (mostAt n s 0 + 1) &&
  (List.range (basN n s).length).all (fun k => Nat.ble 1 (mostAt n s k) && (Nat.ble (mostAt n s k) 60 && (Nat.beq k 0 || Nat.beq (basAt n s (k + 1)) (mostAt n s k * basAt n s k + basAt n s (k - 1))))))))) &&
  (Nat.beq (nearN n s).length ((quotsN n s).length + 1) && (bif Nat.beq ((quotsN n s).getD 0 0) 1 then Nat.beq ((nearN n s).getD 1 0) 1 else !Nat.beq ((nearN n s).getD 1 0) 1) && (Nat.beq ((nearN n s).getD 0 0) 1 && Nat.ble 1 (quotsN n s).length))

theorem chkBas_all : ((List.range 61).all fun n => (List.range n).all fun s => !tokN n s || chkBas n s) = true := by decide +kernel

theorem bas_facts {n s : Nat} (h : tokN n s = true) : 1 ≤ bmN n s ∧ bmN n s ≤ 8 ∧ (mostN n s).length = bmN n s ∧ Scale (basAt n s) (mostAt n s) (bmN n s) ∧ (∀ k, k < bmN n s → mostAt n s k ≤ 60) ∧ basAt n s (bmN n s) = n := by
  have c := all_turns chkBas_all h
  unfold chkBas at c
  simp only [Bool.and_eq_true, Bool.or_eq_true, Nat.ble_eq, Nat.beq_eq, List.all_eq_true, List.mem_range] at c
  obtain ⟨⟨c1, c2, c3, c4, c5, c6⟩, _⟩ := c
  refine ⟨c1, c2, c3, ⟨c4, fun _ => c5, fun k k1 k2 => ?_, fun k hk => (c6 k hk).1⟩, fun k hk => (c6 k hk).2.1, ?_⟩
  · rcases (c6 k k2).2.2 with e | e
    · omega
    · exact e
  · unfold basAt bmN
    rw [List.getD_eq_getElem?_getD, List.getElem?_append_right (Nat.le_refl _), Nat.sub_self]
    rfl

theorem bas_scale {n s : Nat} (h : tokN n s = true) : Scale (basAt n s) (mostAt n s) (bmN n s) := (bas_facts h).2.2.2.1

theorem bas_end {n s : Nat} (h : tokN n s = true) : basAt n s (bmN n s) = n := (bas_facts h).2.2.2.2.2

theorem basAt_get {n s k : Nat} (hk : k < bmN n s) : basAt n s k = (basN n s).getD k 0 := by
  unfold basAt bmN at *
  rw [List.getD_eq_getElem?_getD, List.getElem?_append_left hk, ← List.getD_eq_getElem?_getD]

theorem bas_up {B M : Nat → Nat} {m : Nat} (h : Scale B M m) {i j : Nat} (hij : i < j) (hj : j ≤ m) : B i < B j := by
  induction j with
  | zero => omega
  | succ j ih =>
    have l := h.lt (k := j) (by omega)
    by_cases c : i = j
    · subst c; exact l
    · have := ih (by omega) (by omega); omega

theorem bas_lt {n s k : Nat} (h : tokN n s = true) (hk : k < bmN n s) : basAt n s k < n := by
  have := bas_up (bas_scale h) hk (Nat.le_refl _)
  rwa [bas_end h] at this

theorem bas_near {n s : Nat} : ∀ x ∈ basN n s, x ∈ nearN n s := by
  intro x hx
  unfold basN at hx
  cases c : Nat.beq ((quotsN n s).getD 0 0) 1 with
  | true => rw [c] at hx; exact List.dropLast_subset _ (List.drop_subset _ _ hx)
  | false => rw [c] at hx; exact List.dropLast_subset _ hx

/-! ### what the functions answer -/

def basisF (n s : Int) : List Int := if tok n s = true then castL (basN n.toNat s.toNat) else []

def mostF (n s : Int) : List Int := if tok n s = true then castL (mostN n.toNat s.toNat) else []

theorem basisF_yes {n s : Nat} (h : tokN n s = true) : basisF n s = castL (basN n s) := by unfold basisF; rw [if_pos (tok_of_tokN h)]; rfl

theorem mostF_yes {n s : Nat} (h : tokN n s = true) : mostF n s = castL (mostN n s) := by unfold mostF; rw [if_pos (tok_of_tokN h)]; rfl

theorem basisF_no {n s : Int} (h : ¬ tok n s = true) : basisF n s = [] := if_neg h

theorem mostF_no {n s : Int} (h : ¬ tok n s = true) : mostF n s = [] := if_neg h

theorem basisF_len (n s : Int) : (basisF n s).length ≤ 8 := by
  by_cases h : tok n s = true
  · obtain ⟨N, S, rfl, rfl, hN⟩ := tokN_of h
    rw [basisF_yes hN, castL_len]; exact (bas_facts hN).2.1
  · rw [basisF_no h]; simp

theorem mostF_len (n s : Int) : (mostF n s).length ≤ 8 := by
  by_cases h : tok n s = true
  · obtain ⟨N, S, rfl, rfl, hN⟩ := tokN_of h
    rw [mostF_yes hN, castL_len, (bas_facts hN).2.2.1]; exact (bas_facts hN).2.1
  · rw [mostF_no h]; simp

def digN (n s k : Nat) : List Nat := (List.range (bmN n s)).map (digD (basAt n s) (bmN n s) k)

theorem digN_len (n s k : Nat) : (digN n s k).length = bmN n s := by simp [digN]

theorem digN_get {n s k i : Nat} (hi : i < bmN n s) : (digN n s k).getD i 0 = digD (basAt n s) (bmN n s) k i := by
  simp [digN, List.getD_eq_getElem?_getD, hi]

def digF (n s k : Int) : List Int := if tok n s = true ∧ 0 ≤ k ∧ k < n then castL (digN n.toNat s.toNat k.toNat) else []

theorem digF_yes {n s k : Nat} (h : tokN n s = true) (hk : k < n) : digF n s k = castL (digN n s k) := by
  unfold digF
  rw [if_pos ⟨tok_of_tokN h, by omega, by omega⟩]
  rfl

theorem digF_no {n s k : Int} (h : ¬ (tok n s = true ∧ 0 ≤ k ∧ k < n)) : digF n s k = [] := if_neg h

theorem digF_len (n s k : Int) : (digF n s k).length ≤ 8 := by
  by_cases h : tok n s = true ∧ 0 ≤ k ∧ k < n
  · obtain ⟨h, h0, h1⟩ := h
    obtain ⟨N, S, rfl, rfl, hN⟩ := tokN_of h
    obtain ⟨k, rfl⟩ := Int.eq_ofNat_of_zero_le h0
    rw [digF_yes hN (by omega), castL_len, digN_len]; exact (bas_facts hN).2.1
  · rw [digF_no h]; simp

/-- digits of a row, as plain numbers -/
def dAt (D : List Int) (i : Nat) : Nat := (D.getD i 0).toNat

/-- the k lowest of a row's digits keep the rules -/
def okB (M : Nat → Nat) (D : List Int) : Nat → Bool
  | 0 => true
  | k + 1 => okB M D k && (decide (0 ≤ D.getD k 0 ∧ D.getD k 0 ≤ (M k : Int)) && !decide (0 < k ∧ D.getD k 0 = (M k : Int) ∧ D.getD (k - 1) 0 ≠ 0))

theorem okB_less {M : Nat → Nat} {D : List Int} {k : Nat} (h : okB M D k = false) : ∀ j, k ≤ j → okB M D j = false := by
  intro j
  induction j with
  | zero => intro hj; have : k = 0 := by omega
            subst this; exact h
  | succ j ih =>
    intro hj
    by_cases c : k = j + 1
    · subst c; exact h
    · show (okB M D j && _) = false
      rw [ih (by omega)]; rfl

theorem okB_iff {M : Nat → Nat} {D : List Int} : ∀ k, okB M D k = true ↔ (∀ i, i < k → 0 ≤ D.getD i 0) ∧ OkD M (dAt D) k := by
  intro k
  induction k with
  | zero => exact ⟨fun _ => ⟨fun i h => by omega, fun i h => by omega, fun i _ h => by omega⟩, fun _ => rfl⟩
  | succ k ih =>
    show (okB M D k && (decide (0 ≤ D.getD k 0 ∧ D.getD k 0 ≤ (M k : Int)) && !decide (0 < k ∧ D.getD k 0 = (M k : Int) ∧ D.getD (k - 1) 0 ≠ 0))) = true ↔ _
    simp only [Bool.and_eq_true, ih, decide_eq_true_eq, Bool.not_eq_true', decide_eq_false_iff_not]
    constructor
    · rintro ⟨⟨a, b, c⟩, ⟨d, e⟩, f⟩
      refine ⟨fun i hi => ?_, fun i hi => ?_, fun i h1 hi he => ?_⟩
      · by_cases q : i = k
        · subst q; exact d
        · exact a i (by omega)
      · by_cases q : i = k
        · subst q; unfold dAt; omega
        · exact b i (by omega)
      · by_cases q : i = k
        · subst q
          by_cases z : D.getD (i - 1) 0 = 0
          · unfold dAt; rw [z]; rfl
          · exact absurd ⟨by omega, by unfold dAt at he; omega, z⟩ f
        · exact c i h1 (by omega) he
    · rintro ⟨a, b, c⟩
      refine ⟨⟨fun i hi => a i (by omega), fun i hi => b i (by omega), fun i h1 hi he => c i h1 (by omega) he⟩, ⟨a k (by omega), ?_⟩, ?_⟩
      · have := b k (by omega); have := a k (by omega); unfold dAt at *; omega
      · rintro ⟨k0, e, z⟩
        have := c k (by omega) (by omega) (by unfold dAt; omega)
        have p := a (k - 1) (by omega)
        unfold dAt at this
        omega

def okF (n s : Int) (D : List Int) : Bool := tok n s && (decide (D.length = bmN n.toNat s.toNat) && okB (mostAt n.toNat s.toNat) D (bmN n.toNat s.toNat))

theorem okF_iff {n s : Nat} {D : List Int} (h : tokN n s = true) : okF n s D = true ↔ D.length = bmN n s ∧ (∀ i, i < bmN n s → 0 ≤ D.getD i 0) ∧ OkD (mostAt n s) (dAt D) (bmN n s) := by
  unfold okF
  rw [tok_of_tokN h]
  simp only [Int.toNat_natCast, Bool.true_and, Bool.and_eq_true, decide_eq_true_eq, okB_iff]

theorem okF_no {n s : Int} {D : List Int} (h : ¬ tok n s = true) : okF n s D = false := by
  unfold okF
  have : tok n s = false := by simpa using h
  rw [this]; rfl

def numF (n s : Int) (D : List Int) : Int := if okF n s D = true then ((valD (basAt n.toNat s.toNat) (dAt D) (bmN n.toNat s.toNat) : Nat) : Int) else -1

theorem numF_yes {n s : Nat} {D : List Int} (h : okF n s D = true) : numF n s D = ((valD (basAt n s) (dAt D) (bmN n s) : Nat) : Int) := by
  unfold numF; rw [if_pos h]; rfl

theorem numF_no {n s : Int} {D : List Int} (h : okF n s D = false) : numF n s D = -1 := by
  unfold numF; rw [h]; rfl

theorem ok_tok {n s : Int} {D : List Int} (h : okF n s D = true) : tok n s = true := by
  by_cases c : tok n s = true
  · exact c
  · rw [okF_no c] at h; cases h

theorem num_lt {n s : Nat} {D : List Int} (h : tokN n s = true) (ho : okF n s D = true) : valD (basAt n s) (dAt D) (bmN n s) < n := by
  have := valD_lt (bas_scale h) (bmN n s) (Nat.le_refl _) ((okF_iff h).1 ho).2.2
  rwa [bas_end h] at this

theorem num_cases (n s : Int) (D : List Int) : (okF n s D = false ∧ numF n s D = -1) ∨ (okF n s D = true ∧ 0 ≤ numF n s D ∧ numF n s D < n ∧ n ≤ 60) := by
  cases h : okF n s D with
  | false => exact .inl ⟨rfl, numF_no h⟩
  | true =>
    right
    obtain ⟨N, S, rfl, rfl, hN⟩ := tokN_of (ok_tok h)
    have := num_lt hN h
    obtain ⟨_, b, _⟩ := tokN_bd hN
    rw [numF_yes h]
    exact ⟨rfl, by omega, by omega, by omega⟩

/-- the digits of a number keep the rules, and are of it -/
theorem dig_is {n s k : Nat} (h : tokN n s = true) (hk : k < n) : okF n s (castL (digN n s k)) = true ∧ numF n s (castL (digN n s k)) = k := by
  have hs := bas_scale h
  have hkb : k < basAt n s (bmN n s) := by rw [bas_end h]; exact hk
  have hd : ∀ i, i < bmN n s → dAt (castL (digN n s k)) i = digD (basAt n s) (bmN n s) k i := fun i hi => by
    unfold dAt; rw [castL_getD, digN_get hi]; rfl
  have ho := dig_ok hs hkb
  have e : okF n s (castL (digN n s k)) = true := (okF_iff h).2 ⟨by rw [castL_len, digN_len], fun i hi => by rw [castL_getD]; omega, fun i hi => by rw [hd i hi]; exact ho.1 i hi, fun i h1 hi he => by
    rw [hd i hi] at he
    rw [hd (i - 1) (by omega)]
    exact ho.2 i h1 hi he⟩
  refine ⟨e, ?_⟩
  rw [numF_yes e]
  have hv : ∀ j, j ≤ bmN n s → valD (basAt n s) (dAt (castL (digN n s k))) j = valD (basAt n s) (digD (basAt n s) (bmN n s) k) j := by
    intro j
    induction j with
    | zero => intro _; rfl
    | succ j ih =>
      intro hj
      show valD _ _ j + _ * _ = valD _ _ j + _ * _
      rw [ih (by omega), hd j (by omega)]
  rw [hv _ (Nat.le_refl _), dig_number hs hkb]

/-- digits that keep the rules are those of their number -/
theorem dig_back {n s : Nat} {D : List Int} (h : tokN n s = true) (ho : okF n s D = true) : castL (digN n s (valD (basAt n s) (dAt D) (bmN n s))) = D := by
  obtain ⟨hl, hp, hk⟩ := (okF_iff h).1 ho
  have e := dig_of (bas_scale h) hk
  apply List.ext_getElem (by rw [castL_len, digN_len, hl])
  intro i h1 h2
  have a : (castL (digN n s (valD (basAt n s) (dAt D) (bmN n s)))).getD i 0 = D.getD i 0 := by
    rw [castL_getD, digN_get (by omega), e i (by omega)]
    have := hp i (by omega)
    unfold dAt; omega
  rw [List.getD_eq_getElem?_getD, List.getElem?_eq_getElem h1, List.getD_eq_getElem?_getD, List.getElem?_eq_getElem h2] at a
  exact a

def nextP (n s : Int) (D : List Int) : Bool := decide (0 ≤ numF n s D ∧ numF n s D + 1 < n)

def nextF (n s : Int) (D : List Int) : List Int := if nextP n s D then digF n s (numF n s D + 1) else []

theorem nextF_len (n s : Int) (D : List Int) : (nextF n s D).length ≤ 8 := by
  unfold nextF
  cases nextP n s D with
  | true => exact digF_len _ _ _
  | false => simp

def dsumF (n s k : Int) : Int := if tok n s = true ∧ 0 ≤ k ∧ k < n then ((sumD (digD (basAt n.toNat s.toNat) (bmN n.toNat s.toNat) k.toNat) (bmN n.toNat s.toNat) : Nat) : Int) else -1

theorem dsumF_yes {n s k : Nat} (h : tokN n s = true) (hk : k < n) : dsumF n s k = ((sumD (digD (basAt n s) (bmN n s) k) (bmN n s) : Nat) : Int) := by
  unfold dsumF; rw [if_pos ⟨tok_of_tokN h, by omega, by omega⟩]; rfl

theorem dsumF_no {n s k : Int} (h : ¬ (tok n s = true ∧ 0 ≤ k ∧ k < n)) : dsumF n s k = -1 := if_neg h
end Go.Proofs.YtckkgjgfjnfeoaaDoor
