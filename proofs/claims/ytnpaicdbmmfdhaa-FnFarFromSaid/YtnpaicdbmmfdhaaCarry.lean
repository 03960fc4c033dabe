/- Plain numbers: the next digits, found by carrying from below. -/
import Derived.Test.YtnpaicdbmmfdhaaNumP
import Derived.Test.YtnpaicdbmmfdhaaNumG
set_option linter.unusedVariables false
namespace Go.Proofs.Ytnpaicdbmmfdhaa

set_option maxRecDepth 4000

/-- below p all digits go over: one more there -/
structure Carry (B M d : Nat → Nat) (m p : Nat) : Prop where
  le : p ≤ m
  val : valD B d p + 1 = B p
  ne : p < m → d p ≠ M p
variable {B M d : Nat → Nat} {m p : Nat}

theorem carry_zero (h : Scale B M m) (hd : d 0 ≠ M 0) : Carry B M d m 0 := ⟨Nat.zero_le _, by rw [h.b0]; rfl, fun _ => hd⟩

theorem carry_one (h : Scale B M m) (ho : OkD M d m) (hm : 1 ≤ m) (hd : d 0 = M 0) : Carry B M d m 1 := by
  refine ⟨hm, ?_, fun h1 e => ?_⟩
  · show 0 + d 0 * B 0 + 1 = B 1
    rw [h.b1 hm, h.b0, hd]; omega
  · have h0 : d 0 = 0 := ho.2 1 (Nat.le_refl _) h1 e
    have := h.mp 0 (by omega)
    omega

theorem carry_step (h : Scale B M m) (ho : OkD M d m) (c : Carry B M d m p) (hp : p + 1 < m) (hd : d (p + 1) = M (p + 1)) : Carry B M d m (p + 2) ∧ d p = 0 := by
  have h0 : d p = 0 := ho.2 (p + 1) (by omega) hp hd
  refine ⟨⟨by omega, ?_, fun h1 e => ?_⟩, h0⟩
  · show valD B d p + d p * B p + d (p + 1) * B (p + 1) + 1 = B (p + 1 + 1)
    have e := h.bs (p + 1) (by omega) hp
    have e2 := c.val
    rw [Nat.add_sub_cancel] at e
    rw [h0, hd, e, Nat.zero_mul]
    generalize M (p + 1) * B (p + 1) = X at *
    omega
  · have h1 : d (p + 1) = 0 := ho.2 (p + 2) (by omega) h1 e
    have := h.mp (p + 1) hp
    omega

def nxD (d : Nat → Nat) (p i : Nat) : Nat := if i < p then 0 else if i = p then d i + 1 else d i

theorem nx_low (B d : Nat → Nat) (p : Nat) : ∀ k, k ≤ p → valD B (nxD d p) k = 0 := by
  intro k
  induction k with
  | zero => intro _; rfl
  | succ k ih =>
    intro hk
    show valD B (nxD d p) k + nxD d p k * B k = 0
    rw [ih (by omega)]
    unfold nxD
    rw [if_pos (by omega), Nat.zero_mul]

theorem nx_high (c : Carry B M d m p) : ∀ j, valD B (nxD d p) (p + 1 + j) = valD B d (p + 1 + j) + 1 := by
  intro j
  induction j with
  | zero =>
    show valD B (nxD d p) p + nxD d p p * B p = valD B d p + d p * B p + 1
    rw [nx_low B d p p (Nat.le_refl _)]
    have hn : nxD d p p = d p + 1 := by unfold nxD; rw [if_neg (by omega), if_pos rfl]
    have e2 := c.val
    rw [hn, Nat.add_mul, Nat.one_mul]
    generalize d p * B p = X at *
    omega
  | succ j ih =>
    show valD B (nxD d p) (p + 1 + j) + nxD d p (p + 1 + j) * B (p + 1 + j) = valD B d (p + 1 + j) + d (p + 1 + j) * B (p + 1 + j) + 1
    have hn : nxD d p (p + 1 + j) = d (p + 1 + j) := by unfold nxD; rw [if_neg (by omega), if_neg (by omega)]
    rw [ih, hn]
    generalize d (p + 1 + j) * B (p + 1 + j) = X
    omega

theorem carry_ok (h : Scale B M m) (ho : OkD M d m) (c : Carry B M d m p) (hp : p < m) (hx : p + 1 < m → d (p + 1) ≠ M (p + 1)) : OkD M (nxD d p) m := by
  have hc := c.ne hp
  refine ⟨fun i hi => ?_, fun i h1 hi e => ?_⟩
  · unfold nxD
    split
    · exact Nat.zero_le _
    · split
      · rename_i e; subst e; have := ho.1 i hi; omega
      · exact ho.1 i hi
  · have hm := h.mp i hi
    unfold nxD at e ⊢
    by_cases a : i < p
    · rw [if_pos a] at e; omega
    · rw [if_neg a] at e
      by_cases b : i = p
      · rw [if_pos (by omega)]
      · rw [if_neg b] at e
        have q : i ≠ p + 1 := fun x => by subst x; exact hx hi e
        rw [if_neg (by omega), if_neg (by omega)]
        exact ho.2 i h1 hi e

theorem okD_same {M d e : Nat → Nat} {m : Nat} (hs : ∀ i, i < m → d i = e i) (h : OkD M d m) : OkD M e m :=
  ⟨fun i hi => by rw [← hs i hi]; exact h.1 i hi, fun i h1 hi x => by rw [← hs (i - 1) (by omega)]; rw [← hs i hi] at x; exact h.2 i h1 hi x⟩

theorem next_is {N S p : Nat} {D E : List Int} (hN : tokN N S = true) (ho : okF N S D = true) (c : Carry (basAt N S) (mostAt N S) (dAt D) (bmN N S) p) (hp : p < bmN N S)
    (hx : p + 1 < bmN N S → dAt D (p + 1) ≠ mostAt N S (p + 1)) (hE : E.length = bmN N S) (hv : ∀ i, i < bmN N S → E.getD i 0 = if i < p then 0 else if i = p then D.getD i 0 + 1 else D.getD i 0) :
    nextP N S D = true ∧ nextF N S D = E := by
  obtain ⟨h1, h2, h3⟩ := (okF_iff hN).1 ho
  have hd : ∀ i, i < bmN N S → nxD (dAt D) p i = dAt E i := fun i hi => by
    have a := hv i hi
    have b := h2 i hi
    unfold nxD dAt
    rw [a]
    by_cases q : i < p
    · rw [if_pos q, if_pos q]; rfl
    · rw [if_neg q, if_neg q]
      by_cases r : i = p
      · rw [if_pos r, if_pos r]; omega
      · rw [if_neg r, if_neg r]
  have hoE : okF N S E = true := (okF_iff hN).2 ⟨hE, fun i hi => by
    rw [hv i hi]
    have b := h2 i hi
    split
    · exact Int.le_refl _
    · split <;> omega, okD_same hd (carry_ok (bas_scale hN) h3 c hp hx)⟩
  have hval : valD (basAt N S) (dAt E) (bmN N S) = valD (basAt N S) (dAt D) (bmN N S) + 1 := by
    rw [← val_eq (B := basAt N S) (bmN N S) hd]
    have := nx_high c (bmN N S - (p + 1))
    rwa [show p + 1 + (bmN N S - (p + 1)) = bmN N S by omega] at this
  have hlt := num_lt hN hoE
  rw [hval] at hlt
  have hP : nextP N S D = true := by
    unfold nextP
    rw [numF_yes ho]
    exact decide_eq_true ⟨by omega, by omega⟩
  refine ⟨hP, ?_⟩
  unfold nextF
  rw [if_pos hP, numF_yes ho]
  have e := dig_back hN hoE
  rw [hval] at e
  rw [show (((valD (basAt N S) (dAt D) (bmN N S) : Nat) : Int) + 1) = ((valD (basAt N S) (dAt D) (bmN N S) + 1 : Nat) : Int) by omega, digF_yes hN hlt]
  exact e

theorem next_none {N S : Nat} {D : List Int} (hN : tokN N S = true) (ho : okF N S D = true) (c : Carry (basAt N S) (mostAt N S) (dAt D) (bmN N S) (bmN N S)) :
    nextP N S D = false ∧ nextF N S D = [] := by
  have e := c.val
  rw [bas_end hN] at e
  have hP : nextP N S D = false := by
    unfold nextP
    rw [numF_yes ho]
    exact decide_eq_false (fun h => by omega)
  exact ⟨hP, by unfold nextF; rw [hP]; rfl⟩
end Go.Proofs.Ytnpaicdbmmfdhaa
