/- What chapter 12's laws say of scales. -/
import Derived.Test.YtokmmbmkfpfmgaaGScl
import Derived.Test.YtokmmbmkfpfmgaaLong
import Derived.Test.YtokmmbmkfpfmgaaGNear
set_option linter.unusedVariables false
namespace Go.Proofs.Ytokmmbmkfpfmgaa
set_option maxRecDepth 4000

set_option maxRecDepth 4000
open Go.ChangeShapes Go.WideShapes Go.ChangeAt Go.RowKit Go.Joins N

theorem hold_on {a w w' : World} (h : Below a.heap.size a w) (hb : Below w.heap.size w w') : Below a.heap.size a w' := h.trans (hb.mono h.size)

theorem scale_law {n s m : Int} (h : scaleF n s m = true) : ∃ (M p q : Nat) (A B : Int), m = M ∧ tok n s = true ∧ 2 ≤ M ∧ (M : Int) ≤ n ∧ nearA n s M = p ∧ nearB n s M = q ∧ p + q = M ∧ 1 ≤ p ∧ 1 ≤ q ∧
    gapsByF n s M = [A, (M : Int) - p, B, (M : Int) - q, A + B, 0] ∧ (kindsF n s M).length = (if (M : Int) = n then 1 else 2) ∧ ((M : Int) ≠ n → longF n s M A = q ∧ longF n s M B = p) ∧ 1 ≤ A ∧ A ≤ 60 ∧ 1 ≤ B ∧ B ≤ 60 := by
  obtain ⟨M, p, q, rfl, ht, h2, hm, hp, hq, he, eA, eB⟩ := scale_nat h
  have hb := tok_bd ht
  have p1 := hp.1; have q1 := hq.1
  have hT := turns_of ht
  have a0 := hT.pos (k := (p : Int)) (by omega) (by omega)
  have b0 := hT.pos (k := (q : Int)) (by omega) (by omega)
  have a1 := pt_hi (n := n) s (p : Int) hT.n2
  have b1 := pt_hi (n := n) s (q : Int) hT.n2
  have hk := scale_kinds ht hm hp hq (by omega)
  have hev := scale_even ht hm hp hq (by omega)
  have hc := fun x => gaps_count ht hm hp hq x
  have hg := gapsByF_yes (n := n) (s := s) (m := M) ht (by omega) hm eA eB
  have gf := gapsF_yes ht (by omega : 1 ≤ M) hm
  have gne : gapsF n s M ≠ [] := fun e => by
    have := gapsT_length n s M
    rw [← gf, e] at this
    simp at this
    omega
  refine ⟨M, p, q, pt n s p, n - pt n s q, rfl, ht, h2, hm, eA, eB, he, by omega, by omega, ?_, ?_, ?_, by omega, by omega, by omega, by omega⟩
  · rw [hg, show (p : Int) + q - M = 0 by omega]
  · unfold kindsF
    rw [gf, hk]
    split <;> rfl
  · intro hne
    have ne : ¬ pt n s p = n - pt n s q := fun e => hne (hev.1 e)
    unfold longF
    rw [if_neg gne, if_neg gne, gf, hc, hc, if_pos rfl, if_neg (by omega), if_neg (by omega), if_neg ne, if_pos rfl, if_neg (by omega)]
    omega

/-- the kinds of a scale of fewer than all points -/
theorem scale_two {n s m : Int} (h : scaleF n s m = true) (hlt : m < n) : ∃ x y : Int, kindsF n s m = [x, y] ∧ 1 ≤ x ∧ x < y ∧ y ≤ 60 ∧ ∀ k : Nat, 1 ≤ k → (k : Int) < m → ∃ z : Int, sizesF n s m k = [z, z + (y - x)] := by
  obtain ⟨M, p, q, rfl, ht, h2, hm, hp, hq, he, eA, eB⟩ := scale_nat h
  have hb := tok_bd ht
  have p1 := hp.1; have q1 := hq.1
  have hT := turns_of ht
  have a0 := hT.pos (k := (p : Int)) (by omega) (by omega)
  have b0 := hT.pos (k := (q : Int)) (by omega) (by omega)
  have a1 := pt_hi (n := n) s (p : Int) hT.n2
  have b1 := pt_hi (n := n) s (q : Int) hT.n2
  have hk := scale_kinds ht hm hp hq (by omega)
  have hev := scale_even ht hm hp hq (by omega)
  have ne : ¬ pt n s p = n - pt n s q := fun e => by have := hev.1 e; omega
  rw [if_neg (by omega)] at hk
  refine ⟨_, _, by unfold kindsF; rw [gapsF_yes ht (by omega) hm, hk], by omega, by omega, by omega, fun k k1 k2 => ?_⟩
  exact sizes_two ht h2 hlt hp hq he k1 (by omega)
end Go.Proofs.Ytokmmbmkfpfmgaa
