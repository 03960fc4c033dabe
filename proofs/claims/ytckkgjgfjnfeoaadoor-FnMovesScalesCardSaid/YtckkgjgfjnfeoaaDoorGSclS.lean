/- Contracts of chapter 12's functions of the model: scales. Contracts of chapter 12's functions of the model: spans and patterns. -/
import Derived.Test.YtckkgjgfjnfeoaaDoorGScl
import Derived.Test.YtckkgjgfjnfeoaaDoorGNear
import Derived.Test.YtckkgjgfjnfeoaaDoorGKinds
import Derived.Test.YtckkgjgfjnfeoaaDoorFarS
import Derived.Test.YtckkgjgfjnfeoaaDoorGWord
import Derived.Test.YtckkgjgfjnfeoaaDoorGSort
set_option linter.unusedVariables false
namespace Go.Proofs.YtckkgjgfjnfeoaaDoor
set_option maxRecDepth 4000

set_option maxRecDepth 4000
open Go.ChangeShapes Go.WideShapes Go.ChangeAt Go.RowKit Go.Joins N

theorem near_bds (n s m : Int) : (-1 ≤ nearA n s m ∧ nearA n s m ≤ 60) ∧ (-1 ≤ nearB n s m ∧ nearB n s m ≤ 60) := by
  by_cases c : tok n s = true ∧ 2 ≤ m ∧ m ≤ n
  · have a := nearA_is c.1 c.2.1 c.2.2
    have b := nearB_is c.1 c.2.1 c.2.2
    have h := tok_bd c.1
    have a1 := a.1; have a2 := a.2.1; have b1 := b.1; have b2 := b.2.1
    omega
  · rw [nearA_no c, nearB_no c]; omega

end Go.Proofs.YtckkgjgfjnfeoaaDoor

set_option linter.unusedVariables false
namespace Go.Proofs.YtckkgjgfjnfeoaaDoor

set_option maxRecDepth 4000
open Go.ChangeShapes Go.WideShapes Go.ChangeAt Go.RowKit Go.Joins N

theorem mod_castS (a b : Nat) : (a : Int).tmod (b : Int) = ((a % b : Nat) : Int) := by rw [Int.tmod_eq_emod_of_nonneg (by omega)]; simp

theorem spanL_take (G : List Int) (k : Nat) {f : Nat} (hf : f < G.length) : (spanL G k).take (f + 1) = (spanL G k).take f ++ [spanS G f k] := by
  have hl := spanL_length G k
  rw [List.take_add_one, List.getElem?_eq_getElem (by rw [hl]; exact hf), Option.toList_some]
  have a := spanL_getD (k := k) hf
  rw [List.getD_eq_getElem?_getD, List.getElem?_eq_getElem (by rw [hl]; exact hf)] at a
  rw [show (spanL G k)[f]'(by rw [hl]; exact hf) = spanS G f k from a]

theorem sizesF_yes {n s m : Int} {K : Nat} (h1 : 1 ≤ K) (h2 : K ≤ (gapsF n s m).length) : sizesF n s m K = kindsL (spanL (gapsF n s m) K) := by
  unfold sizesF
  rw [if_pos ⟨by omega, by omega⟩, Int.toNat_natCast]

theorem patF_take {n s m : Int} (h : scaleF n s m = true) {j : Nat} (hj : j < (gapsF n s m).length) : (patF n s m).take (j + 1) = (patF n s m).take j ++ [!decide ((gapsF n s m).getD j 0 = leastF n s m)] := by
  rw [patF_yes h, List.take_add_one, List.getElem?_map, List.getElem?_eq_getElem hj, List.getD_eq_getElem?_getD, List.getElem?_eq_getElem hj]
  rfl

end Go.Proofs.YtckkgjgfjnfeoaaDoor
