/- Contracts of NearBelow of the program, and of NextAfter, NearAbove and NearBelow of the model. Contracts of NextAfter of the model, and of GapsBy of the program and of the model. -/
import Derived.Test.YtokmmbmkfpfmgaaGSort
import Derived.Test.YtokmmbmkfpfmgaaGKit
import Derived.Test.YtokmmbmkfpfmgaaGFun
set_option linter.unusedVariables false
namespace Go.Proofs.Ytokmmbmkfpfmgaa
set_option maxRecDepth 4000
open Go.ChangeShapes Go.WideShapes Go.ChangeAt Go.RowKit Go.Joins N

theorem min_one (n s : Int) : IsMin n s 2 1 := ⟨by omega, by omega, fun j a b => by
  have e : j = 1 := by omega
  rw [e]; exact Int.le_refl _⟩

theorem max_one {n s : Int} (h : tok n s = true) : IsMax n s 2 1 := by
  have hb := tok_bd h
  refine ⟨by omega, by omega, fun j a b => ?_⟩
  by_cases e : j = 0
  · rw [e, pt0]; exact pt_lo _ _ (by omega)
  · have e : j = 1 := by omega
    rw [e]; exact Int.le_refl _

theorem min_yes {n s k b : Int} (h : IsMin n s k b) (e : pt n s k < pt n s b) : IsMin n s (k + 1) k := by
  obtain ⟨a, b, c⟩ := h
  refine ⟨by omega, by omega, fun j x y => ?_⟩
  by_cases e : j = k
  · rw [e]; exact Int.le_refl _
  · have := c j x (by omega); omega

theorem min_not {n s k b : Int} (h : IsMin n s k b) (e : ¬ pt n s k < pt n s b) : IsMin n s (k + 1) b := by
  obtain ⟨a, b, c⟩ := h
  refine ⟨by omega, by omega, fun j x y => ?_⟩
  by_cases e : j = k
  · rw [e]; omega
  · exact c j x (by omega)

theorem max_yes {n s k b : Int} (h : IsMax n s k b) (e : pt n s b < pt n s k) : IsMax n s (k + 1) k := by
  obtain ⟨a, b, c⟩ := h
  refine ⟨by omega, by omega, fun j x y => ?_⟩
  by_cases e : j = k
  · rw [e]; exact Int.le_refl _
  · have := c j x (by omega); omega

theorem max_not {n s k b : Int} (h : IsMax n s k b) (e : ¬ pt n s b < pt n s k) : IsMax n s (k + 1) b := by
  obtain ⟨a, b, c⟩ := h
  refine ⟨by omega, by omega, fun j x y => ?_⟩
  by_cases e : j = k
  · rw [e]; omega
  · exact c j x (by omega)

theorem max_of_all {n s m b : Int} (h : tok n s = true) (h2 : 2 ≤ m) (hm : m ≤ n) (b0 : 0 ≤ b) (b1 : b < m) (hc : ∀ j, 0 ≤ j → j < m → pt n s j ≤ pt n s b) : IsMax n s m b := by
  refine ⟨?_, b1, hc⟩
  by_cases e : b = 0
  · have x := hc 1 (by omega) (by omega)
    have y := (turns_of h).pos (k := 1) (by omega) (by omega)
    rw [e, pt0] at x
    omega
  · omega

end Go.Proofs.Ytokmmbmkfpfmgaa

set_option linter.unusedVariables false
namespace Go.Proofs.Ytokmmbmkfpfmgaa
open Go.ChangeShapes Go.WideShapes Go.ChangeAt Go.RowKit Go.Joins N

/-- what is told by both times alone -/
def gapsByF (n s m : Int) : List Int :=
  if tok n s = true ∧ 2 ≤ m ∧ m ≤ n then
    [pt n s (nearA n s m), m - nearA n s m, n - pt n s (nearB n s m), m - nearB n s m, pt n s (nearA n s m) + (n - pt n s (nearB n s m)), nearA n s m + nearB n s m - m]
  else []

theorem gapsByF_yes {n s m p q : Int} (h : tok n s = true) (h2 : 2 ≤ m) (hm : m ≤ n) (hp : nearA n s m = p) (hq : nearB n s m = q) :
    gapsByF n s m = [pt n s p, m - p, n - pt n s q, m - q, pt n s p + (n - pt n s q), p + q - m] := by
  subst hp hq; exact if_pos ⟨h, h2, hm⟩

theorem gapsByF_no {n s m : Int} (h : ¬ (tok n s = true ∧ 2 ≤ m ∧ m ≤ n)) : gapsByF n s m = [] := if_neg h

theorem gapsByF_len (n s m : Int) : (gapsByF n s m).length ≤ 60 := by
  unfold gapsByF; split <;> simp

/-- a new row of six integers -/
theorem row6 (w : World) (b : Nat) (x0 x1 x2 x3 x4 x5 : Int) (hb : b ≤ w.heap.size) :
    OwnL (w.alloc (.cells #[.int .i64 x0, .int .i64 x1, .int .i64 x2, .int .i64 x3, .int .i64 x4, .int .i64 x5] 3)) b (.slice (some ⟨w.heap.size, 0, none⟩) 6 6) [x0, x1, x2, x3, x4, x5] := by
  refine ⟨by simp, .inr ⟨w.heap.size, 6, _, rfl, hb, heap_alloc_new w _, by simp, by unfold maxLen; omega, by simp, by simp⟩⟩

end Go.Proofs.Ytokmmbmkfpfmgaa
