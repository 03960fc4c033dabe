/- Small numbers in decimal, as the program's library writes them. -/
import Derived.Test.YtckkgjgfjnfeoaaDoorGMov
import Derived.Test.YtckkgjgfjnfeoaaDoorOne
set_option linter.unusedVariables false
namespace Go.Proofs.YtckkgjgfjnfeoaaDoor
set_option maxRecDepth 4000

set_option maxRecDepth 4000
open Go.ChangeShapes Go.WideShapes Go.ChangeAt Go.RowKit Go.Joins

theorem ext_from (C : ByteArray) (f g : Nat → Nat) (a n : Nat) {i : Nat} (ha : a ≤ i) (hi : i < n) (h : (List.range n).all (fun i => decide (i < a) || decide (C.extract (f i) (g i) = txtL (decN i))) = true) : C.extract (f i) (g i) = txtL (decN i) := by
  rw [List.all_eq_true] at h
  have := h i (List.mem_range.2 hi)
  rw [Bool.or_eq_true, decide_eq_true_eq, decide_eq_true_eq] at this
  rcases this with h | h
  · omega
  · exact h

set_option maxHeartbeats 2000000 in
theorem small_any (i : Nat) (hi : i < 59) (w : World) :
    Calls Tryd.prog 96 #[.int .i64 i] w fun e w' => e = .returned (.string (txtL (decN i))) ∧ w = w' := by
  have hw1 : IntKind.i64.wrap ((i : Int) + 1) = (i : Int) + 1 := IntWalk.i64_in _ (by omega)
  have hw2 : IntKind.i64.wrap ((i : Int) * 2) = (i : Int) * 2 := IntWalk.i64_in _ (by omega)
  have hw3 : IntKind.i64.wrap ((i : Int) * 2 + 2) = (i : Int) * 2 + 2 := IntWalk.i64_in _ (by omega)
  by_cases h10 : i < 10
  · have h10' : (i : Int) < 10 := by omega
    have g1 : (0 : Int) ≤ i := by omega
    have g2 : (i : Int) ≤ (i : Int) + 1 := by omega
    have g3 : (i : Int) + 1 ≤ 36 := by omega
    go_enter Tryd.func96, Tryd.ntmps96
    go_wp2
    go_ret
    refine ⟨congrArg (fun s => Ending.returned (.string s)) ?_, rfl⟩
    refine ext_from _ (fun i => i) (fun i => i + 1) 0 10 (by omega) h10 ?_
    decide +kernel
  · have h10' : ¬ (i : Int) < 10 := by omega
    have g1 : (0 : Int) ≤ (i : Int) * 2 := by omega
    have g2 : (i : Int) * 2 ≤ (i : Int) * 2 + 2 := by omega
    have g3 : (i : Int) * 2 + 2 ≤ 200 := by omega
    go_enter Tryd.func96, Tryd.ntmps96
    go_wp2
    go_ret
    refine ⟨congrArg (fun s => Ending.returned (.string s)) ?_, rfl⟩
    refine ext_from _ (fun i => i * 2) (fun i => i * 2 + 2) 10 59 (by omega) hi ?_
    decide +kernel

set_option maxHeartbeats 2000000 in
theorem itoa_any (i : Nat) (hi : i < 59) (w : World) :
    Calls Tryd.prog 48 #[.int .i64 i] w fun e w' => e = .returned (.string (txtL (decN i))) ∧ w = w' := by
  have hF : Calls Tryd.prog 81 #[.int .i64 i, .int .i64 10] w fun e w' => e = .returned (.string (txtL (decN i))) ∧ w = w' := by
    have g1 : (0 : Int) ≤ i := by omega
    have g2 : (i : Int) < 100 := by omega
    go_enter Tryd.func81, Tryd.ntmps81
    go_wp2_with fail
    refine (small_any i hi _).mono ?_; rintro e w2 ⟨rfl, rfl⟩
    go_wp2
    go_ret
    exact ⟨rfl, rfl⟩
  have hI : Calls Tryd.prog 69 #[.int .i64 i] w fun e w' => e = .returned (.string (txtL (decN i))) ∧ w = w' := by
    go_enter Tryd.func69, Tryd.ntmps69
    go_wp2_with fail
    refine hF.mono ?_; rintro e w2 ⟨rfl, rfl⟩
    go_wp2
    go_ret
    exact ⟨rfl, rfl⟩
  go_enter Tryd.func48, Tryd.ntmps48
  go_wp2_with fail
  refine hI.mono ?_; rintro e w2 ⟨rfl, rfl⟩
  go_wp2
  go_ret
  exact ⟨rfl, rfl⟩
end Go.Proofs.YtckkgjgfjnfeoaaDoor
