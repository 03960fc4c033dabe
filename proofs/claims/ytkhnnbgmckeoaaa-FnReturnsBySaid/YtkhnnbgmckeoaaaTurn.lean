/- When a turn is one: the contracts of TurnOk, of the program and of the model. -/
import Derived.Test.YtkhnnbgmckeoaaaNum
import Derived.Deep.RegionHeld3
import Derived.StillTailTactics
namespace Go.Proofs.Ytkhnnbgmckeoaaa
open Go.ChangeShapes Go.WideShapes Go.ChangeAt Go.RowKit

/-- is it a turn -/
def tok (n s : Int) : Bool := decide (2 ≤ n) && decide (n ≤ 60) && decide (1 ≤ s) && decide (s < n) && decide (Nat.gcd n.toNat s.toNat = 1)

theorem tok_iff (n s : Int) : tok n s = true ↔ 2 ≤ n ∧ n ≤ 60 ∧ 1 ≤ s ∧ s < n ∧ Nat.gcd n.toNat s.toNat = 1 := by
  unfold tok; simp [and_assoc]

theorem tok_no {n s : Int} (h : ¬ (2 ≤ n ∧ n ≤ 60 ∧ 1 ≤ s ∧ s < n)) : tok n s = false := by
  rw [Bool.eq_false_iff]; intro h'; rw [tok_iff] at h'; omega

theorem tok_gcd {n s : Int} (h1 : 2 ≤ n) (h2 : n ≤ 60) (h3 : 1 ≤ s) (h4 : s < n) : tok n s = decide (Nat.gcd n.toNat s.toNat = 1) := by
  unfold tok; simp [h1, h2, h3, h4]

theorem below_drewN {B : Nat} {a w : World} (h : Below B a w) (n : Nat) : Below B a (w.drewN n) := h.trans ⟨rfl, rfl, rfl, Nat.le_refl _, fun _ _ => rfl⟩

theorem gcd_beq (g : Nat) : (((g : Nat) : Int) == 1) = decide (g = 1) := by
  rw [Bool.eq_iff_iff]; simp; omega

set_option maxHeartbeats 1000000 in
theorem turnOk_any (n s : Int) (w : World) :
    Calls Try.prog 65 #[(.agg #[.int .i64 (n), .int .i64 (s)])] w fun e w' => e = .returned (.bool (tok n s)) ∧ Below w.heap.size w w' := by
  go_enter Try.func65, Try.ntmps65
  go_wp2_with (go_at_call 86; refine (common_any _ _ _ (by omega) (by omega) (by omega) (by omega)).mono ?_; rintro e w' ⟨rfl, nq, rfl⟩)
  all_goals go_ret
  all_goals first | refine ⟨ret_bool ?_, (Below.refl _ _).alloc (Nat.le_refl _) _⟩ | refine ⟨ret_bool ?_, below_drewN ((Below.refl _ _).alloc (Nat.le_refl _) _) nq⟩
  all_goals first | exact (tok_no (by omega)).symm | exact (gcd_beq _).trans (tok_gcd (by omega) (by omega) (by omega) (by omega)).symm

set_option maxHeartbeats 1000000 in
theorem specTurnOk_any (n s : Int) (w : World) :
    Calls Try.prog 49 #[(.agg #[.int .i64 (n), .int .i64 (s)])] w fun e w' => e = .returned (.bool (tok n s)) ∧ Below w.heap.size w w' := by
  go_enter Try.func49, Try.ntmps49
  go_wp2_with (first | (go_at_call 80; refine (l1Common_any _ _ _ (by omega) (by omega) (by omega) (by omega)).mono ?_; rintro e w' ⟨rfl, rfl⟩) | go_in)
  all_goals go_ret
  all_goals refine ⟨ret_bool ?_, (Below.refl _ _).alloc (Nat.le_refl _) _⟩
  all_goals first | exact (tok_no (by omega)).symm | exact (gcd_beq _).trans (tok_gcd (by omega) (by omega) (by omega) (by omega)).symm
end Go.Proofs.Ytkhnnbgmckeoaaa
