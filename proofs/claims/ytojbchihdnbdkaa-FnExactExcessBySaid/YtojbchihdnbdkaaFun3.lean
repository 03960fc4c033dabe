/- Contracts: alive, and the turn the opposite and the other way, of the program and the model. -/
import Derived.Test.YtojbchihdnbdkaaFun2
set_option linter.unusedVariables false
namespace Go.Proofs.Ytojbchihdnbdkaa
open Go.ChangeShapes Go.WideShapes Go.ChangeAt Go.RowKit Go.Joins

theorem tok_52 : tok 5 2 = true := by decide

theorem tok_00 : tok 0 0 = false := by decide

set_option maxHeartbeats 1000000 in
theorem alive_any (w : World) :
    Calls Try.prog 16 #[] w fun e w' => e = .returned (.bool true) ∧ Below w.heap.size w w' := by
  have t1 := tok_52
  have t2 := tok_00
  go_enter Try.func16, Try.ntmps16
  go_wp2_with fail
  refine (turnOk_any _ _ _).mono ?_; rintro e w1 ⟨rfl, hb1⟩
  have hz1 := hb1.size
  try simp at hz1
  rw [t1]
  go_wp2_with fail
  refine (turnOk_any _ _ _).mono ?_; rintro e w2 ⟨rfl, hb2⟩
  have hz2 := hb2.size
  try simp at hz2
  rw [t2]
  go_wp2
  go_ret
  exact ⟨rfl, (by repeat (first | exact Below.refl _ _ | assumption | (refine Below.trans ?_ (Below.mono (by assumption) (by first | omega | (simp <;> omega)))) | (refine Below.alloc ?_ (by first | omega | (simp <;> omega)) _) | (refine below_drewN ?_ _) | (refine Below.drew ?_) | (refine Below.setCell ?_ (by first | omega | (simp <;> omega)) _)))⟩

/-- the turn the opposite way, and the other way -/
def oppT (n s : Int) : Int × Int := if tok n s = true then (n, invF n s) else (0, 0)

def backT (n s : Int) : Int × Int := if tok n s = true then (n, n - s) else (0, 0)

theorem oppT_yes {n s : Int} (h : tok n s = true) : oppT n s = (n, invF n s) := if_pos h

theorem oppT_no {n s : Int} (h : ¬ tok n s = true) : oppT n s = (0, 0) := if_neg h

theorem backT_yes {n s : Int} (h : tok n s = true) : backT n s = (n, n - s) := if_pos h

theorem backT_no {n s : Int} (h : ¬ tok n s = true) : backT n s = (0, 0) := if_neg h

end Go.Proofs.Ytojbchihdnbdkaa
