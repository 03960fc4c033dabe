/- Contracts of the Draw functions of chapter 5. -/
import Derived.Test.YtejofckfnieolaaDoorTxt
import Derived.Test.YtejofckfnieolaaDoorWord3
import Derived.Test.YtejofckfnieolaaDoorDraw9
import Derived.Deep.RegionHeld3
import Derived.Deep.RegionWith
set_option linter.unusedVariables false
namespace Go.Proofs.YtejofckfnieolaaDoor

set_option maxRecDepth 4000
open Go.ChangeShapes Go.WideShapes Go.ChangeAt Go.RowKit Go.Joins

def digS (j : Nat) : ByteArray := if j = 0 then ⟨#[48]⟩ else ⟨#[49]⟩

theorem digS_size (j : Nat) : (digS j).size = 1 := by unfold digS; split <;> rfl

theorem dig_cell {w : World} {g : Nat} (h : RowS w g #[.string ⟨#[48]⟩, .string ⟨#[49]⟩]) (j : Nat) (hj : j < 2) : w.cell? ⟨g, j, none⟩ = some (.string (digS j)) := by
  rw [h.cell j]
  match j, hj with
  | 0, _ => rfl
  | 1, _ => rfl

theorem pick2_any (r : Nat) (p : Int) (w : World) (hr : Rd w r p) (hp0 : 0 ≤ p) (hp : p ≤ 1000000) :
    Calls Tryd.prog 12 #[.pointer (some ⟨r, 0, none⟩), .int .i64 2] w fun e w' => ∃ j : Nat, e = .returned (.int .i64 j) ∧ j < 2 ∧ Rd w' r (p + 1) ∧ OnlyR r w w' := by
  refine (pick_any r p 2 w hr hp0 hp (by omega)).mono ?_
  rintro e w' ⟨v, rfl, a, b, r', o', s'⟩
  obtain ⟨j, rfl⟩ := Int.eq_ofNat_of_zero_le a
  exact ⟨j, rfl, by omega, r', o'⟩

def CodePost (r : Nat) (p : Int) (w : World) (e : Ending) (w' : World) : Prop :=
  ∃ (u : ByteArray) (q : Int), e = .returned (.string u) ∧ u.size ≤ 100 ∧ p ≤ q ∧ q ≤ p + 20 ∧ Rd w' r q ∧ OnlyR r w w'

end Go.Proofs.YtejofckfnieolaaDoor
