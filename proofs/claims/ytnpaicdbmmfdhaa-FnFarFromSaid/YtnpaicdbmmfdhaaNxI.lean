/- Contract of NextDigits of the program: the digits are copied, and one is carried from below. -/
import Derived.Test.YtnpaicdbmmfdhaaOkI
import Derived.Test.YtnpaicdbmmfdhaaCarry
import Derived.Test.YtnpaicdbmmfdhaaClone
import Derived.Deep.Cut
import Derived.Deep.CutRange
import Derived.Deep.RegionHeld3
import Derived.BigQuiet
set_option linter.unusedVariables false
namespace Go.Proofs.Ytnpaicdbmmfdhaa

set_option maxRecDepth 4000
open Go.ChangeShapes Go.WideShapes Go.ChangeAt Go.RowKit Go.Joins

/-- the copy and the greatest digits lie ready -/
structure ReadyX (D : List Int) (M : Nat → Nat) (m : Nat) (w W : World) (g c gM oM : Nat) : Prop where
  row : ∃ cur, RowAt W g cur ∧ cur.size = c ∧ ∀ i, i < m → cur[i]? = some (.int .i64 (D.getD i 0))
  at0 : w.heap.size ≤ g
  most : ∀ i, i < m → W.cell? ⟨gM, oM + i, none⟩ = some (.int .i64 ((M i : Nat) : Int))
  ne : gM ≠ g
  cap : m ≤ c
  max : c ≤ maxLen
  b : Below w.heap.size w W

def nxL (D : List Int) (m p : Nat) : List Int := (List.range m).map fun i => if i < p then 0 else if i = p then D.getD i 0 + 1 else D.getD i 0

theorem nxL_len (D : List Int) (m p : Nat) : (nxL D m p).length = m := by simp [nxL]

theorem nxL_get (D : List Int) (m p i : Nat) (h : i < m) : (nxL D m p).getD i 0 = if i < p then 0 else if i = p then D.getD i 0 + 1 else D.getD i 0 := by
  simp [nxL, List.getD_eq_getElem?_getD, h]

end Go.Proofs.Ytnpaicdbmmfdhaa
