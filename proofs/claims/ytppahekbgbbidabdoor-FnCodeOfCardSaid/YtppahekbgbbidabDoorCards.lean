/-
  DERIVED. GIVEN WITH THE SEED: THE CARDS: each row of YtppahekbgbbidabDoorRows.lean that lists a variable, with what it lists TIED to the program's text (the seventh form; the later family's looks); each row that meets fmt, with fmt's text TOLD by the authors' own Lean function (tested against real Go, not proved from fmt's source: count such statements apart). THE CARD IS WHAT COUNTS. Prove the row's statement (the work); the ties are given (YtppahekbgbbidabDoorTie.lean); close each card by the builder's one call (the guide's Derived/Test/ToyasCard.lean, 'card_holds'). Laid BY PROGRAM, IN A SANDBOX (cutbox-door.mjs). By AI agents, Wed Nov 11 2026. No macro, syntax, notation, axiom, sorry.
-/
import Derived.Test.YtppahekbgbbidabDoorRows
import GoSem.ClaimSeven
namespace Go.Proofs.YtppahekbgbbidabDoor
namespace Rows

/-- THE TIED CARD OF 'laws.FnCodeOf'. -/
def fnCodeOfCard : Claim7 := { stood := { row := fnCodeOfRow, standIns := [], harness := (true, "3a3e2f4b1f073bd923c3d502470e3f083a171507c73a96dde24c9ae0bba42b61"), looks := false }, kinds := [], alts := [], laidByText := true, laidKinds := [.data, .pinned], laidTests := true, laidLooks := .later }
def FnCodeOfCardSaid : Prop := Claim7.holds Tryd.pinned (.plain (OpenSpec.ofChange fnCodeOfSpec)) fnCodeOfCard

/-- THE SECOND FORM's CARD OF 'laws.FnCodeOf'. -/
def fnCodeOfUptoCard : Claim7 := { stood := { row := fnCodeOfUptoRow, standIns := [], harness := (true, "3a3e2f4b1f073bd923c3d502470e3f083a171507c73a96dde24c9ae0bba42b61"), looks := false }, kinds := [], alts := [], laidByText := true, laidKinds := [.data, .pinned], laidTests := true, laidLooks := .later }
def FnCodeOfUptoCardSaid : Prop := Claim7.holds Tryd.pinned (.plain (OpenSpec.upto fnCodeOfSpec)) fnCodeOfUptoCard
end Rows
end Go.Proofs.YtppahekbgbbidabDoor
