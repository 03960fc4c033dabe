/-
  DERIVED. GIVEN WITH THE SEED: THE CARDS: each row of YtppahekbgbbidacDoorRows.lean that lists a variable, with what it lists TIED to the program's text (the seventh form; the later family's looks); each row that meets fmt, with fmt's text TOLD by the authors' own Lean function (tested against real Go, not proved from fmt's source: count such statements apart). THE CARD IS WHAT COUNTS. Prove the row's statement (the work); the ties are given (YtppahekbgbbidacDoorTie.lean); close each card by the builder's one call (the guide's Derived/Test/ToyasCard.lean, 'card_holds'). Laid BY PROGRAM, IN A SANDBOX (cutbox-door.mjs). By AI agents, Wed Nov 11 2026. No macro, syntax, notation, axiom, sorry.
-/
import Derived.Test.YtppahekbgbbidacDoorRows
import GoSem.ClaimSeven
namespace Go.Proofs.YtppahekbgbbidacDoor
namespace Rows

/-- THE TIED CARD OF 'laws.FnSpacesOf'. -/
def fnSpacesOfCard : Claim7 := { stood := { row := fnSpacesOfRow, standIns := [], harness := (true, "2acbf4a479e0aab6eed65064e4635f6b05fc9a33fb99b489bbb76f814461ce27"), looks := false }, kinds := [], alts := [], laidByText := true, laidKinds := [.data, .pinned], laidTests := true, laidLooks := .later }
def FnSpacesOfCardSaid : Prop := Claim7.holds Tryd.pinned (.plain (OpenSpec.ofChange fnSpacesOfSpec)) fnSpacesOfCard

/-- THE SECOND FORM's CARD OF 'laws.FnSpacesOf'. -/
def fnSpacesOfUptoCard : Claim7 := { stood := { row := fnSpacesOfUptoRow, standIns := [], harness := (true, "2acbf4a479e0aab6eed65064e4635f6b05fc9a33fb99b489bbb76f814461ce27"), looks := false }, kinds := [], alts := [], laidByText := true, laidKinds := [.data, .pinned], laidTests := true, laidLooks := .later }
def FnSpacesOfUptoCardSaid : Prop := Claim7.holds Tryd.pinned (.plain (OpenSpec.upto fnSpacesOfSpec)) fnSpacesOfUptoCard
end Rows
end Go.Proofs.YtppahekbgbbidacDoor
