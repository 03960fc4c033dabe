/-
  DERIVED. GIVEN WITH THE SEED: THE CARDS: each row of YtcfhjkaemhhndaaDoorRows.lean that lists a variable, with what it lists TIED to the program's text (the seventh form; the later family's looks); each row that meets fmt, with fmt's text TOLD by the authors' own Lean function (tested against real Go, not proved from fmt's source: count such statements apart). THE CARD IS WHAT COUNTS. Prove the row's statement (the work); the ties are given (YtcfhjkaemhhndaaDoorTie.lean); close each card by the builder's one call (the guide's Derived/Test/ToyasCard.lean, 'card_holds'). Laid BY PROGRAM, IN A SANDBOX (cutbox-door.mjs). By AI agents, Wed Nov 11 2026. No macro, syntax, notation, axiom, sorry.
-/
import Derived.Test.YtcfhjkaemhhndaaDoorRows
import GoSem.ClaimSeven
namespace Go.Proofs.YtcfhjkaemhhndaaDoor
namespace Rows

/-- THE TIED CARD OF 'laws.FnPatternOf'. -/
def fnPatternOfCard : Claim7 := { stood := { row := fnPatternOfRow, standIns := [], harness := (true, "ac26915ada12c003404481de6f0bf2d78d6dcac8041d4504485304e6660ba2d7"), looks := false }, kinds := [], alts := [], laidByText := true, laidKinds := [.data, .pinned], laidTests := true, laidLooks := .later }
def FnPatternOfCardSaid : Prop := Claim7.holds Tryd.pinned (.plain (OpenSpec.ofChange fnPatternOfSpec)) fnPatternOfCard

/-- THE SECOND FORM's CARD OF 'laws.FnPatternOf'. -/
def fnPatternOfUptoCard : Claim7 := { stood := { row := fnPatternOfUptoRow, standIns := [], harness := (true, "ac26915ada12c003404481de6f0bf2d78d6dcac8041d4504485304e6660ba2d7"), looks := false }, kinds := [], alts := [], laidByText := true, laidKinds := [.data, .pinned], laidTests := true, laidLooks := .later }
def FnPatternOfUptoCardSaid : Prop := Claim7.holds Tryd.pinned (.plain (OpenSpec.upto fnPatternOfSpec)) fnPatternOfUptoCard
end Rows
end Go.Proofs.YtcfhjkaemhhndaaDoor
