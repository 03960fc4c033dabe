/-
  DERIVED. GIVEN WITH THE SEED: THE CARDS: each row of YtckkgjgfjnfeoaaGreatDoorRows.lean that lists a variable, with what it lists TIED to the program's text (the seventh form; the later family's looks); each row that meets fmt, with fmt's text TOLD by the authors' own Lean function (tested against real Go, not proved from fmt's source: count such statements apart). THE CARD IS WHAT COUNTS. Prove the row's statement (the work); the ties are given (YtckkgjgfjnfeoaaGreatDoorTie.lean); close each card by the builder's one call (the guide's Derived/Test/ToyasCard.lean, 'card_holds'). Laid BY PROGRAM, IN A SANDBOX (cutbox-door.mjs). By AI agents, Wed Nov 11 2026. No macro, syntax, notation, axiom, sorry.
-/
import Derived.Test.YtckkgjgfjnfeoaaGreatDoorRows
import GoSem.ClaimSeven
namespace Go.Proofs.YtckkgjgfjnfeoaaGreatDoor
namespace Rows

/-- THE TIED CARD OF 'laws.FnMoveTurn'. -/
def fnMoveTurnCard : Claim7 := { stood := { row := fnMoveTurnRow, standIns := [], harness := (true, "618184c2f6b32f4978d21d90842c72e9cfc4789da74b6babc96d28e94e10dc4b"), looks := true }, kinds := [], alts := [], laidByText := true, laidKinds := [.data, .pinned], laidTests := true, laidLooks := .later }
def FnMoveTurnCardSaid : Prop := Claim7.holds Tryz.pinned (.plain (OpenSpec.ofChange fnMoveTurnSpec)) fnMoveTurnCard

/-- THE TIED CARD OF 'laws.FnBackMoves'. -/
def fnBackMovesCard : Claim7 := { stood := { row := fnBackMovesRow, standIns := [], harness := (true, "618184c2f6b32f4978d21d90842c72e9cfc4789da74b6babc96d28e94e10dc4b"), looks := true }, kinds := [], alts := [], laidByText := true, laidKinds := [.data, .pinned], laidTests := true, laidLooks := .later }
def FnBackMovesCardSaid : Prop := Claim7.holds Tryz.pinned (.plain (OpenSpec.ofChange fnBackMovesSpec)) fnBackMovesCard

/-- THE TIED CARD OF 'laws.FnOtherMoves'. -/
def fnOtherMovesCard : Claim7 := { stood := { row := fnOtherMovesRow, standIns := [], harness := (true, "618184c2f6b32f4978d21d90842c72e9cfc4789da74b6babc96d28e94e10dc4b"), looks := true }, kinds := [], alts := [], laidByText := true, laidKinds := [.data, .pinned], laidTests := true, laidLooks := .later }
def FnOtherMovesCardSaid : Prop := Claim7.holds Tryz.pinned (.plain (OpenSpec.ofChange fnOtherMovesSpec)) fnOtherMovesCard

/-- THE SECOND FORM's CARD OF 'laws.FnMoveTurn'. -/
def fnMoveTurnUptoCard : Claim7 := { stood := { row := fnMoveTurnUptoRow, standIns := [], harness := (true, "618184c2f6b32f4978d21d90842c72e9cfc4789da74b6babc96d28e94e10dc4b"), looks := true }, kinds := [], alts := [], laidByText := true, laidKinds := [.data, .pinned], laidTests := true, laidLooks := .later }
def FnMoveTurnUptoCardSaid : Prop := Claim7.holds Tryz.pinned (.plain (OpenSpec.upto fnMoveTurnSpec)) fnMoveTurnUptoCard

/-- THE SECOND FORM's CARD OF 'laws.FnBackMoves'. -/
def fnBackMovesUptoCard : Claim7 := { stood := { row := fnBackMovesUptoRow, standIns := [], harness := (true, "618184c2f6b32f4978d21d90842c72e9cfc4789da74b6babc96d28e94e10dc4b"), looks := true }, kinds := [], alts := [], laidByText := true, laidKinds := [.data, .pinned], laidTests := true, laidLooks := .later }
def FnBackMovesUptoCardSaid : Prop := Claim7.holds Tryz.pinned (.plain (OpenSpec.upto fnBackMovesSpec)) fnBackMovesUptoCard

/-- THE SECOND FORM's CARD OF 'laws.FnOtherMoves'. -/
def fnOtherMovesUptoCard : Claim7 := { stood := { row := fnOtherMovesUptoRow, standIns := [], harness := (true, "618184c2f6b32f4978d21d90842c72e9cfc4789da74b6babc96d28e94e10dc4b"), looks := true }, kinds := [], alts := [], laidByText := true, laidKinds := [.data, .pinned], laidTests := true, laidLooks := .later }
def FnOtherMovesUptoCardSaid : Prop := Claim7.holds Tryz.pinned (.plain (OpenSpec.upto fnOtherMovesSpec)) fnOtherMovesUptoCard
end Rows
end Go.Proofs.YtckkgjgfjnfeoaaGreatDoor
