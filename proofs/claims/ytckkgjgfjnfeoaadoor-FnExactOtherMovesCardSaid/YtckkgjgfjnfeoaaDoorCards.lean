/-
  DERIVED. GIVEN WITH THE SEED: THE CARDS: each row of YtckkgjgfjnfeoaaDoorRows.lean that lists a variable, with what it lists TIED to the program's text (the seventh form; the later family's looks); each row that meets fmt, with fmt's text TOLD by the authors' own Lean function (tested against real Go, not proved from fmt's source: count such statements apart). THE CARD IS WHAT COUNTS. Prove the row's statement (the work); the ties are given (YtckkgjgfjnfeoaaDoorTie.lean); close each card by the builder's one call (the guide's Derived/Test/ToyasCard.lean, 'card_holds'). Laid BY PROGRAM, IN A SANDBOX (cutbox-door.mjs). By AI agents, Wed Nov 11 2026. No macro, syntax, notation, axiom, sorry.
-/
import Derived.Test.YtckkgjgfjnfeoaaDoorRows
import GoSem.ClaimSeven
namespace Go.Proofs.YtckkgjgfjnfeoaaDoor
namespace Rows

/-- THE TIED CARD OF 'laws.FnMovesOk'. -/
def fnMovesOkCard : Claim7 := { stood := { row := fnMovesOkRow, standIns := [], harness := (true, "97dcc2f3217bf827ca5d7d49b76339c1e85332b440dfcb587d19ecd10f4bdf07"), looks := true }, kinds := [], alts := [], laidByText := true, laidKinds := [.data, .pinned], laidTests := true, laidLooks := .later }
def FnMovesOkCardSaid : Prop := Claim7.holds Tryd.pinned (.plain (OpenSpec.ofChange fnMovesOkSpec)) fnMovesOkCard

/-- THE TIED CARD OF 'laws.FnMovesFor'. -/
def fnMovesForCard : Claim7 := { stood := { row := fnMovesForRow, standIns := [], harness := (true, "97dcc2f3217bf827ca5d7d49b76339c1e85332b440dfcb587d19ecd10f4bdf07"), looks := true }, kinds := [], alts := [], laidByText := true, laidKinds := [.data, .pinned], laidTests := true, laidLooks := .later }
def FnMovesForCardSaid : Prop := Claim7.holds Tryd.pinned (.plain (OpenSpec.ofChange fnMovesForSpec)) fnMovesForCard

/-- THE TIED CARD OF 'laws.FnRunsText'. -/
def fnRunsTextCard : Claim7 := { stood := { row := fnRunsTextRow, standIns := [], harness := (true, "97dcc2f3217bf827ca5d7d49b76339c1e85332b440dfcb587d19ecd10f4bdf07"), looks := true }, kinds := [], alts := [], laidByText := true, laidKinds := [.data, .data, .data, .data, .pinned], laidTests := true, laidLooks := .later }
def FnRunsTextCardSaid : Prop := Claim7.holds Tryd.pinned (.plain (OpenSpec.ofChange fnRunsTextSpec)) fnRunsTextCard

/-- THE TIED CARD OF 'laws.FnReadRuns'. -/
def fnReadRunsCard : Claim7 := { stood := { row := fnReadRunsRow, standIns := [], harness := (true, "97dcc2f3217bf827ca5d7d49b76339c1e85332b440dfcb587d19ecd10f4bdf07"), looks := true }, kinds := [], alts := [], laidByText := true, laidKinds := [.data, .data, .data, .data, .pinned], laidTests := true, laidLooks := .later }
def FnReadRunsCardSaid : Prop := Claim7.holds Tryd.pinned (.plain (OpenSpec.ofChange fnReadRunsSpec)) fnReadRunsCard

/-- THE TIED CARD OF 'laws.FnMovesScales'. -/
def fnMovesScalesCard : Claim7 := { stood := { row := fnMovesScalesRow, standIns := [], harness := (true, "97dcc2f3217bf827ca5d7d49b76339c1e85332b440dfcb587d19ecd10f4bdf07"), looks := true }, kinds := [], alts := [], laidByText := true, laidKinds := [.data, .pinned], laidTests := true, laidLooks := .later }
def FnMovesScalesCardSaid : Prop := Claim7.holds Tryd.pinned (.plain (OpenSpec.ofChange fnMovesScalesSpec)) fnMovesScalesCard

/-- THE TIED CARD OF 'laws.FnExactMovesOk'. -/
def fnExactMovesOkCard : Claim7 := { stood := { row := fnExactMovesOkRow, standIns := [], harness := (true, "97dcc2f3217bf827ca5d7d49b76339c1e85332b440dfcb587d19ecd10f4bdf07"), looks := true }, kinds := [], alts := [], laidByText := true, laidKinds := [.data, .pinned], laidTests := true, laidLooks := .later }
def FnExactMovesOkCardSaid : Prop := Claim7.holds Tryd.pinned (.plain (OpenSpec.ofChange fnExactMovesOkSpec)) fnExactMovesOkCard

/-- THE TIED CARD OF 'laws.FnExactMoveTurn'. -/
def fnExactMoveTurnCard : Claim7 := { stood := { row := fnExactMoveTurnRow, standIns := [], harness := (true, "97dcc2f3217bf827ca5d7d49b76339c1e85332b440dfcb587d19ecd10f4bdf07"), looks := true }, kinds := [], alts := [], laidByText := true, laidKinds := [.data, .pinned], laidTests := true, laidLooks := .later }
def FnExactMoveTurnCardSaid : Prop := Claim7.holds Tryd.pinned (.plain (OpenSpec.ofChange fnExactMoveTurnSpec)) fnExactMoveTurnCard

/-- THE TIED CARD OF 'laws.FnExactBackMoves'. -/
def fnExactBackMovesCard : Claim7 := { stood := { row := fnExactBackMovesRow, standIns := [], harness := (true, "97dcc2f3217bf827ca5d7d49b76339c1e85332b440dfcb587d19ecd10f4bdf07"), looks := true }, kinds := [], alts := [], laidByText := true, laidKinds := [.data, .pinned], laidTests := true, laidLooks := .later }
def FnExactBackMovesCardSaid : Prop := Claim7.holds Tryd.pinned (.plain (OpenSpec.ofChange fnExactBackMovesSpec)) fnExactBackMovesCard

/-- THE TIED CARD OF 'laws.FnExactOtherMoves'. -/
def fnExactOtherMovesCard : Claim7 := { stood := { row := fnExactOtherMovesRow, standIns := [], harness := (true, "97dcc2f3217bf827ca5d7d49b76339c1e85332b440dfcb587d19ecd10f4bdf07"), looks := true }, kinds := [], alts := [], laidByText := true, laidKinds := [.data, .pinned], laidTests := true, laidLooks := .later }
def FnExactOtherMovesCardSaid : Prop := Claim7.holds Tryd.pinned (.plain (OpenSpec.ofChange fnExactOtherMovesSpec)) fnExactOtherMovesCard

/-- THE TIED CARD OF 'laws.FnExactRunsText'. -/
def fnExactRunsTextCard : Claim7 := { stood := { row := fnExactRunsTextRow, standIns := [], harness := (true, "97dcc2f3217bf827ca5d7d49b76339c1e85332b440dfcb587d19ecd10f4bdf07"), looks := true }, kinds := [], alts := [], laidByText := true, laidKinds := [.data, .data, .data, .data, .pinned], laidTests := true, laidLooks := .later }
def FnExactRunsTextCardSaid : Prop := Claim7.holds Tryd.pinned (.plain (OpenSpec.ofChange fnExactRunsTextSpec)) fnExactRunsTextCard

/-- THE SECOND FORM's CARD OF 'laws.FnMovesOk'. -/
def fnMovesOkUptoCard : Claim7 := { stood := { row := fnMovesOkUptoRow, standIns := [], harness := (true, "97dcc2f3217bf827ca5d7d49b76339c1e85332b440dfcb587d19ecd10f4bdf07"), looks := true }, kinds := [], alts := [], laidByText := true, laidKinds := [.data, .pinned], laidTests := true, laidLooks := .later }
def FnMovesOkUptoCardSaid : Prop := Claim7.holds Tryd.pinned (.plain (OpenSpec.upto fnMovesOkSpec)) fnMovesOkUptoCard

/-- THE SECOND FORM's CARD OF 'laws.FnMovesFor'. -/
def fnMovesForUptoCard : Claim7 := { stood := { row := fnMovesForUptoRow, standIns := [], harness := (true, "97dcc2f3217bf827ca5d7d49b76339c1e85332b440dfcb587d19ecd10f4bdf07"), looks := true }, kinds := [], alts := [], laidByText := true, laidKinds := [.data, .pinned], laidTests := true, laidLooks := .later }
def FnMovesForUptoCardSaid : Prop := Claim7.holds Tryd.pinned (.plain (OpenSpec.upto fnMovesForSpec)) fnMovesForUptoCard

/-- THE SECOND FORM's CARD OF 'laws.FnRunsText'. -/
def fnRunsTextUptoCard : Claim7 := { stood := { row := fnRunsTextUptoRow, standIns := [], harness := (true, "97dcc2f3217bf827ca5d7d49b76339c1e85332b440dfcb587d19ecd10f4bdf07"), looks := true }, kinds := [], alts := [], laidByText := true, laidKinds := [.data, .data, .data, .data, .pinned], laidTests := true, laidLooks := .later }
def FnRunsTextUptoCardSaid : Prop := Claim7.holds Tryd.pinned (.plain (OpenSpec.upto fnRunsTextSpec)) fnRunsTextUptoCard

/-- THE SECOND FORM's CARD OF 'laws.FnReadRuns'. -/
def fnReadRunsUptoCard : Claim7 := { stood := { row := fnReadRunsUptoRow, standIns := [], harness := (true, "97dcc2f3217bf827ca5d7d49b76339c1e85332b440dfcb587d19ecd10f4bdf07"), looks := true }, kinds := [], alts := [], laidByText := true, laidKinds := [.data, .data, .data, .data, .pinned], laidTests := true, laidLooks := .later }
def FnReadRunsUptoCardSaid : Prop := Claim7.holds Tryd.pinned (.plain (OpenSpec.upto fnReadRunsSpec)) fnReadRunsUptoCard

/-- THE SECOND FORM's CARD OF 'laws.FnMovesScales'. -/
def fnMovesScalesUptoCard : Claim7 := { stood := { row := fnMovesScalesUptoRow, standIns := [], harness := (true, "97dcc2f3217bf827ca5d7d49b76339c1e85332b440dfcb587d19ecd10f4bdf07"), looks := true }, kinds := [], alts := [], laidByText := true, laidKinds := [.data, .pinned], laidTests := true, laidLooks := .later }
def FnMovesScalesUptoCardSaid : Prop := Claim7.holds Tryd.pinned (.plain (OpenSpec.upto fnMovesScalesSpec)) fnMovesScalesUptoCard

/-- THE SECOND FORM's CARD OF 'laws.FnExactMovesOk'. -/
def fnExactMovesOkUptoCard : Claim7 := { stood := { row := fnExactMovesOkUptoRow, standIns := [], harness := (true, "97dcc2f3217bf827ca5d7d49b76339c1e85332b440dfcb587d19ecd10f4bdf07"), looks := true }, kinds := [], alts := [], laidByText := true, laidKinds := [.data, .pinned], laidTests := true, laidLooks := .later }
def FnExactMovesOkUptoCardSaid : Prop := Claim7.holds Tryd.pinned (.plain (OpenSpec.upto fnExactMovesOkSpec)) fnExactMovesOkUptoCard

/-- THE SECOND FORM's CARD OF 'laws.FnExactMoveTurn'. -/
def fnExactMoveTurnUptoCard : Claim7 := { stood := { row := fnExactMoveTurnUptoRow, standIns := [], harness := (true, "97dcc2f3217bf827ca5d7d49b76339c1e85332b440dfcb587d19ecd10f4bdf07"), looks := true }, kinds := [], alts := [], laidByText := true, laidKinds := [.data, .pinned], laidTests := true, laidLooks := .later }
def FnExactMoveTurnUptoCardSaid : Prop := Claim7.holds Tryd.pinned (.plain (OpenSpec.upto fnExactMoveTurnSpec)) fnExactMoveTurnUptoCard

/-- THE SECOND FORM's CARD OF 'laws.FnExactBackMoves'. -/
def fnExactBackMovesUptoCard : Claim7 := { stood := { row := fnExactBackMovesUptoRow, standIns := [], harness := (true, "97dcc2f3217bf827ca5d7d49b76339c1e85332b440dfcb587d19ecd10f4bdf07"), looks := true }, kinds := [], alts := [], laidByText := true, laidKinds := [.data, .pinned], laidTests := true, laidLooks := .later }
def FnExactBackMovesUptoCardSaid : Prop := Claim7.holds Tryd.pinned (.plain (OpenSpec.upto fnExactBackMovesSpec)) fnExactBackMovesUptoCard

/-- THE SECOND FORM's CARD OF 'laws.FnExactOtherMoves'. -/
def fnExactOtherMovesUptoCard : Claim7 := { stood := { row := fnExactOtherMovesUptoRow, standIns := [], harness := (true, "97dcc2f3217bf827ca5d7d49b76339c1e85332b440dfcb587d19ecd10f4bdf07"), looks := true }, kinds := [], alts := [], laidByText := true, laidKinds := [.data, .pinned], laidTests := true, laidLooks := .later }
def FnExactOtherMovesUptoCardSaid : Prop := Claim7.holds Tryd.pinned (.plain (OpenSpec.upto fnExactOtherMovesSpec)) fnExactOtherMovesUptoCard

/-- THE SECOND FORM's CARD OF 'laws.FnExactRunsText'. -/
def fnExactRunsTextUptoCard : Claim7 := { stood := { row := fnExactRunsTextUptoRow, standIns := [], harness := (true, "97dcc2f3217bf827ca5d7d49b76339c1e85332b440dfcb587d19ecd10f4bdf07"), looks := true }, kinds := [], alts := [], laidByText := true, laidKinds := [.data, .data, .data, .data, .pinned], laidTests := true, laidLooks := .later }
def FnExactRunsTextUptoCardSaid : Prop := Claim7.holds Tryd.pinned (.plain (OpenSpec.upto fnExactRunsTextSpec)) fnExactRunsTextUptoCard
end Rows
end Go.Proofs.YtckkgjgfjnfeoaaDoor
