/-
  DERIVED. GIVEN WITH THE SEED: THE CARDS: each row of YtnplfgphpinoiaaDoorRows.lean that lists a variable, with what it lists TIED to the program's text (the seventh form; the later family's looks); each row that meets fmt, with fmt's text TOLD by the authors' own Lean function (tested against real Go, not proved from fmt's source: count such statements apart). THE CARD IS WHAT COUNTS. Prove the row's statement (the work); the ties are given (YtnplfgphpinoiaaDoorTie.lean); close each card by the builder's one call (the guide's Derived/Test/ToyasCard.lean, 'card_holds'). Laid BY PROGRAM, IN A SANDBOX (cutbox-door.mjs). By AI agents, Wed Nov 11 2026. No macro, syntax, notation, axiom, sorry.
-/
import Derived.Test.YtnplfgphpinoiaaDoorRows
import GoSem.ClaimSeven
namespace Go.Proofs.YtnplfgphpinoiaaDoor
namespace Rows

/-- THE TIED CARD OF 'laws.FnCodeOf'. -/
def fnCodeOfCard : Claim7 := { stood := { row := fnCodeOfRow, standIns := [], harness := (true, "17f2b6a40881aed9fea7733fb851286d994f7eb5e2eb1f442f4824ffd9f7c74b"), looks := false }, kinds := [], alts := [], laidByText := true, laidKinds := [.data, .pinned], laidTests := true, laidLooks := .later }
def FnCodeOfCardSaid : Prop := Claim7.holds Tryd.pinned (.plain (OpenSpec.ofChange fnCodeOfSpec)) fnCodeOfCard

/-- THE TIED CARD OF 'laws.FnCodeOk'. -/
def fnCodeOkCard : Claim7 := { stood := { row := fnCodeOkRow, standIns := [], harness := (true, "17f2b6a40881aed9fea7733fb851286d994f7eb5e2eb1f442f4824ffd9f7c74b"), looks := false }, kinds := [], alts := [], laidByText := true, laidKinds := [.data, .pinned], laidTests := true, laidLooks := .later }
def FnCodeOkCardSaid : Prop := Claim7.holds Tryd.pinned (.plain (OpenSpec.ofChange fnCodeOkSpec)) fnCodeOkCard

/-- THE TIED CARD OF 'laws.FnBalancedOk'. -/
def fnBalancedOkCard : Claim7 := { stood := { row := fnBalancedOkRow, standIns := [], harness := (true, "17f2b6a40881aed9fea7733fb851286d994f7eb5e2eb1f442f4824ffd9f7c74b"), looks := false }, kinds := [], alts := [], laidByText := true, laidKinds := [.data, .pinned], laidTests := true, laidLooks := .later }
def FnBalancedOkCardSaid : Prop := Claim7.holds Tryd.pinned (.plain (OpenSpec.ofChange fnBalancedOkSpec)) fnBalancedOkCard

/-- THE TIED CARD OF 'laws.FnExactCodeOk'. -/
def fnExactCodeOkCard : Claim7 := { stood := { row := fnExactCodeOkRow, standIns := [], harness := (true, "17f2b6a40881aed9fea7733fb851286d994f7eb5e2eb1f442f4824ffd9f7c74b"), looks := false }, kinds := [], alts := [], laidByText := true, laidKinds := [.data, .pinned], laidTests := true, laidLooks := .later }
def FnExactCodeOkCardSaid : Prop := Claim7.holds Tryd.pinned (.plain (OpenSpec.ofChange fnExactCodeOkSpec)) fnExactCodeOkCard

/-- THE TIED CARD OF 'laws.FnExactBalancedOk'. -/
def fnExactBalancedOkCard : Claim7 := { stood := { row := fnExactBalancedOkRow, standIns := [], harness := (true, "17f2b6a40881aed9fea7733fb851286d994f7eb5e2eb1f442f4824ffd9f7c74b"), looks := false }, kinds := [], alts := [], laidByText := true, laidKinds := [.data, .pinned], laidTests := true, laidLooks := .later }
def FnExactBalancedOkCardSaid : Prop := Claim7.holds Tryd.pinned (.plain (OpenSpec.ofChange fnExactBalancedOkSpec)) fnExactBalancedOkCard

/-- THE SECOND FORM's CARD OF 'laws.FnCodeOf'. -/
def fnCodeOfUptoCard : Claim7 := { stood := { row := fnCodeOfUptoRow, standIns := [], harness := (true, "17f2b6a40881aed9fea7733fb851286d994f7eb5e2eb1f442f4824ffd9f7c74b"), looks := false }, kinds := [], alts := [], laidByText := true, laidKinds := [.data, .pinned], laidTests := true, laidLooks := .later }
def FnCodeOfUptoCardSaid : Prop := Claim7.holds Tryd.pinned (.plain (OpenSpec.upto fnCodeOfSpec)) fnCodeOfUptoCard

/-- THE SECOND FORM's CARD OF 'laws.FnCodeOk'. -/
def fnCodeOkUptoCard : Claim7 := { stood := { row := fnCodeOkUptoRow, standIns := [], harness := (true, "17f2b6a40881aed9fea7733fb851286d994f7eb5e2eb1f442f4824ffd9f7c74b"), looks := false }, kinds := [], alts := [], laidByText := true, laidKinds := [.data, .pinned], laidTests := true, laidLooks := .later }
def FnCodeOkUptoCardSaid : Prop := Claim7.holds Tryd.pinned (.plain (OpenSpec.upto fnCodeOkSpec)) fnCodeOkUptoCard

/-- THE SECOND FORM's CARD OF 'laws.FnBalancedOk'. -/
def fnBalancedOkUptoCard : Claim7 := { stood := { row := fnBalancedOkUptoRow, standIns := [], harness := (true, "17f2b6a40881aed9fea7733fb851286d994f7eb5e2eb1f442f4824ffd9f7c74b"), looks := false }, kinds := [], alts := [], laidByText := true, laidKinds := [.data, .pinned], laidTests := true, laidLooks := .later }
def FnBalancedOkUptoCardSaid : Prop := Claim7.holds Tryd.pinned (.plain (OpenSpec.upto fnBalancedOkSpec)) fnBalancedOkUptoCard

/-- THE SECOND FORM's CARD OF 'laws.FnExactCodeOk'. -/
def fnExactCodeOkUptoCard : Claim7 := { stood := { row := fnExactCodeOkUptoRow, standIns := [], harness := (true, "17f2b6a40881aed9fea7733fb851286d994f7eb5e2eb1f442f4824ffd9f7c74b"), looks := false }, kinds := [], alts := [], laidByText := true, laidKinds := [.data, .pinned], laidTests := true, laidLooks := .later }
def FnExactCodeOkUptoCardSaid : Prop := Claim7.holds Tryd.pinned (.plain (OpenSpec.upto fnExactCodeOkSpec)) fnExactCodeOkUptoCard

/-- THE SECOND FORM's CARD OF 'laws.FnExactBalancedOk'. -/
def fnExactBalancedOkUptoCard : Claim7 := { stood := { row := fnExactBalancedOkUptoRow, standIns := [], harness := (true, "17f2b6a40881aed9fea7733fb851286d994f7eb5e2eb1f442f4824ffd9f7c74b"), looks := false }, kinds := [], alts := [], laidByText := true, laidKinds := [.data, .pinned], laidTests := true, laidLooks := .later }
def FnExactBalancedOkUptoCardSaid : Prop := Claim7.holds Tryd.pinned (.plain (OpenSpec.upto fnExactBalancedOkSpec)) fnExactBalancedOkUptoCard
end Rows
end Go.Proofs.YtnplfgphpinoiaaDoor
