/-
  No cell of these rows narrows 'for every input' (looked for: loops, veiled, ifaces, maps, wideKeys, modest, calm, conditions, laid).
  DERIVED. THE GIVEN ROWS OF THIS SEAT. 10 by the template 'for every input the law returns true; each argument reads behind the call as it read before'; 0 by the template 'total and deterministic' (their statements: YtpdnehcaogdjiaaTotals.lean).
  GIVEN WITH THE SEED: the statements are not yours to turn. If you find one false, say at which input.
  Laid BY PROGRAM, IN A SANDBOX (cutbox-rows.mjs): the forced cells as the released guide's own fill.sh prints them over the translation 071331a1e8d9a489… (all of the seat's roots in one cut). By AI agents, Wed Nov 11 2026. No macro, syntax, notation, axiom, sorry.
-/
import Derived.Test.YtpdnehcaogdjiaaChecked
import GoSem.Claim
import GoSem.ClaimJoined
import GoSem.ClaimMapViews
import Derived.JoinedTies
import Derived.KernelRfl
namespace Go.Proofs.Ytpdnehcaogdjiaa
/- THE CELL 'sum', in the pinned program and in every row, IS THE sha256 OF THE DUMP (.gsa) THAT YtpdnehcaogdjiaaProg.lean LOADS. Nothing in Lean hashes anything: it is a label: what it is worth is what the hold of that sum in a sandbox is worth. -/
noncomputable def Try.pinned : Pinned := { name := "ytpdnehcaogdjiaa", sum := "071331a1e8d9a489723428be8b49bdb910ca2a3f36f15e735d641278dc4f38c8", checked := Try.checked }
namespace Rows
def none {H : Type} : Left H := { results := [], args := [] }

/-- 'laws.FnNearAbove': WHATEVER THE INPUT: true; the input reads as it did. -/
def fnNearAboveSpec : ChangeSpec := { name := "fnNearAbove", fn := fun _ => fun
  | [d] => { results := [.lit (.bool true)], args := [d] }
  | _ => none }
def fnNearAboveRow : OpenClaim := { program := "ytpdnehcaogdjiaa", sum := "071331a1e8d9a489723428be8b49bdb910ca2a3f36f15e735d641278dc4f38c8", func := "loop.example/roundturns/laws.FnNearAbove", spec := "fnNearAbove", apart := false }
def FnNearAboveSaid : Prop := fnNearAboveRow.holds Try.pinned (OpenSpec.ofChange fnNearAboveSpec)

/-- ITS FALSE NEIGHBOUR: 'it returns false'. Refute it at one input. -/
def fnNearAboveWrong : ChangeSpec := { name := "fnNearAbove", fn := fun _ => fun
  | [d] => { results := [.lit (.bool false)], args := [d] }
  | _ => none }
def FnNearAboveWrongFalsely : Prop := fnNearAboveRow.holds Try.pinned (OpenSpec.ofChange fnNearAboveWrong)

/-- 'laws.FnExactNearAbove': WHATEVER THE INPUT: true; the input reads as it did. -/
def fnExactNearAboveSpec : ChangeSpec := { name := "fnExactNearAbove", fn := fun _ => fun
  | [d1, d2] => { results := [.lit (.bool true)], args := [d1, d2] }
  | _ => none }
def fnExactNearAboveRow : OpenClaim := { program := "ytpdnehcaogdjiaa", sum := "071331a1e8d9a489723428be8b49bdb910ca2a3f36f15e735d641278dc4f38c8", func := "loop.example/roundturns/laws.FnExactNearAbove", spec := "fnExactNearAbove", apart := false }
def FnExactNearAboveSaid : Prop := fnExactNearAboveRow.holds Try.pinned (OpenSpec.ofChange fnExactNearAboveSpec)

/-- ITS FALSE NEIGHBOUR: 'it returns false'. Refute it at one input. -/
def fnExactNearAboveWrong : ChangeSpec := { name := "fnExactNearAbove", fn := fun _ => fun
  | [d1, d2] => { results := [.lit (.bool false)], args := [d1, d2] }
  | _ => none }
def FnExactNearAboveWrongFalsely : Prop := fnExactNearAboveRow.holds Try.pinned (OpenSpec.ofChange fnExactNearAboveWrong)

/-- 'laws.FnNearBelow': WHATEVER THE INPUT: true; the input reads as it did. -/
def fnNearBelowSpec : ChangeSpec := { name := "fnNearBelow", fn := fun _ => fun
  | [d] => { results := [.lit (.bool true)], args := [d] }
  | _ => none }
def fnNearBelowRow : OpenClaim := { program := "ytpdnehcaogdjiaa", sum := "071331a1e8d9a489723428be8b49bdb910ca2a3f36f15e735d641278dc4f38c8", func := "loop.example/roundturns/laws.FnNearBelow", spec := "fnNearBelow", apart := false }
def FnNearBelowSaid : Prop := fnNearBelowRow.holds Try.pinned (OpenSpec.ofChange fnNearBelowSpec)

/-- ITS FALSE NEIGHBOUR: 'it returns false'. Refute it at one input. -/
def fnNearBelowWrong : ChangeSpec := { name := "fnNearBelow", fn := fun _ => fun
  | [d] => { results := [.lit (.bool false)], args := [d] }
  | _ => none }
def FnNearBelowWrongFalsely : Prop := fnNearBelowRow.holds Try.pinned (OpenSpec.ofChange fnNearBelowWrong)

/-- 'laws.FnExactNearBelow': WHATEVER THE INPUT: true; the input reads as it did. -/
def fnExactNearBelowSpec : ChangeSpec := { name := "fnExactNearBelow", fn := fun _ => fun
  | [d1, d2] => { results := [.lit (.bool true)], args := [d1, d2] }
  | _ => none }
def fnExactNearBelowRow : OpenClaim := { program := "ytpdnehcaogdjiaa", sum := "071331a1e8d9a489723428be8b49bdb910ca2a3f36f15e735d641278dc4f38c8", func := "loop.example/roundturns/laws.FnExactNearBelow", spec := "fnExactNearBelow", apart := false }
def FnExactNearBelowSaid : Prop := fnExactNearBelowRow.holds Try.pinned (OpenSpec.ofChange fnExactNearBelowSpec)

/-- ITS FALSE NEIGHBOUR: 'it returns false'. Refute it at one input. -/
def fnExactNearBelowWrong : ChangeSpec := { name := "fnExactNearBelow", fn := fun _ => fun
  | [d1, d2] => { results := [.lit (.bool false)], args := [d1, d2] }
  | _ => none }
def FnExactNearBelowWrongFalsely : Prop := fnExactNearBelowRow.holds Try.pinned (OpenSpec.ofChange fnExactNearBelowWrong)

/-- 'laws.FnOrderOf': WHATEVER THE INPUT: true; the input reads as it did. -/
def fnOrderOfSpec : ChangeSpec := { name := "fnOrderOf", fn := fun _ => fun
  | [d] => { results := [.lit (.bool true)], args := [d] }
  | _ => none }
def fnOrderOfRow : OpenClaim := { program := "ytpdnehcaogdjiaa", sum := "071331a1e8d9a489723428be8b49bdb910ca2a3f36f15e735d641278dc4f38c8", func := "loop.example/roundturns/laws.FnOrderOf", spec := "fnOrderOf", unfollowed := true, recurses := true, apart := false }
def FnOrderOfSaid : Prop := fnOrderOfRow.holds Try.pinned (OpenSpec.ofChange fnOrderOfSpec)

/-- ITS FALSE NEIGHBOUR: 'it returns false'. Refute it at one input. -/
def fnOrderOfWrong : ChangeSpec := { name := "fnOrderOf", fn := fun _ => fun
  | [d] => { results := [.lit (.bool false)], args := [d] }
  | _ => none }
def FnOrderOfWrongFalsely : Prop := fnOrderOfRow.holds Try.pinned (OpenSpec.ofChange fnOrderOfWrong)

/-- 'laws.FnExactOrderOf': WHATEVER THE INPUT: true; the input reads as it did. -/
def fnExactOrderOfSpec : ChangeSpec := { name := "fnExactOrderOf", fn := fun _ => fun
  | [d1, d2] => { results := [.lit (.bool true)], args := [d1, d2] }
  | _ => none }
def fnExactOrderOfRow : OpenClaim := { program := "ytpdnehcaogdjiaa", sum := "071331a1e8d9a489723428be8b49bdb910ca2a3f36f15e735d641278dc4f38c8", func := "loop.example/roundturns/laws.FnExactOrderOf", spec := "fnExactOrderOf", apart := false }
def FnExactOrderOfSaid : Prop := fnExactOrderOfRow.holds Try.pinned (OpenSpec.ofChange fnExactOrderOfSpec)

/-- ITS FALSE NEIGHBOUR: 'it returns false'. Refute it at one input. -/
def fnExactOrderOfWrong : ChangeSpec := { name := "fnExactOrderOf", fn := fun _ => fun
  | [d1, d2] => { results := [.lit (.bool false)], args := [d1, d2] }
  | _ => none }
def FnExactOrderOfWrongFalsely : Prop := fnExactOrderOfRow.holds Try.pinned (OpenSpec.ofChange fnExactOrderOfWrong)

/-- 'laws.FnPlaceIn': WHATEVER THE INPUT: true; the input reads as it did. -/
def fnPlaceInSpec : ChangeSpec := { name := "fnPlaceIn", fn := fun _ => fun
  | [d] => { results := [.lit (.bool true)], args := [d] }
  | _ => none }
def fnPlaceInRow : OpenClaim := { program := "ytpdnehcaogdjiaa", sum := "071331a1e8d9a489723428be8b49bdb910ca2a3f36f15e735d641278dc4f38c8", func := "loop.example/roundturns/laws.FnPlaceIn", spec := "fnPlaceIn", apart := false }
def FnPlaceInSaid : Prop := fnPlaceInRow.holds Try.pinned (OpenSpec.ofChange fnPlaceInSpec)

/-- ITS FALSE NEIGHBOUR: 'it returns false'. Refute it at one input. -/
def fnPlaceInWrong : ChangeSpec := { name := "fnPlaceIn", fn := fun _ => fun
  | [d] => { results := [.lit (.bool false)], args := [d] }
  | _ => none }
def FnPlaceInWrongFalsely : Prop := fnPlaceInRow.holds Try.pinned (OpenSpec.ofChange fnPlaceInWrong)

/-- 'laws.FnExactPlaceIn': WHATEVER THE INPUT: true; the input reads as it did. -/
def fnExactPlaceInSpec : ChangeSpec := { name := "fnExactPlaceIn", fn := fun _ => fun
  | [d1, d2, d3] => { results := [.lit (.bool true)], args := [d1, d2, d3] }
  | _ => none }
def fnExactPlaceInRow : OpenClaim := { program := "ytpdnehcaogdjiaa", sum := "071331a1e8d9a489723428be8b49bdb910ca2a3f36f15e735d641278dc4f38c8", func := "loop.example/roundturns/laws.FnExactPlaceIn", spec := "fnExactPlaceIn", apart := false }
def FnExactPlaceInSaid : Prop := fnExactPlaceInRow.holds Try.pinned (OpenSpec.ofChange fnExactPlaceInSpec)

/-- ITS FALSE NEIGHBOUR: 'it returns false'. Refute it at one input. -/
def fnExactPlaceInWrong : ChangeSpec := { name := "fnExactPlaceIn", fn := fun _ => fun
  | [d1, d2, d3] => { results := [.lit (.bool false)], args := [d1, d2, d3] }
  | _ => none }
def FnExactPlaceInWrongFalsely : Prop := fnExactPlaceInRow.holds Try.pinned (OpenSpec.ofChange fnExactPlaceInWrong)

/-- 'laws.FnOrderGrows': WHATEVER THE INPUT: true; the input reads as it did. -/
def fnOrderGrowsSpec : ChangeSpec := { name := "fnOrderGrows", fn := fun _ => fun
  | [d] => { results := [.lit (.bool true)], args := [d] }
  | _ => none }
def fnOrderGrowsRow : OpenClaim := { program := "ytpdnehcaogdjiaa", sum := "071331a1e8d9a489723428be8b49bdb910ca2a3f36f15e735d641278dc4f38c8", func := "loop.example/roundturns/laws.FnOrderGrows", spec := "fnOrderGrows", apart := false }
def FnOrderGrowsSaid : Prop := fnOrderGrowsRow.holds Try.pinned (OpenSpec.ofChange fnOrderGrowsSpec)

/-- ITS FALSE NEIGHBOUR: 'it returns false'. Refute it at one input. -/
def fnOrderGrowsWrong : ChangeSpec := { name := "fnOrderGrows", fn := fun _ => fun
  | [d] => { results := [.lit (.bool false)], args := [d] }
  | _ => none }
def FnOrderGrowsWrongFalsely : Prop := fnOrderGrowsRow.holds Try.pinned (OpenSpec.ofChange fnOrderGrowsWrong)

/-- 'laws.FnTurnedPairs': WHATEVER THE INPUT: true; the input reads as it did. -/
def fnTurnedPairsSpec : ChangeSpec := { name := "fnTurnedPairs", fn := fun _ => fun
  | [d1, d2] => { results := [.lit (.bool true)], args := [d1, d2] }
  | _ => none }
def fnTurnedPairsRow : OpenClaim := { program := "ytpdnehcaogdjiaa", sum := "071331a1e8d9a489723428be8b49bdb910ca2a3f36f15e735d641278dc4f38c8", func := "loop.example/roundturns/laws.FnTurnedPairs", spec := "fnTurnedPairs", apart := false }
def FnTurnedPairsSaid : Prop := fnTurnedPairsRow.holds Try.pinned (OpenSpec.ofChange fnTurnedPairsSpec)

/-- ITS FALSE NEIGHBOUR: 'it returns false'. Refute it at one input. -/
def fnTurnedPairsWrong : ChangeSpec := { name := "fnTurnedPairs", fn := fun _ => fun
  | [d1, d2] => { results := [.lit (.bool false)], args := [d1, d2] }
  | _ => none }
def FnTurnedPairsWrongFalsely : Prop := fnTurnedPairsRow.holds Try.pinned (OpenSpec.ofChange fnTurnedPairsWrong)

/- THE SECOND FORM. 'bulk': how many values and letters a reading holds, each counted each time it is reached (what is shared counts as often as it is met; a slice's spare places count too). A statement '..UptoSaid' is the law's where the arguments, and the package variables that the reading takes, are together of bulk at most 1048576: NARROWER than '..Said'. Prove '..Said' where nothing that the law and all that it calls make is longer than what came in: it says more and counts as full. Else prove '..UptoSaid'. A law counts once. -/
mutual
def uptoBulk {H : Type} : DataW H → Nat
  | .lit (.string bytes) => bytes.length + 1
  | .lit _ => 1
  | .nil => 1
  | .ptr d => uptoBulk d + 1
  | .slice elems spare => uptoBulkAll elems + uptoBulkAll spare + 1
  | .agg parts => uptoBulkAll parts + 1
  | .iface _ d => uptoBulk d + 1
  | .map entries => uptoBulkEntries entries + 1
  | .held _ => 1
def uptoBulkAll {H : Type} : List (DataW H) → Nat
  | [] => 0
  | d :: r => uptoBulk d + uptoBulkAll r
def uptoBulkEntries {H : Type} : List (Lit × DataW H) → Nat
  | [] => 0
  | x :: r => uptoBulkEntry x + uptoBulkEntries r
def uptoBulkEntry {H : Type} : Lit × DataW H → Nat
  | (.string bytes, d) => bytes.length + uptoBulk d + 1
  | (_, d) => uptoBulk d + 1
 end
def uptoSmall : (H : Type) → List (DataW H) → Bool := fun _ ds => decide (uptoBulkAll ds ≤ 1048576)
def OpenSpec.upto (s : _root_.Go.ChangeSpec) : _root_.Go.OpenSpec := { _root_.Go.OpenSpec.ofChange s with cond := some uptoSmall }

/-- 'laws.FnNearAbove', WHERE WHAT IT READS IS OF BULK AT MOST 1048576: true; the input reads as it did. -/
def fnNearAboveUptoRow : OpenClaim := { program := "ytpdnehcaogdjiaa", sum := "071331a1e8d9a489723428be8b49bdb910ca2a3f36f15e735d641278dc4f38c8", func := "loop.example/roundturns/laws.FnNearAbove", spec := "fnNearAbove", apart := false, narrowed := true }
def FnNearAboveUptoSaid : Prop := fnNearAboveUptoRow.holds Try.pinned (OpenSpec.upto fnNearAboveSpec)

/-- 'laws.FnExactNearAbove', WHERE WHAT IT READS IS OF BULK AT MOST 1048576: true; the input reads as it did. -/
def fnExactNearAboveUptoRow : OpenClaim := { program := "ytpdnehcaogdjiaa", sum := "071331a1e8d9a489723428be8b49bdb910ca2a3f36f15e735d641278dc4f38c8", func := "loop.example/roundturns/laws.FnExactNearAbove", spec := "fnExactNearAbove", apart := false, narrowed := true }
def FnExactNearAboveUptoSaid : Prop := fnExactNearAboveUptoRow.holds Try.pinned (OpenSpec.upto fnExactNearAboveSpec)

/-- 'laws.FnNearBelow', WHERE WHAT IT READS IS OF BULK AT MOST 1048576: true; the input reads as it did. -/
def fnNearBelowUptoRow : OpenClaim := { program := "ytpdnehcaogdjiaa", sum := "071331a1e8d9a489723428be8b49bdb910ca2a3f36f15e735d641278dc4f38c8", func := "loop.example/roundturns/laws.FnNearBelow", spec := "fnNearBelow", apart := false, narrowed := true }
def FnNearBelowUptoSaid : Prop := fnNearBelowUptoRow.holds Try.pinned (OpenSpec.upto fnNearBelowSpec)

/-- 'laws.FnExactNearBelow', WHERE WHAT IT READS IS OF BULK AT MOST 1048576: true; the input reads as it did. -/
def fnExactNearBelowUptoRow : OpenClaim := { program := "ytpdnehcaogdjiaa", sum := "071331a1e8d9a489723428be8b49bdb910ca2a3f36f15e735d641278dc4f38c8", func := "loop.example/roundturns/laws.FnExactNearBelow", spec := "fnExactNearBelow", apart := false, narrowed := true }
def FnExactNearBelowUptoSaid : Prop := fnExactNearBelowUptoRow.holds Try.pinned (OpenSpec.upto fnExactNearBelowSpec)

/-- 'laws.FnOrderOf', WHERE WHAT IT READS IS OF BULK AT MOST 1048576: true; the input reads as it did. -/
def fnOrderOfUptoRow : OpenClaim := { program := "ytpdnehcaogdjiaa", sum := "071331a1e8d9a489723428be8b49bdb910ca2a3f36f15e735d641278dc4f38c8", func := "loop.example/roundturns/laws.FnOrderOf", spec := "fnOrderOf", unfollowed := true, recurses := true, apart := false, narrowed := true }
def FnOrderOfUptoSaid : Prop := fnOrderOfUptoRow.holds Try.pinned (OpenSpec.upto fnOrderOfSpec)

/-- 'laws.FnExactOrderOf', WHERE WHAT IT READS IS OF BULK AT MOST 1048576: true; the input reads as it did. -/
def fnExactOrderOfUptoRow : OpenClaim := { program := "ytpdnehcaogdjiaa", sum := "071331a1e8d9a489723428be8b49bdb910ca2a3f36f15e735d641278dc4f38c8", func := "loop.example/roundturns/laws.FnExactOrderOf", spec := "fnExactOrderOf", apart := false, narrowed := true }
def FnExactOrderOfUptoSaid : Prop := fnExactOrderOfUptoRow.holds Try.pinned (OpenSpec.upto fnExactOrderOfSpec)

/-- 'laws.FnPlaceIn', WHERE WHAT IT READS IS OF BULK AT MOST 1048576: true; the input reads as it did. -/
def fnPlaceInUptoRow : OpenClaim := { program := "ytpdnehcaogdjiaa", sum := "071331a1e8d9a489723428be8b49bdb910ca2a3f36f15e735d641278dc4f38c8", func := "loop.example/roundturns/laws.FnPlaceIn", spec := "fnPlaceIn", apart := false, narrowed := true }
def FnPlaceInUptoSaid : Prop := fnPlaceInUptoRow.holds Try.pinned (OpenSpec.upto fnPlaceInSpec)

/-- 'laws.FnExactPlaceIn', WHERE WHAT IT READS IS OF BULK AT MOST 1048576: true; the input reads as it did. -/
def fnExactPlaceInUptoRow : OpenClaim := { program := "ytpdnehcaogdjiaa", sum := "071331a1e8d9a489723428be8b49bdb910ca2a3f36f15e735d641278dc4f38c8", func := "loop.example/roundturns/laws.FnExactPlaceIn", spec := "fnExactPlaceIn", apart := false, narrowed := true }
def FnExactPlaceInUptoSaid : Prop := fnExactPlaceInUptoRow.holds Try.pinned (OpenSpec.upto fnExactPlaceInSpec)

/-- 'laws.FnOrderGrows', WHERE WHAT IT READS IS OF BULK AT MOST 1048576: true; the input reads as it did. -/
def fnOrderGrowsUptoRow : OpenClaim := { program := "ytpdnehcaogdjiaa", sum := "071331a1e8d9a489723428be8b49bdb910ca2a3f36f15e735d641278dc4f38c8", func := "loop.example/roundturns/laws.FnOrderGrows", spec := "fnOrderGrows", apart := false, narrowed := true }
def FnOrderGrowsUptoSaid : Prop := fnOrderGrowsUptoRow.holds Try.pinned (OpenSpec.upto fnOrderGrowsSpec)

/-- 'laws.FnTurnedPairs', WHERE WHAT IT READS IS OF BULK AT MOST 1048576: true; the input reads as it did. -/
def fnTurnedPairsUptoRow : OpenClaim := { program := "ytpdnehcaogdjiaa", sum := "071331a1e8d9a489723428be8b49bdb910ca2a3f36f15e735d641278dc4f38c8", func := "loop.example/roundturns/laws.FnTurnedPairs", spec := "fnTurnedPairs", apart := false, narrowed := true }
def FnTurnedPairsUptoSaid : Prop := fnTurnedPairsUptoRow.holds Try.pinned (OpenSpec.upto fnTurnedPairsSpec)

end Rows
end Go.Proofs.Ytpdnehcaogdjiaa
