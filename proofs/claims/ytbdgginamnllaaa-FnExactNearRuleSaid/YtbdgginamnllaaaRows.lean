/-
  No cell of these rows narrows 'for every input' (looked for: loops, veiled, ifaces, maps, wideKeys, modest, calm, conditions, laid).
  DERIVED. THE GIVEN ROWS OF THIS SEAT. 13 by the template 'for every input the law returns true; each argument reads behind the call as it read before'; 0 by the template 'total and deterministic' (their statements: YtbdgginamnllaaaTotals.lean).
  GIVEN WITH THE SEED: the statements are not yours to turn. If you find one false, say at which input.
  Laid BY PROGRAM, IN A SANDBOX (cutbox-rows.mjs): the forced cells as the released guide's own fill.sh prints them over the translation 95de72dab866260a… (all of the seat's roots in one cut). By AI agents, Wed Nov 11 2026. No macro, syntax, notation, axiom, sorry.
-/
import Derived.Test.YtbdgginamnllaaaChecked
import GoSem.Claim
import GoSem.ClaimJoined
import GoSem.ClaimMapViews
import Derived.JoinedTies
import Derived.KernelRfl
namespace Go.Proofs.Ytbdgginamnllaaa
/- THE CELL 'sum', in the pinned program and in every row, IS THE sha256 OF THE DUMP (.gsa) THAT YtbdgginamnllaaaProg.lean LOADS. Nothing in Lean hashes anything: it is a label: what it is worth is what the hold of that sum in a sandbox is worth. -/
noncomputable def Try.pinned : Pinned := { name := "ytbdgginamnllaaa", sum := "95de72dab866260a7390e926144b3e42c73fd8dbab077d39b993c3323eb7e400", checked := Try.checked }
namespace Rows
def none {H : Type} : Left H := { results := [], args := [] }

/-- 'laws.FnRecordsAbove': WHATEVER THE INPUT: true; the input reads as it did. -/
def fnRecordsAboveSpec : ChangeSpec := { name := "fnRecordsAbove", fn := fun _ => fun
  | [d] => { results := [.lit (.bool true)], args := [d] }
  | _ => none }
def fnRecordsAboveRow : OpenClaim := { program := "ytbdgginamnllaaa", sum := "95de72dab866260a7390e926144b3e42c73fd8dbab077d39b993c3323eb7e400", func := "loop.example/roundturns/laws.FnRecordsAbove", spec := "fnRecordsAbove", unfollowed := true, recurses := true, apart := false }
def FnRecordsAboveSaid : Prop := fnRecordsAboveRow.holds Try.pinned (OpenSpec.ofChange fnRecordsAboveSpec)

/-- ITS FALSE NEIGHBOUR: 'it returns false'. Refute it at one input. -/
def fnRecordsAboveWrong : ChangeSpec := { name := "fnRecordsAbove", fn := fun _ => fun
  | [d] => { results := [.lit (.bool false)], args := [d] }
  | _ => none }
def FnRecordsAboveWrongFalsely : Prop := fnRecordsAboveRow.holds Try.pinned (OpenSpec.ofChange fnRecordsAboveWrong)

/-- 'laws.FnRecordsBelow': WHATEVER THE INPUT: true; the input reads as it did. -/
def fnRecordsBelowSpec : ChangeSpec := { name := "fnRecordsBelow", fn := fun _ => fun
  | [d] => { results := [.lit (.bool true)], args := [d] }
  | _ => none }
def fnRecordsBelowRow : OpenClaim := { program := "ytbdgginamnllaaa", sum := "95de72dab866260a7390e926144b3e42c73fd8dbab077d39b993c3323eb7e400", func := "loop.example/roundturns/laws.FnRecordsBelow", spec := "fnRecordsBelow", unfollowed := true, recurses := true, apart := false }
def FnRecordsBelowSaid : Prop := fnRecordsBelowRow.holds Try.pinned (OpenSpec.ofChange fnRecordsBelowSpec)

/-- ITS FALSE NEIGHBOUR: 'it returns false'. Refute it at one input. -/
def fnRecordsBelowWrong : ChangeSpec := { name := "fnRecordsBelow", fn := fun _ => fun
  | [d] => { results := [.lit (.bool false)], args := [d] }
  | _ => none }
def FnRecordsBelowWrongFalsely : Prop := fnRecordsBelowRow.holds Try.pinned (OpenSpec.ofChange fnRecordsBelowWrong)

/-- 'laws.FnNearRule': WHATEVER THE INPUT: true; the input reads as it did. -/
def fnNearRuleSpec : ChangeSpec := { name := "fnNearRule", fn := fun _ => fun
  | [d] => { results := [.lit (.bool true)], args := [d] }
  | _ => none }
def fnNearRuleRow : OpenClaim := { program := "ytbdgginamnllaaa", sum := "95de72dab866260a7390e926144b3e42c73fd8dbab077d39b993c3323eb7e400", func := "loop.example/roundturns/laws.FnNearRule", spec := "fnNearRule", unfollowed := true, recurses := true, apart := false }
def FnNearRuleSaid : Prop := fnNearRuleRow.holds Try.pinned (OpenSpec.ofChange fnNearRuleSpec)

/-- ITS FALSE NEIGHBOUR: 'it returns false'. Refute it at one input. -/
def fnNearRuleWrong : ChangeSpec := { name := "fnNearRule", fn := fun _ => fun
  | [d] => { results := [.lit (.bool false)], args := [d] }
  | _ => none }
def FnNearRuleWrongFalsely : Prop := fnNearRuleRow.holds Try.pinned (OpenSpec.ofChange fnNearRuleWrong)

/-- 'laws.FnQuotientsOf': WHATEVER THE INPUT: true; the input reads as it did. -/
def fnQuotientsOfSpec : ChangeSpec := { name := "fnQuotientsOf", fn := fun _ => fun
  | [d] => { results := [.lit (.bool true)], args := [d] }
  | _ => none }
def fnQuotientsOfRow : OpenClaim := { program := "ytbdgginamnllaaa", sum := "95de72dab866260a7390e926144b3e42c73fd8dbab077d39b993c3323eb7e400", func := "loop.example/roundturns/laws.FnQuotientsOf", spec := "fnQuotientsOf", unfollowed := true, recurses := true, apart := false }
def FnQuotientsOfSaid : Prop := fnQuotientsOfRow.holds Try.pinned (OpenSpec.ofChange fnQuotientsOfSpec)

/-- ITS FALSE NEIGHBOUR: 'it returns false'. Refute it at one input. -/
def fnQuotientsOfWrong : ChangeSpec := { name := "fnQuotientsOf", fn := fun _ => fun
  | [d] => { results := [.lit (.bool false)], args := [d] }
  | _ => none }
def FnQuotientsOfWrongFalsely : Prop := fnQuotientsOfRow.holds Try.pinned (OpenSpec.ofChange fnQuotientsOfWrong)

/-- 'laws.FnFromQuotients': WHATEVER THE INPUT: true; the input reads as it did. -/
def fnFromQuotientsSpec : ChangeSpec := { name := "fnFromQuotients", fn := fun _ => fun
  | [d] => { results := [.lit (.bool true)], args := [d] }
  | _ => none }
def fnFromQuotientsRow : OpenClaim := { program := "ytbdgginamnllaaa", sum := "95de72dab866260a7390e926144b3e42c73fd8dbab077d39b993c3323eb7e400", func := "loop.example/roundturns/laws.FnFromQuotients", spec := "fnFromQuotients", unfollowed := true, recurses := true, apart := false }
def FnFromQuotientsSaid : Prop := fnFromQuotientsRow.holds Try.pinned (OpenSpec.ofChange fnFromQuotientsSpec)

/-- ITS FALSE NEIGHBOUR: 'it returns false'. Refute it at one input. -/
def fnFromQuotientsWrong : ChangeSpec := { name := "fnFromQuotients", fn := fun _ => fun
  | [d] => { results := [.lit (.bool false)], args := [d] }
  | _ => none }
def FnFromQuotientsWrongFalsely : Prop := fnFromQuotientsRow.holds Try.pinned (OpenSpec.ofChange fnFromQuotientsWrong)

/-- 'laws.FnNearTimes': WHATEVER THE INPUT: true; the input reads as it did. -/
def fnNearTimesSpec : ChangeSpec := { name := "fnNearTimes", fn := fun _ => fun
  | [d] => { results := [.lit (.bool true)], args := [d] }
  | _ => none }
def fnNearTimesRow : OpenClaim := { program := "ytbdgginamnllaaa", sum := "95de72dab866260a7390e926144b3e42c73fd8dbab077d39b993c3323eb7e400", func := "loop.example/roundturns/laws.FnNearTimes", spec := "fnNearTimes", unfollowed := true, recurses := true, apart := false }
def FnNearTimesSaid : Prop := fnNearTimesRow.holds Try.pinned (OpenSpec.ofChange fnNearTimesSpec)

/-- ITS FALSE NEIGHBOUR: 'it returns false'. Refute it at one input. -/
def fnNearTimesWrong : ChangeSpec := { name := "fnNearTimes", fn := fun _ => fun
  | [d] => { results := [.lit (.bool false)], args := [d] }
  | _ => none }
def FnNearTimesWrongFalsely : Prop := fnNearTimesRow.holds Try.pinned (OpenSpec.ofChange fnNearTimesWrong)

/-- 'laws.FnBestNear': WHATEVER THE INPUT: true; the input reads as it did. -/
def fnBestNearSpec : ChangeSpec := { name := "fnBestNear", fn := fun _ => fun
  | [d] => { results := [.lit (.bool true)], args := [d] }
  | _ => none }
def fnBestNearRow : OpenClaim := { program := "ytbdgginamnllaaa", sum := "95de72dab866260a7390e926144b3e42c73fd8dbab077d39b993c3323eb7e400", func := "loop.example/roundturns/laws.FnBestNear", spec := "fnBestNear", apart := false }
def FnBestNearSaid : Prop := fnBestNearRow.holds Try.pinned (OpenSpec.ofChange fnBestNearSpec)

/-- ITS FALSE NEIGHBOUR: 'it returns false'. Refute it at one input. -/
def fnBestNearWrong : ChangeSpec := { name := "fnBestNear", fn := fun _ => fun
  | [d] => { results := [.lit (.bool false)], args := [d] }
  | _ => none }
def FnBestNearWrongFalsely : Prop := fnBestNearRow.holds Try.pinned (OpenSpec.ofChange fnBestNearWrong)

/-- 'laws.FnExactRecordsAbove': WHATEVER THE INPUT: true; the input reads as it did. -/
def fnExactRecordsAboveSpec : ChangeSpec := { name := "fnExactRecordsAbove", fn := fun _ => fun
  | [d] => { results := [.lit (.bool true)], args := [d] }
  | _ => none }
def fnExactRecordsAboveRow : OpenClaim := { program := "ytbdgginamnllaaa", sum := "95de72dab866260a7390e926144b3e42c73fd8dbab077d39b993c3323eb7e400", func := "loop.example/roundturns/laws.FnExactRecordsAbove", spec := "fnExactRecordsAbove", unfollowed := true, recurses := true, apart := false }
def FnExactRecordsAboveSaid : Prop := fnExactRecordsAboveRow.holds Try.pinned (OpenSpec.ofChange fnExactRecordsAboveSpec)

/-- ITS FALSE NEIGHBOUR: 'it returns false'. Refute it at one input. -/
def fnExactRecordsAboveWrong : ChangeSpec := { name := "fnExactRecordsAbove", fn := fun _ => fun
  | [d] => { results := [.lit (.bool false)], args := [d] }
  | _ => none }
def FnExactRecordsAboveWrongFalsely : Prop := fnExactRecordsAboveRow.holds Try.pinned (OpenSpec.ofChange fnExactRecordsAboveWrong)

/-- 'laws.FnExactRecordsBelow': WHATEVER THE INPUT: true; the input reads as it did. -/
def fnExactRecordsBelowSpec : ChangeSpec := { name := "fnExactRecordsBelow", fn := fun _ => fun
  | [d] => { results := [.lit (.bool true)], args := [d] }
  | _ => none }
def fnExactRecordsBelowRow : OpenClaim := { program := "ytbdgginamnllaaa", sum := "95de72dab866260a7390e926144b3e42c73fd8dbab077d39b993c3323eb7e400", func := "loop.example/roundturns/laws.FnExactRecordsBelow", spec := "fnExactRecordsBelow", unfollowed := true, recurses := true, apart := false }
def FnExactRecordsBelowSaid : Prop := fnExactRecordsBelowRow.holds Try.pinned (OpenSpec.ofChange fnExactRecordsBelowSpec)

/-- ITS FALSE NEIGHBOUR: 'it returns false'. Refute it at one input. -/
def fnExactRecordsBelowWrong : ChangeSpec := { name := "fnExactRecordsBelow", fn := fun _ => fun
  | [d] => { results := [.lit (.bool false)], args := [d] }
  | _ => none }
def FnExactRecordsBelowWrongFalsely : Prop := fnExactRecordsBelowRow.holds Try.pinned (OpenSpec.ofChange fnExactRecordsBelowWrong)

/-- 'laws.FnExactNearRule': WHATEVER THE INPUT: true; the input reads as it did. -/
def fnExactNearRuleSpec : ChangeSpec := { name := "fnExactNearRule", fn := fun _ => fun
  | [d] => { results := [.lit (.bool true)], args := [d] }
  | _ => none }
def fnExactNearRuleRow : OpenClaim := { program := "ytbdgginamnllaaa", sum := "95de72dab866260a7390e926144b3e42c73fd8dbab077d39b993c3323eb7e400", func := "loop.example/roundturns/laws.FnExactNearRule", spec := "fnExactNearRule", unfollowed := true, recurses := true, apart := false }
def FnExactNearRuleSaid : Prop := fnExactNearRuleRow.holds Try.pinned (OpenSpec.ofChange fnExactNearRuleSpec)

/-- ITS FALSE NEIGHBOUR: 'it returns false'. Refute it at one input. -/
def fnExactNearRuleWrong : ChangeSpec := { name := "fnExactNearRule", fn := fun _ => fun
  | [d] => { results := [.lit (.bool false)], args := [d] }
  | _ => none }
def FnExactNearRuleWrongFalsely : Prop := fnExactNearRuleRow.holds Try.pinned (OpenSpec.ofChange fnExactNearRuleWrong)

/-- 'laws.FnExactQuotientsOf': WHATEVER THE INPUT: true; the input reads as it did. -/
def fnExactQuotientsOfSpec : ChangeSpec := { name := "fnExactQuotientsOf", fn := fun _ => fun
  | [d] => { results := [.lit (.bool true)], args := [d] }
  | _ => none }
def fnExactQuotientsOfRow : OpenClaim := { program := "ytbdgginamnllaaa", sum := "95de72dab866260a7390e926144b3e42c73fd8dbab077d39b993c3323eb7e400", func := "loop.example/roundturns/laws.FnExactQuotientsOf", spec := "fnExactQuotientsOf", apart := false }
def FnExactQuotientsOfSaid : Prop := fnExactQuotientsOfRow.holds Try.pinned (OpenSpec.ofChange fnExactQuotientsOfSpec)

/-- ITS FALSE NEIGHBOUR: 'it returns false'. Refute it at one input. -/
def fnExactQuotientsOfWrong : ChangeSpec := { name := "fnExactQuotientsOf", fn := fun _ => fun
  | [d] => { results := [.lit (.bool false)], args := [d] }
  | _ => none }
def FnExactQuotientsOfWrongFalsely : Prop := fnExactQuotientsOfRow.holds Try.pinned (OpenSpec.ofChange fnExactQuotientsOfWrong)

/-- 'laws.FnExactFromQuotients': WHATEVER THE INPUT: true; the input reads as it did. -/
def fnExactFromQuotientsSpec : ChangeSpec := { name := "fnExactFromQuotients", fn := fun _ => fun
  | [d] => { results := [.lit (.bool true)], args := [d] }
  | _ => none }
def fnExactFromQuotientsRow : OpenClaim := { program := "ytbdgginamnllaaa", sum := "95de72dab866260a7390e926144b3e42c73fd8dbab077d39b993c3323eb7e400", func := "loop.example/roundturns/laws.FnExactFromQuotients", spec := "fnExactFromQuotients", unfollowed := true, recurses := true, apart := false }
def FnExactFromQuotientsSaid : Prop := fnExactFromQuotientsRow.holds Try.pinned (OpenSpec.ofChange fnExactFromQuotientsSpec)

/-- ITS FALSE NEIGHBOUR: 'it returns false'. Refute it at one input. -/
def fnExactFromQuotientsWrong : ChangeSpec := { name := "fnExactFromQuotients", fn := fun _ => fun
  | [d] => { results := [.lit (.bool false)], args := [d] }
  | _ => none }
def FnExactFromQuotientsWrongFalsely : Prop := fnExactFromQuotientsRow.holds Try.pinned (OpenSpec.ofChange fnExactFromQuotientsWrong)

/-- 'laws.FnExactNearTimes': WHATEVER THE INPUT: true; the input reads as it did. -/
def fnExactNearTimesSpec : ChangeSpec := { name := "fnExactNearTimes", fn := fun _ => fun
  | [d] => { results := [.lit (.bool true)], args := [d] }
  | _ => none }
def fnExactNearTimesRow : OpenClaim := { program := "ytbdgginamnllaaa", sum := "95de72dab866260a7390e926144b3e42c73fd8dbab077d39b993c3323eb7e400", func := "loop.example/roundturns/laws.FnExactNearTimes", spec := "fnExactNearTimes", apart := false }
def FnExactNearTimesSaid : Prop := fnExactNearTimesRow.holds Try.pinned (OpenSpec.ofChange fnExactNearTimesSpec)

/-- ITS FALSE NEIGHBOUR: 'it returns false'. Refute it at one input. -/
def fnExactNearTimesWrong : ChangeSpec := { name := "fnExactNearTimes", fn := fun _ => fun
  | [d] => { results := [.lit (.bool false)], args := [d] }
  | _ => none }
def FnExactNearTimesWrongFalsely : Prop := fnExactNearTimesRow.holds Try.pinned (OpenSpec.ofChange fnExactNearTimesWrong)

/- THE SECOND FORM. 'bulk': how many values and letters a reading holds, each counted each time it is reached (what is shared counts as often as it is met; a slice's spare places count too). A statement '..UptoSaid' is the law's where the arguments, and the package variables that the reading takes, are together of bulk at most 1048576: NARROWER than '..Said'. Prove '..Said' where nothing that the law and all that it calls make is longer than what came in: it says more and counts as full. Else prove '..UptoSaid'. A law counts once. -/
mutual
def uptoBulk {H : Type} : DataW H → Nat
  | .lit (.string bytes) => bytes.length + 1
  | .lit _ => 1
  | .nil => 1
  | .ptr d => uptoBulk d + 1
  | .slice elems spare => uptoBulkAll elems + uptoBulkAll spare + 1
  | .agg parts => uptoBulkAll parts + 1
  | .iface _ d => uptoBulk d + 1
  | .map entries => uptoBulkEntries entries + 1
  | .held _ => 1
def uptoBulkAll {H : Type} : List (DataW H) → Nat
  | [] => 0
  | d :: r => uptoBulk d + uptoBulkAll r
def uptoBulkEntries {H : Type} : List (Lit × DataW H) → Nat
  | [] => 0
  | x :: r => uptoBulkEntry x + uptoBulkEntries r
def uptoBulkEntry {H : Type} : Lit × DataW H → Nat
  | (.string bytes, d) => bytes.length + uptoBulk d + 1
  | (_, d) => uptoBulk d + 1
 end
def uptoSmall : (H : Type) → List (DataW H) → Bool := fun _ ds => decide (uptoBulkAll ds ≤ 1048576)
def OpenSpec.upto (s : _root_.Go.ChangeSpec) : _root_.Go.OpenSpec := { _root_.Go.OpenSpec.ofChange s with cond := some uptoSmall }

/-- 'laws.FnRecordsAbove', WHERE WHAT IT READS IS OF BULK AT MOST 1048576: true; the input reads as it did. -/
def fnRecordsAboveUptoRow : OpenClaim := { program := "ytbdgginamnllaaa", sum := "95de72dab866260a7390e926144b3e42c73fd8dbab077d39b993c3323eb7e400", func := "loop.example/roundturns/laws.FnRecordsAbove", spec := "fnRecordsAbove", unfollowed := true, recurses := true, apart := false, narrowed := true }
def FnRecordsAboveUptoSaid : Prop := fnRecordsAboveUptoRow.holds Try.pinned (OpenSpec.upto fnRecordsAboveSpec)

/-- 'laws.FnRecordsBelow', WHERE WHAT IT READS IS OF BULK AT MOST 1048576: true; the input reads as it did. -/
def fnRecordsBelowUptoRow : OpenClaim := { program := "ytbdgginamnllaaa", sum := "95de72dab866260a7390e926144b3e42c73fd8dbab077d39b993c3323eb7e400", func := "loop.example/roundturns/laws.FnRecordsBelow", spec := "fnRecordsBelow", unfollowed := true, recurses := true, apart := false, narrowed := true }
def FnRecordsBelowUptoSaid : Prop := fnRecordsBelowUptoRow.holds Try.pinned (OpenSpec.upto fnRecordsBelowSpec)

/-- 'laws.FnNearRule', WHERE WHAT IT READS IS OF BULK AT MOST 1048576: true; the input reads as it did. -/
def fnNearRuleUptoRow : OpenClaim := { program := "ytbdgginamnllaaa", sum := "95de72dab866260a7390e926144b3e42c73fd8dbab077d39b993c3323eb7e400", func := "loop.example/roundturns/laws.FnNearRule", spec := "fnNearRule", unfollowed := true, recurses := true, apart := false, narrowed := true }
def FnNearRuleUptoSaid : Prop := fnNearRuleUptoRow.holds Try.pinned (OpenSpec.upto fnNearRuleSpec)

/-- 'laws.FnQuotientsOf', WHERE WHAT IT READS IS OF BULK AT MOST 1048576: true; the input reads as it did. -/
def fnQuotientsOfUptoRow : OpenClaim := { program := "ytbdgginamnllaaa", sum := "95de72dab866260a7390e926144b3e42c73fd8dbab077d39b993c3323eb7e400", func := "loop.example/roundturns/laws.FnQuotientsOf", spec := "fnQuotientsOf", unfollowed := true, recurses := true, apart := false, narrowed := true }
def FnQuotientsOfUptoSaid : Prop := fnQuotientsOfUptoRow.holds Try.pinned (OpenSpec.upto fnQuotientsOfSpec)

/-- 'laws.FnFromQuotients', WHERE WHAT IT READS IS OF BULK AT MOST 1048576: true; the input reads as it did. -/
def fnFromQuotientsUptoRow : OpenClaim := { program := "ytbdgginamnllaaa", sum := "95de72dab866260a7390e926144b3e42c73fd8dbab077d39b993c3323eb7e400", func := "loop.example/roundturns/laws.FnFromQuotients", spec := "fnFromQuotients", unfollowed := true, recurses := true, apart := false, narrowed := true }
def FnFromQuotientsUptoSaid : Prop := fnFromQuotientsUptoRow.holds Try.pinned (OpenSpec.upto fnFromQuotientsSpec)

/-- 'laws.FnNearTimes', WHERE WHAT IT READS IS OF BULK AT MOST 1048576: true; the input reads as it did. -/
def fnNearTimesUptoRow : OpenClaim := { program := "ytbdgginamnllaaa", sum := "95de72dab866260a7390e926144b3e42c73fd8dbab077d39b993c3323eb7e400", func := "loop.example/roundturns/laws.FnNearTimes", spec := "fnNearTimes", unfollowed := true, recurses := true, apart := false, narrowed := true }
def FnNearTimesUptoSaid : Prop := fnNearTimesUptoRow.holds Try.pinned (OpenSpec.upto fnNearTimesSpec)

/-- 'laws.FnBestNear', WHERE WHAT IT READS IS OF BULK AT MOST 1048576: true; the input reads as it did. -/
def fnBestNearUptoRow : OpenClaim := { program := "ytbdgginamnllaaa", sum := "95de72dab866260a7390e926144b3e42c73fd8dbab077d39b993c3323eb7e400", func := "loop.example/roundturns/laws.FnBestNear", spec := "fnBestNear", apart := false, narrowed := true }
def FnBestNearUptoSaid : Prop := fnBestNearUptoRow.holds Try.pinned (OpenSpec.upto fnBestNearSpec)

/-- 'laws.FnExactRecordsAbove', WHERE WHAT IT READS IS OF BULK AT MOST 1048576: true; the input reads as it did. -/
def fnExactRecordsAboveUptoRow : OpenClaim := { program := "ytbdgginamnllaaa", sum := "95de72dab866260a7390e926144b3e42c73fd8dbab077d39b993c3323eb7e400", func := "loop.example/roundturns/laws.FnExactRecordsAbove", spec := "fnExactRecordsAbove", unfollowed := true, recurses := true, apart := false, narrowed := true }
def FnExactRecordsAboveUptoSaid : Prop := fnExactRecordsAboveUptoRow.holds Try.pinned (OpenSpec.upto fnExactRecordsAboveSpec)

/-- 'laws.FnExactRecordsBelow', WHERE WHAT IT READS IS OF BULK AT MOST 1048576: true; the input reads as it did. -/
def fnExactRecordsBelowUptoRow : OpenClaim := { program := "ytbdgginamnllaaa", sum := "95de72dab866260a7390e926144b3e42c73fd8dbab077d39b993c3323eb7e400", func := "loop.example/roundturns/laws.FnExactRecordsBelow", spec := "fnExactRecordsBelow", unfollowed := true, recurses := true, apart := false, narrowed := true }
def FnExactRecordsBelowUptoSaid : Prop := fnExactRecordsBelowUptoRow.holds Try.pinned (OpenSpec.upto fnExactRecordsBelowSpec)

/-- 'laws.FnExactNearRule', WHERE WHAT IT READS IS OF BULK AT MOST 1048576: true; the input reads as it did. -/
def fnExactNearRuleUptoRow : OpenClaim := { program := "ytbdgginamnllaaa", sum := "95de72dab866260a7390e926144b3e42c73fd8dbab077d39b993c3323eb7e400", func := "loop.example/roundturns/laws.FnExactNearRule", spec := "fnExactNearRule", unfollowed := true, recurses := true, apart := false, narrowed := true }
def FnExactNearRuleUptoSaid : Prop := fnExactNearRuleUptoRow.holds Try.pinned (OpenSpec.upto fnExactNearRuleSpec)

/-- 'laws.FnExactQuotientsOf', WHERE WHAT IT READS IS OF BULK AT MOST 1048576: true; the input reads as it did. -/
def fnExactQuotientsOfUptoRow : OpenClaim := { program := "ytbdgginamnllaaa", sum := "95de72dab866260a7390e926144b3e42c73fd8dbab077d39b993c3323eb7e400", func := "loop.example/roundturns/laws.FnExactQuotientsOf", spec := "fnExactQuotientsOf", apart := false, narrowed := true }
def FnExactQuotientsOfUptoSaid : Prop := fnExactQuotientsOfUptoRow.holds Try.pinned (OpenSpec.upto fnExactQuotientsOfSpec)

/-- 'laws.FnExactFromQuotients', WHERE WHAT IT READS IS OF BULK AT MOST 1048576: true; the input reads as it did. -/
def fnExactFromQuotientsUptoRow : OpenClaim := { program := "ytbdgginamnllaaa", sum := "95de72dab866260a7390e926144b3e42c73fd8dbab077d39b993c3323eb7e400", func := "loop.example/roundturns/laws.FnExactFromQuotients", spec := "fnExactFromQuotients", unfollowed := true, recurses := true, apart := false, narrowed := true }
def FnExactFromQuotientsUptoSaid : Prop := fnExactFromQuotientsUptoRow.holds Try.pinned (OpenSpec.upto fnExactFromQuotientsSpec)

/-- 'laws.FnExactNearTimes', WHERE WHAT IT READS IS OF BULK AT MOST 1048576: true; the input reads as it did. -/
def fnExactNearTimesUptoRow : OpenClaim := { program := "ytbdgginamnllaaa", sum := "95de72dab866260a7390e926144b3e42c73fd8dbab077d39b993c3323eb7e400", func := "loop.example/roundturns/laws.FnExactNearTimes", spec := "fnExactNearTimes", apart := false, narrowed := true }
def FnExactNearTimesUptoSaid : Prop := fnExactNearTimesUptoRow.holds Try.pinned (OpenSpec.upto fnExactNearTimesSpec)

end Rows
end Go.Proofs.Ytbdgginamnllaaa
