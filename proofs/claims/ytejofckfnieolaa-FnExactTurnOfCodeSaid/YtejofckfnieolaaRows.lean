/-
  No cell of these rows narrows 'for every input' (looked for: loops, veiled, ifaces, maps, wideKeys, modest, calm, conditions, laid).
  DERIVED. THE GIVEN ROWS OF THIS SEAT. 9 by the template 'for every input the law returns true; each argument reads behind the call as it read before'; 0 by the template 'total and deterministic' (their statements: YtejofckfnieolaaTotals.lean).
  GIVEN WITH THE SEED: the statements are not yours to turn. If you find one false, say at which input.
  Laid BY PROGRAM, IN A SANDBOX (cutbox-rows.mjs): the forced cells as the released guide's own fill.sh prints them over the translation 394437c8f13b9fd6… (all of the seat's roots in one cut). By AI agents, Wed Nov 11 2026. No macro, syntax, notation, axiom, sorry.
-/
import Derived.Test.YtejofckfnieolaaChecked
import GoSem.Claim
import GoSem.ClaimJoined
import GoSem.ClaimMapViews
import Derived.JoinedTies
import Derived.KernelRfl
namespace Go.Proofs.Ytejofckfnieolaa
/- THE CELL 'sum', in the pinned program and in every row, IS THE sha256 OF THE DUMP (.gsa) THAT YtejofckfnieolaaProg.lean LOADS. Nothing in Lean hashes anything: it is a label: what it is worth is what the hold of that sum in a sandbox is worth. -/
noncomputable def Try.pinned : Pinned := { name := "ytejofckfnieolaa", sum := "394437c8f13b9fd6b2c81d835949d6f4be9e447db97a27753b89af64bfeedd08", checked := Try.checked }
namespace Rows
def none {H : Type} : Left H := { results := [], args := [] }

/-- 'laws.FnRecordsAbove': WHATEVER THE INPUT: true; the input reads as it did. -/
def fnRecordsAboveSpec : ChangeSpec := { name := "fnRecordsAbove", fn := fun _ => fun
  | [d] => { results := [.lit (.bool true)], args := [d] }
  | _ => none }
def fnRecordsAboveRow : OpenClaim := { program := "ytejofckfnieolaa", sum := "394437c8f13b9fd6b2c81d835949d6f4be9e447db97a27753b89af64bfeedd08", func := "loop.example/roundturns/laws.FnRecordsAbove", spec := "fnRecordsAbove", unfollowed := true, recurses := true, apart := false }
def FnRecordsAboveSaid : Prop := fnRecordsAboveRow.holds Try.pinned (OpenSpec.ofChange fnRecordsAboveSpec)

/-- ITS FALSE NEIGHBOUR: 'it returns false'. Refute it at one input. -/
def fnRecordsAboveWrong : ChangeSpec := { name := "fnRecordsAbove", fn := fun _ => fun
  | [d] => { results := [.lit (.bool false)], args := [d] }
  | _ => none }
def FnRecordsAboveWrongFalsely : Prop := fnRecordsAboveRow.holds Try.pinned (OpenSpec.ofChange fnRecordsAboveWrong)

/-- 'laws.FnExactRecordsAbove': WHATEVER THE INPUT: true; the input reads as it did. -/
def fnExactRecordsAboveSpec : ChangeSpec := { name := "fnExactRecordsAbove", fn := fun _ => fun
  | [d] => { results := [.lit (.bool true)], args := [d] }
  | _ => none }
def fnExactRecordsAboveRow : OpenClaim := { program := "ytejofckfnieolaa", sum := "394437c8f13b9fd6b2c81d835949d6f4be9e447db97a27753b89af64bfeedd08", func := "loop.example/roundturns/laws.FnExactRecordsAbove", spec := "fnExactRecordsAbove", unfollowed := true, recurses := true, apart := false }
def FnExactRecordsAboveSaid : Prop := fnExactRecordsAboveRow.holds Try.pinned (OpenSpec.ofChange fnExactRecordsAboveSpec)

/-- ITS FALSE NEIGHBOUR: 'it returns false'. Refute it at one input. -/
def fnExactRecordsAboveWrong : ChangeSpec := { name := "fnExactRecordsAbove", fn := fun _ => fun
  | [d] => { results := [.lit (.bool false)], args := [d] }
  | _ => none }
def FnExactRecordsAboveWrongFalsely : Prop := fnExactRecordsAboveRow.holds Try.pinned (OpenSpec.ofChange fnExactRecordsAboveWrong)

/-- 'laws.FnRecordsBelow': WHATEVER THE INPUT: true; the input reads as it did. -/
def fnRecordsBelowSpec : ChangeSpec := { name := "fnRecordsBelow", fn := fun _ => fun
  | [d] => { results := [.lit (.bool true)], args := [d] }
  | _ => none }
def fnRecordsBelowRow : OpenClaim := { program := "ytejofckfnieolaa", sum := "394437c8f13b9fd6b2c81d835949d6f4be9e447db97a27753b89af64bfeedd08", func := "loop.example/roundturns/laws.FnRecordsBelow", spec := "fnRecordsBelow", unfollowed := true, recurses := true, apart := false }
def FnRecordsBelowSaid : Prop := fnRecordsBelowRow.holds Try.pinned (OpenSpec.ofChange fnRecordsBelowSpec)

/-- ITS FALSE NEIGHBOUR: 'it returns false'. Refute it at one input. -/
def fnRecordsBelowWrong : ChangeSpec := { name := "fnRecordsBelow", fn := fun _ => fun
  | [d] => { results := [.lit (.bool false)], args := [d] }
  | _ => none }
def FnRecordsBelowWrongFalsely : Prop := fnRecordsBelowRow.holds Try.pinned (OpenSpec.ofChange fnRecordsBelowWrong)

/-- 'laws.FnExactRecordsBelow': WHATEVER THE INPUT: true; the input reads as it did. -/
def fnExactRecordsBelowSpec : ChangeSpec := { name := "fnExactRecordsBelow", fn := fun _ => fun
  | [d] => { results := [.lit (.bool true)], args := [d] }
  | _ => none }
def fnExactRecordsBelowRow : OpenClaim := { program := "ytejofckfnieolaa", sum := "394437c8f13b9fd6b2c81d835949d6f4be9e447db97a27753b89af64bfeedd08", func := "loop.example/roundturns/laws.FnExactRecordsBelow", spec := "fnExactRecordsBelow", unfollowed := true, recurses := true, apart := false }
def FnExactRecordsBelowSaid : Prop := fnExactRecordsBelowRow.holds Try.pinned (OpenSpec.ofChange fnExactRecordsBelowSpec)

/-- ITS FALSE NEIGHBOUR: 'it returns false'. Refute it at one input. -/
def fnExactRecordsBelowWrong : ChangeSpec := { name := "fnExactRecordsBelow", fn := fun _ => fun
  | [d] => { results := [.lit (.bool false)], args := [d] }
  | _ => none }
def FnExactRecordsBelowWrongFalsely : Prop := fnExactRecordsBelowRow.holds Try.pinned (OpenSpec.ofChange fnExactRecordsBelowWrong)

/-- 'laws.FnNearRule': WHATEVER THE INPUT: true; the input reads as it did. -/
def fnNearRuleSpec : ChangeSpec := { name := "fnNearRule", fn := fun _ => fun
  | [d] => { results := [.lit (.bool true)], args := [d] }
  | _ => none }
def fnNearRuleRow : OpenClaim := { program := "ytejofckfnieolaa", sum := "394437c8f13b9fd6b2c81d835949d6f4be9e447db97a27753b89af64bfeedd08", func := "loop.example/roundturns/laws.FnNearRule", spec := "fnNearRule", unfollowed := true, recurses := true, apart := false }
def FnNearRuleSaid : Prop := fnNearRuleRow.holds Try.pinned (OpenSpec.ofChange fnNearRuleSpec)

/-- ITS FALSE NEIGHBOUR: 'it returns false'. Refute it at one input. -/
def fnNearRuleWrong : ChangeSpec := { name := "fnNearRule", fn := fun _ => fun
  | [d] => { results := [.lit (.bool false)], args := [d] }
  | _ => none }
def FnNearRuleWrongFalsely : Prop := fnNearRuleRow.holds Try.pinned (OpenSpec.ofChange fnNearRuleWrong)

/-- 'laws.FnNearTimes': WHATEVER THE INPUT: true; the input reads as it did. -/
def fnNearTimesSpec : ChangeSpec := { name := "fnNearTimes", fn := fun _ => fun
  | [d] => { results := [.lit (.bool true)], args := [d] }
  | _ => none }
def fnNearTimesRow : OpenClaim := { program := "ytejofckfnieolaa", sum := "394437c8f13b9fd6b2c81d835949d6f4be9e447db97a27753b89af64bfeedd08", func := "loop.example/roundturns/laws.FnNearTimes", spec := "fnNearTimes", unfollowed := true, recurses := true, apart := false }
def FnNearTimesSaid : Prop := fnNearTimesRow.holds Try.pinned (OpenSpec.ofChange fnNearTimesSpec)

/-- ITS FALSE NEIGHBOUR: 'it returns false'. Refute it at one input. -/
def fnNearTimesWrong : ChangeSpec := { name := "fnNearTimes", fn := fun _ => fun
  | [d] => { results := [.lit (.bool false)], args := [d] }
  | _ => none }
def FnNearTimesWrongFalsely : Prop := fnNearTimesRow.holds Try.pinned (OpenSpec.ofChange fnNearTimesWrong)

/-- 'laws.FnBestNear': WHATEVER THE INPUT: true; the input reads as it did. -/
def fnBestNearSpec : ChangeSpec := { name := "fnBestNear", fn := fun _ => fun
  | [d] => { results := [.lit (.bool true)], args := [d] }
  | _ => none }
def fnBestNearRow : OpenClaim := { program := "ytejofckfnieolaa", sum := "394437c8f13b9fd6b2c81d835949d6f4be9e447db97a27753b89af64bfeedd08", func := "loop.example/roundturns/laws.FnBestNear", spec := "fnBestNear", apart := false }
def FnBestNearSaid : Prop := fnBestNearRow.holds Try.pinned (OpenSpec.ofChange fnBestNearSpec)

/-- ITS FALSE NEIGHBOUR: 'it returns false'. Refute it at one input. -/
def fnBestNearWrong : ChangeSpec := { name := "fnBestNear", fn := fun _ => fun
  | [d] => { results := [.lit (.bool false)], args := [d] }
  | _ => none }
def FnBestNearWrongFalsely : Prop := fnBestNearRow.holds Try.pinned (OpenSpec.ofChange fnBestNearWrong)

/-- 'laws.FnTurnOfCode': WHATEVER THE INPUT: true; the input reads as it did. -/
def fnTurnOfCodeSpec : ChangeSpec := { name := "fnTurnOfCode", fn := fun _ => fun
  | [d] => { results := [.lit (.bool true)], args := [d] }
  | _ => none }
def fnTurnOfCodeRow : OpenClaim := { program := "ytejofckfnieolaa", sum := "394437c8f13b9fd6b2c81d835949d6f4be9e447db97a27753b89af64bfeedd08", func := "loop.example/roundturns/laws.FnTurnOfCode", spec := "fnTurnOfCode", inPlace := ["internal/bytealg.CountString", "internal/bytealg.IndexByteString", "internal/bytealg.IndexString"], named := ["internal/bytealg.MaxLen"], apart := false }
def FnTurnOfCodeSaid : Prop := fnTurnOfCodeRow.holds Try.pinned (OpenSpec.ofChange fnTurnOfCodeSpec)

/-- ITS FALSE NEIGHBOUR: 'it returns false'. Refute it at one input. -/
def fnTurnOfCodeWrong : ChangeSpec := { name := "fnTurnOfCode", fn := fun _ => fun
  | [d] => { results := [.lit (.bool false)], args := [d] }
  | _ => none }
def FnTurnOfCodeWrongFalsely : Prop := fnTurnOfCodeRow.holds Try.pinned (OpenSpec.ofChange fnTurnOfCodeWrong)

/-- 'laws.FnExactTurnOfCode': WHATEVER THE INPUT: true; the input reads as it did. -/
def fnExactTurnOfCodeSpec : ChangeSpec := { name := "fnExactTurnOfCode", fn := fun _ => fun
  | [d] => { results := [.lit (.bool true)], args := [d] }
  | _ => none }
def fnExactTurnOfCodeRow : OpenClaim := { program := "ytejofckfnieolaa", sum := "394437c8f13b9fd6b2c81d835949d6f4be9e447db97a27753b89af64bfeedd08", func := "loop.example/roundturns/laws.FnExactTurnOfCode", spec := "fnExactTurnOfCode", inPlace := ["internal/bytealg.CountString", "internal/bytealg.IndexByteString", "internal/bytealg.IndexString"], named := ["internal/bytealg.MaxLen"], apart := false }
def FnExactTurnOfCodeSaid : Prop := fnExactTurnOfCodeRow.holds Try.pinned (OpenSpec.ofChange fnExactTurnOfCodeSpec)

/-- ITS FALSE NEIGHBOUR: 'it returns false'. Refute it at one input. -/
def fnExactTurnOfCodeWrong : ChangeSpec := { name := "fnExactTurnOfCode", fn := fun _ => fun
  | [d] => { results := [.lit (.bool false)], args := [d] }
  | _ => none }
def FnExactTurnOfCodeWrongFalsely : Prop := fnExactTurnOfCodeRow.holds Try.pinned (OpenSpec.ofChange fnExactTurnOfCodeWrong)

/- THE SECOND FORM. 'bulk': how many values and letters a reading holds, each counted each time it is reached (what is shared counts as often as it is met; a slice's spare places count too). A statement '..UptoSaid' is the law's where the arguments, and the package variables that the reading takes, are together of bulk at most 1048576: NARROWER than '..Said'. Prove '..Said' where nothing that the law and all that it calls make is longer than what came in: it says more and counts as full. Else prove '..UptoSaid'. A law counts once. -/
mutual
def uptoBulk {H : Type} : DataW H → Nat
  | .lit (.string bytes) => bytes.length + 1
  | .lit _ => 1
  | .nil => 1
  | .ptr d => uptoBulk d + 1
  | .slice elems spare => uptoBulkAll elems + uptoBulkAll spare + 1
  | .agg parts => uptoBulkAll parts + 1
  | .iface _ d => uptoBulk d + 1
  | .map entries => uptoBulkEntries entries + 1
  | .held _ => 1
def uptoBulkAll {H : Type} : List (DataW H) → Nat
  | [] => 0
  | d :: r => uptoBulk d + uptoBulkAll r
def uptoBulkEntries {H : Type} : List (Lit × DataW H) → Nat
  | [] => 0
  | x :: r => uptoBulkEntry x + uptoBulkEntries r
def uptoBulkEntry {H : Type} : Lit × DataW H → Nat
  | (.string bytes, d) => bytes.length + uptoBulk d + 1
  | (_, d) => uptoBulk d + 1
 end
def uptoSmall : (H : Type) → List (DataW H) → Bool := fun _ ds => decide (uptoBulkAll ds ≤ 1048576)
def OpenSpec.upto (s : _root_.Go.ChangeSpec) : _root_.Go.OpenSpec := { _root_.Go.OpenSpec.ofChange s with cond := some uptoSmall }

/-- 'laws.FnRecordsAbove', WHERE WHAT IT READS IS OF BULK AT MOST 1048576: true; the input reads as it did. -/
def fnRecordsAboveUptoRow : OpenClaim := { program := "ytejofckfnieolaa", sum := "394437c8f13b9fd6b2c81d835949d6f4be9e447db97a27753b89af64bfeedd08", func := "loop.example/roundturns/laws.FnRecordsAbove", spec := "fnRecordsAbove", unfollowed := true, recurses := true, apart := false, narrowed := true }
def FnRecordsAboveUptoSaid : Prop := fnRecordsAboveUptoRow.holds Try.pinned (OpenSpec.upto fnRecordsAboveSpec)

/-- 'laws.FnExactRecordsAbove', WHERE WHAT IT READS IS OF BULK AT MOST 1048576: true; the input reads as it did. -/
def fnExactRecordsAboveUptoRow : OpenClaim := { program := "ytejofckfnieolaa", sum := "394437c8f13b9fd6b2c81d835949d6f4be9e447db97a27753b89af64bfeedd08", func := "loop.example/roundturns/laws.FnExactRecordsAbove", spec := "fnExactRecordsAbove", unfollowed := true, recurses := true, apart := false, narrowed := true }
def FnExactRecordsAboveUptoSaid : Prop := fnExactRecordsAboveUptoRow.holds Try.pinned (OpenSpec.upto fnExactRecordsAboveSpec)

/-- 'laws.FnRecordsBelow', WHERE WHAT IT READS IS OF BULK AT MOST 1048576: true; the input reads as it did. -/
def fnRecordsBelowUptoRow : OpenClaim := { program := "ytejofckfnieolaa", sum := "394437c8f13b9fd6b2c81d835949d6f4be9e447db97a27753b89af64bfeedd08", func := "loop.example/roundturns/laws.FnRecordsBelow", spec := "fnRecordsBelow", unfollowed := true, recurses := true, apart := false, narrowed := true }
def FnRecordsBelowUptoSaid : Prop := fnRecordsBelowUptoRow.holds Try.pinned (OpenSpec.upto fnRecordsBelowSpec)

/-- 'laws.FnExactRecordsBelow', WHERE WHAT IT READS IS OF BULK AT MOST 1048576: true; the input reads as it did. -/
def fnExactRecordsBelowUptoRow : OpenClaim := { program := "ytejofckfnieolaa", sum := "394437c8f13b9fd6b2c81d835949d6f4be9e447db97a27753b89af64bfeedd08", func := "loop.example/roundturns/laws.FnExactRecordsBelow", spec := "fnExactRecordsBelow", unfollowed := true, recurses := true, apart := false, narrowed := true }
def FnExactRecordsBelowUptoSaid : Prop := fnExactRecordsBelowUptoRow.holds Try.pinned (OpenSpec.upto fnExactRecordsBelowSpec)

/-- 'laws.FnNearRule', WHERE WHAT IT READS IS OF BULK AT MOST 1048576: true; the input reads as it did. -/
def fnNearRuleUptoRow : OpenClaim := { program := "ytejofckfnieolaa", sum := "394437c8f13b9fd6b2c81d835949d6f4be9e447db97a27753b89af64bfeedd08", func := "loop.example/roundturns/laws.FnNearRule", spec := "fnNearRule", unfollowed := true, recurses := true, apart := false, narrowed := true }
def FnNearRuleUptoSaid : Prop := fnNearRuleUptoRow.holds Try.pinned (OpenSpec.upto fnNearRuleSpec)

/-- 'laws.FnNearTimes', WHERE WHAT IT READS IS OF BULK AT MOST 1048576: true; the input reads as it did. -/
def fnNearTimesUptoRow : OpenClaim := { program := "ytejofckfnieolaa", sum := "394437c8f13b9fd6b2c81d835949d6f4be9e447db97a27753b89af64bfeedd08", func := "loop.example/roundturns/laws.FnNearTimes", spec := "fnNearTimes", unfollowed := true, recurses := true, apart := false, narrowed := true }
def FnNearTimesUptoSaid : Prop := fnNearTimesUptoRow.holds Try.pinned (OpenSpec.upto fnNearTimesSpec)

/-- 'laws.FnBestNear', WHERE WHAT IT READS IS OF BULK AT MOST 1048576: true; the input reads as it did. -/
def fnBestNearUptoRow : OpenClaim := { program := "ytejofckfnieolaa", sum := "394437c8f13b9fd6b2c81d835949d6f4be9e447db97a27753b89af64bfeedd08", func := "loop.example/roundturns/laws.FnBestNear", spec := "fnBestNear", apart := false, narrowed := true }
def FnBestNearUptoSaid : Prop := fnBestNearUptoRow.holds Try.pinned (OpenSpec.upto fnBestNearSpec)

/-- 'laws.FnTurnOfCode', WHERE WHAT IT READS IS OF BULK AT MOST 1048576: true; the input reads as it did. -/
def fnTurnOfCodeUptoRow : OpenClaim := { program := "ytejofckfnieolaa", sum := "394437c8f13b9fd6b2c81d835949d6f4be9e447db97a27753b89af64bfeedd08", func := "loop.example/roundturns/laws.FnTurnOfCode", spec := "fnTurnOfCode", inPlace := ["internal/bytealg.CountString", "internal/bytealg.IndexByteString", "internal/bytealg.IndexString"], named := ["internal/bytealg.MaxLen"], apart := false, narrowed := true }
def FnTurnOfCodeUptoSaid : Prop := fnTurnOfCodeUptoRow.holds Try.pinned (OpenSpec.upto fnTurnOfCodeSpec)

/-- 'laws.FnExactTurnOfCode', WHERE WHAT IT READS IS OF BULK AT MOST 1048576: true; the input reads as it did. -/
def fnExactTurnOfCodeUptoRow : OpenClaim := { program := "ytejofckfnieolaa", sum := "394437c8f13b9fd6b2c81d835949d6f4be9e447db97a27753b89af64bfeedd08", func := "loop.example/roundturns/laws.FnExactTurnOfCode", spec := "fnExactTurnOfCode", inPlace := ["internal/bytealg.CountString", "internal/bytealg.IndexByteString", "internal/bytealg.IndexString"], named := ["internal/bytealg.MaxLen"], apart := false, narrowed := true }
def FnExactTurnOfCodeUptoSaid : Prop := fnExactTurnOfCodeUptoRow.holds Try.pinned (OpenSpec.upto fnExactTurnOfCodeSpec)

end Rows
end Go.Proofs.Ytejofckfnieolaa
