/-
  No cell of these rows narrows 'for every input' (looked for: loops, veiled, ifaces, maps, wideKeys, modest, calm, conditions, laid).
  DERIVED. THE GIVEN ROWS OF THIS SEAT. 13 by the template 'for every input the law returns true; each argument reads behind the call as it read before'; 0 by the template 'total and deterministic' (their statements: YtppahekbgbbidabTotals.lean).
  GIVEN WITH THE SEED: the statements are not yours to turn. If you find one false, say at which input.
  Laid BY PROGRAM, IN A SANDBOX (cutbox-rows.mjs): the forced cells as the released guide's own fill.sh prints them over the translation 60295985fbb56edf… (all of the seat's roots in one cut). By AI agents, Wed Nov 11 2026. No macro, syntax, notation, axiom, sorry.
-/
import Derived.Test.YtppahekbgbbidabChecked
import GoSem.Claim
import GoSem.ClaimJoined
import GoSem.ClaimMapViews
import Derived.JoinedTies
import Derived.KernelRfl
namespace Go.Proofs.Ytppahekbgbbidab
/- THE CELL 'sum', in the pinned program and in every row, IS THE sha256 OF THE DUMP (.gsa) THAT YtppahekbgbbidabProg.lean LOADS. Nothing in Lean hashes anything: it is a label: what it is worth is what the hold of that sum in a sandbox is worth. -/
noncomputable def Try.pinned : Pinned := { name := "ytppahekbgbbidab", sum := "60295985fbb56edf42e4b56ded3552c3df6d32d92cea76f7e338b5ffba62313e", checked := Try.checked }
namespace Rows
def none {H : Type} : Left H := { results := [], args := [] }

/-- 'laws.FnBestNear': WHATEVER THE INPUT: true; the input reads as it did. -/
def fnBestNearSpec : ChangeSpec := { name := "fnBestNear", fn := fun _ => fun
  | [d] => { results := [.lit (.bool true)], args := [d] }
  | _ => none }
def fnBestNearRow : OpenClaim := { program := "ytppahekbgbbidab", sum := "60295985fbb56edf42e4b56ded3552c3df6d32d92cea76f7e338b5ffba62313e", func := "loop.example/roundturns/laws.FnBestNear", spec := "fnBestNear", apart := false }
def FnBestNearSaid : Prop := fnBestNearRow.holds Try.pinned (OpenSpec.ofChange fnBestNearSpec)

/-- ITS FALSE NEIGHBOUR: 'it returns false'. Refute it at one input. -/
def fnBestNearWrong : ChangeSpec := { name := "fnBestNear", fn := fun _ => fun
  | [d] => { results := [.lit (.bool false)], args := [d] }
  | _ => none }
def FnBestNearWrongFalsely : Prop := fnBestNearRow.holds Try.pinned (OpenSpec.ofChange fnBestNearWrong)

/-- 'laws.FnNearRule': WHATEVER THE INPUT: true; the input reads as it did. -/
def fnNearRuleSpec : ChangeSpec := { name := "fnNearRule", fn := fun _ => fun
  | [d] => { results := [.lit (.bool true)], args := [d] }
  | _ => none }
def fnNearRuleRow : OpenClaim := { program := "ytppahekbgbbidab", sum := "60295985fbb56edf42e4b56ded3552c3df6d32d92cea76f7e338b5ffba62313e", func := "loop.example/roundturns/laws.FnNearRule", spec := "fnNearRule", unfollowed := true, recurses := true, apart := false }
def FnNearRuleSaid : Prop := fnNearRuleRow.holds Try.pinned (OpenSpec.ofChange fnNearRuleSpec)

/-- ITS FALSE NEIGHBOUR: 'it returns false'. Refute it at one input. -/
def fnNearRuleWrong : ChangeSpec := { name := "fnNearRule", fn := fun _ => fun
  | [d] => { results := [.lit (.bool false)], args := [d] }
  | _ => none }
def FnNearRuleWrongFalsely : Prop := fnNearRuleRow.holds Try.pinned (OpenSpec.ofChange fnNearRuleWrong)

/-- 'laws.FnNearTimes': WHATEVER THE INPUT: true; the input reads as it did. -/
def fnNearTimesSpec : ChangeSpec := { name := "fnNearTimes", fn := fun _ => fun
  | [d] => { results := [.lit (.bool true)], args := [d] }
  | _ => none }
def fnNearTimesRow : OpenClaim := { program := "ytppahekbgbbidab", sum := "60295985fbb56edf42e4b56ded3552c3df6d32d92cea76f7e338b5ffba62313e", func := "loop.example/roundturns/laws.FnNearTimes", spec := "fnNearTimes", unfollowed := true, recurses := true, apart := false }
def FnNearTimesSaid : Prop := fnNearTimesRow.holds Try.pinned (OpenSpec.ofChange fnNearTimesSpec)

/-- ITS FALSE NEIGHBOUR: 'it returns false'. Refute it at one input. -/
def fnNearTimesWrong : ChangeSpec := { name := "fnNearTimes", fn := fun _ => fun
  | [d] => { results := [.lit (.bool false)], args := [d] }
  | _ => none }
def FnNearTimesWrongFalsely : Prop := fnNearTimesRow.holds Try.pinned (OpenSpec.ofChange fnNearTimesWrong)

/-- 'laws.FnRecordsAbove': WHATEVER THE INPUT: true; the input reads as it did. -/
def fnRecordsAboveSpec : ChangeSpec := { name := "fnRecordsAbove", fn := fun _ => fun
  | [d] => { results := [.lit (.bool true)], args := [d] }
  | _ => none }
def fnRecordsAboveRow : OpenClaim := { program := "ytppahekbgbbidab", sum := "60295985fbb56edf42e4b56ded3552c3df6d32d92cea76f7e338b5ffba62313e", func := "loop.example/roundturns/laws.FnRecordsAbove", spec := "fnRecordsAbove", unfollowed := true, recurses := true, apart := false }
def FnRecordsAboveSaid : Prop := fnRecordsAboveRow.holds Try.pinned (OpenSpec.ofChange fnRecordsAboveSpec)

/-- ITS FALSE NEIGHBOUR: 'it returns false'. Refute it at one input. -/
def fnRecordsAboveWrong : ChangeSpec := { name := "fnRecordsAbove", fn := fun _ => fun
  | [d] => { results := [.lit (.bool false)], args := [d] }
  | _ => none }
def FnRecordsAboveWrongFalsely : Prop := fnRecordsAboveRow.holds Try.pinned (OpenSpec.ofChange fnRecordsAboveWrong)

/-- 'laws.FnOrderOf': WHATEVER THE INPUT: true; the input reads as it did. -/
def fnOrderOfSpec : ChangeSpec := { name := "fnOrderOf", fn := fun _ => fun
  | [d] => { results := [.lit (.bool true)], args := [d] }
  | _ => none }
def fnOrderOfRow : OpenClaim := { program := "ytppahekbgbbidab", sum := "60295985fbb56edf42e4b56ded3552c3df6d32d92cea76f7e338b5ffba62313e", func := "loop.example/roundturns/laws.FnOrderOf", spec := "fnOrderOf", unfollowed := true, recurses := true, apart := false }
def FnOrderOfSaid : Prop := fnOrderOfRow.holds Try.pinned (OpenSpec.ofChange fnOrderOfSpec)

/-- ITS FALSE NEIGHBOUR: 'it returns false'. Refute it at one input. -/
def fnOrderOfWrong : ChangeSpec := { name := "fnOrderOf", fn := fun _ => fun
  | [d] => { results := [.lit (.bool false)], args := [d] }
  | _ => none }
def FnOrderOfWrongFalsely : Prop := fnOrderOfRow.holds Try.pinned (OpenSpec.ofChange fnOrderOfWrong)

/-- 'laws.FnPlaceIn': WHATEVER THE INPUT: true; the input reads as it did. -/
def fnPlaceInSpec : ChangeSpec := { name := "fnPlaceIn", fn := fun _ => fun
  | [d] => { results := [.lit (.bool true)], args := [d] }
  | _ => none }
def fnPlaceInRow : OpenClaim := { program := "ytppahekbgbbidab", sum := "60295985fbb56edf42e4b56ded3552c3df6d32d92cea76f7e338b5ffba62313e", func := "loop.example/roundturns/laws.FnPlaceIn", spec := "fnPlaceIn", apart := false }
def FnPlaceInSaid : Prop := fnPlaceInRow.holds Try.pinned (OpenSpec.ofChange fnPlaceInSpec)

/-- ITS FALSE NEIGHBOUR: 'it returns false'. Refute it at one input. -/
def fnPlaceInWrong : ChangeSpec := { name := "fnPlaceIn", fn := fun _ => fun
  | [d] => { results := [.lit (.bool false)], args := [d] }
  | _ => none }
def FnPlaceInWrongFalsely : Prop := fnPlaceInRow.holds Try.pinned (OpenSpec.ofChange fnPlaceInWrong)

/-- 'laws.FnExactCodeOf': WHATEVER THE INPUT: true; the input reads as it did. -/
def fnExactCodeOfSpec : ChangeSpec := { name := "fnExactCodeOf", fn := fun _ => fun
  | [d1, d2, d3] => { results := [.lit (.bool true)], args := [d1, d2, d3] }
  | _ => none }
def fnExactCodeOfRow : OpenClaim := { program := "ytppahekbgbbidab", sum := "60295985fbb56edf42e4b56ded3552c3df6d32d92cea76f7e338b5ffba62313e", func := "loop.example/roundturns/laws.FnExactCodeOf", spec := "fnExactCodeOf", apart := false }
def FnExactCodeOfSaid : Prop := fnExactCodeOfRow.holds Try.pinned (OpenSpec.ofChange fnExactCodeOfSpec)

/-- ITS FALSE NEIGHBOUR: 'it returns false'. Refute it at one input. -/
def fnExactCodeOfWrong : ChangeSpec := { name := "fnExactCodeOf", fn := fun _ => fun
  | [d1, d2, d3] => { results := [.lit (.bool false)], args := [d1, d2, d3] }
  | _ => none }
def FnExactCodeOfWrongFalsely : Prop := fnExactCodeOfRow.holds Try.pinned (OpenSpec.ofChange fnExactCodeOfWrong)

/-- 'laws.FnExactOnesUpTo': WHATEVER THE INPUT: true; the input reads as it did. -/
def fnExactOnesUpToSpec : ChangeSpec := { name := "fnExactOnesUpTo", fn := fun _ => fun
  | [d1, d2] => { results := [.lit (.bool true)], args := [d1, d2] }
  | _ => none }
def fnExactOnesUpToRow : OpenClaim := { program := "ytppahekbgbbidab", sum := "60295985fbb56edf42e4b56ded3552c3df6d32d92cea76f7e338b5ffba62313e", func := "loop.example/roundturns/laws.FnExactOnesUpTo", spec := "fnExactOnesUpTo", inPlace := ["internal/bytealg.CountString", "internal/bytealg.IndexByteString", "internal/bytealg.IndexString"], named := ["internal/bytealg.MaxLen"], apart := false }
def FnExactOnesUpToSaid : Prop := fnExactOnesUpToRow.holds Try.pinned (OpenSpec.ofChange fnExactOnesUpToSpec)

/-- ITS FALSE NEIGHBOUR: 'it returns false'. Refute it at one input. -/
def fnExactOnesUpToWrong : ChangeSpec := { name := "fnExactOnesUpTo", fn := fun _ => fun
  | [d1, d2] => { results := [.lit (.bool false)], args := [d1, d2] }
  | _ => none }
def FnExactOnesUpToWrongFalsely : Prop := fnExactOnesUpToRow.holds Try.pinned (OpenSpec.ofChange fnExactOnesUpToWrong)

/-- 'laws.FnExactPartsOf': WHATEVER THE INPUT: true; the input reads as it did. -/
def fnExactPartsOfSpec : ChangeSpec := { name := "fnExactPartsOf", fn := fun _ => fun
  | [d1, d2] => { results := [.lit (.bool true)], args := [d1, d2] }
  | _ => none }
def fnExactPartsOfRow : OpenClaim := { program := "ytppahekbgbbidab", sum := "60295985fbb56edf42e4b56ded3552c3df6d32d92cea76f7e338b5ffba62313e", func := "loop.example/roundturns/laws.FnExactPartsOf", spec := "fnExactPartsOf", apart := false }
def FnExactPartsOfSaid : Prop := fnExactPartsOfRow.holds Try.pinned (OpenSpec.ofChange fnExactPartsOfSpec)

/-- ITS FALSE NEIGHBOUR: 'it returns false'. Refute it at one input. -/
def fnExactPartsOfWrong : ChangeSpec := { name := "fnExactPartsOf", fn := fun _ => fun
  | [d1, d2] => { results := [.lit (.bool false)], args := [d1, d2] }
  | _ => none }
def FnExactPartsOfWrongFalsely : Prop := fnExactPartsOfRow.holds Try.pinned (OpenSpec.ofChange fnExactPartsOfWrong)

/-- 'laws.FnExactTurnOfCode': WHATEVER THE INPUT: true; the input reads as it did. -/
def fnExactTurnOfCodeSpec : ChangeSpec := { name := "fnExactTurnOfCode", fn := fun _ => fun
  | [d] => { results := [.lit (.bool true)], args := [d] }
  | _ => none }
def fnExactTurnOfCodeRow : OpenClaim := { program := "ytppahekbgbbidab", sum := "60295985fbb56edf42e4b56ded3552c3df6d32d92cea76f7e338b5ffba62313e", func := "loop.example/roundturns/laws.FnExactTurnOfCode", spec := "fnExactTurnOfCode", inPlace := ["internal/bytealg.CountString", "internal/bytealg.IndexByteString", "internal/bytealg.IndexString"], named := ["internal/bytealg.MaxLen"], apart := false }
def FnExactTurnOfCodeSaid : Prop := fnExactTurnOfCodeRow.holds Try.pinned (OpenSpec.ofChange fnExactTurnOfCodeSpec)

/-- ITS FALSE NEIGHBOUR: 'it returns false'. Refute it at one input. -/
def fnExactTurnOfCodeWrong : ChangeSpec := { name := "fnExactTurnOfCode", fn := fun _ => fun
  | [d] => { results := [.lit (.bool false)], args := [d] }
  | _ => none }
def FnExactTurnOfCodeWrongFalsely : Prop := fnExactTurnOfCodeRow.holds Try.pinned (OpenSpec.ofChange fnExactTurnOfCodeWrong)

/-- 'laws.FnOnesUpTo': WHATEVER THE INPUT: true; the input reads as it did. -/
def fnOnesUpToSpec : ChangeSpec := { name := "fnOnesUpTo", fn := fun _ => fun
  | [d] => { results := [.lit (.bool true)], args := [d] }
  | _ => none }
def fnOnesUpToRow : OpenClaim := { program := "ytppahekbgbbidab", sum := "60295985fbb56edf42e4b56ded3552c3df6d32d92cea76f7e338b5ffba62313e", func := "loop.example/roundturns/laws.FnOnesUpTo", spec := "fnOnesUpTo", inPlace := ["internal/bytealg.CountString", "internal/bytealg.IndexByteString", "internal/bytealg.IndexString"], named := ["internal/bytealg.MaxLen"], apart := false }
def FnOnesUpToSaid : Prop := fnOnesUpToRow.holds Try.pinned (OpenSpec.ofChange fnOnesUpToSpec)

/-- ITS FALSE NEIGHBOUR: 'it returns false'. Refute it at one input. -/
def fnOnesUpToWrong : ChangeSpec := { name := "fnOnesUpTo", fn := fun _ => fun
  | [d] => { results := [.lit (.bool false)], args := [d] }
  | _ => none }
def FnOnesUpToWrongFalsely : Prop := fnOnesUpToRow.holds Try.pinned (OpenSpec.ofChange fnOnesUpToWrong)

/-- 'laws.FnPartsOf': WHATEVER THE INPUT: true; the input reads as it did. -/
def fnPartsOfSpec : ChangeSpec := { name := "fnPartsOf", fn := fun _ => fun
  | [d] => { results := [.lit (.bool true)], args := [d] }
  | _ => none }
def fnPartsOfRow : OpenClaim := { program := "ytppahekbgbbidab", sum := "60295985fbb56edf42e4b56ded3552c3df6d32d92cea76f7e338b5ffba62313e", func := "loop.example/roundturns/laws.FnPartsOf", spec := "fnPartsOf", apart := false }
def FnPartsOfSaid : Prop := fnPartsOfRow.holds Try.pinned (OpenSpec.ofChange fnPartsOfSpec)

/-- ITS FALSE NEIGHBOUR: 'it returns false'. Refute it at one input. -/
def fnPartsOfWrong : ChangeSpec := { name := "fnPartsOf", fn := fun _ => fun
  | [d] => { results := [.lit (.bool false)], args := [d] }
  | _ => none }
def FnPartsOfWrongFalsely : Prop := fnPartsOfRow.holds Try.pinned (OpenSpec.ofChange fnPartsOfWrong)

/-- 'laws.FnTurnOfCode': WHATEVER THE INPUT: true; the input reads as it did. -/
def fnTurnOfCodeSpec : ChangeSpec := { name := "fnTurnOfCode", fn := fun _ => fun
  | [d] => { results := [.lit (.bool true)], args := [d] }
  | _ => none }
def fnTurnOfCodeRow : OpenClaim := { program := "ytppahekbgbbidab", sum := "60295985fbb56edf42e4b56ded3552c3df6d32d92cea76f7e338b5ffba62313e", func := "loop.example/roundturns/laws.FnTurnOfCode", spec := "fnTurnOfCode", inPlace := ["internal/bytealg.CountString", "internal/bytealg.IndexByteString", "internal/bytealg.IndexString"], named := ["internal/bytealg.MaxLen"], apart := false }
def FnTurnOfCodeSaid : Prop := fnTurnOfCodeRow.holds Try.pinned (OpenSpec.ofChange fnTurnOfCodeSpec)

/-- ITS FALSE NEIGHBOUR: 'it returns false'. Refute it at one input. -/
def fnTurnOfCodeWrong : ChangeSpec := { name := "fnTurnOfCode", fn := fun _ => fun
  | [d] => { results := [.lit (.bool false)], args := [d] }
  | _ => none }
def FnTurnOfCodeWrongFalsely : Prop := fnTurnOfCodeRow.holds Try.pinned (OpenSpec.ofChange fnTurnOfCodeWrong)

/- THE SECOND FORM. 'bulk': how many values and letters a reading holds, each counted each time it is reached (what is shared counts as often as it is met; a slice's spare places count too). A statement '..UptoSaid' is the law's where the arguments, and the package variables that the reading takes, are together of bulk at most 1048576: NARROWER than '..Said'. Prove '..Said' where nothing that the law and all that it calls make is longer than what came in: it says more and counts as full. Else prove '..UptoSaid'. A law counts once. -/
mutual
def uptoBulk {H : Type} : DataW H → Nat
  | .lit (.string bytes) => bytes.length + 1
  | .lit _ => 1
  | .nil => 1
  | .ptr d => uptoBulk d + 1
  | .slice elems spare => uptoBulkAll elems + uptoBulkAll spare + 1
  | .agg parts => uptoBulkAll parts + 1
  | .iface _ d => uptoBulk d + 1
  | .map entries => uptoBulkEntries entries + 1
  | .held _ => 1
def uptoBulkAll {H : Type} : List (DataW H) → Nat
  | [] => 0
  | d :: r => uptoBulk d + uptoBulkAll r
def uptoBulkEntries {H : Type} : List (Lit × DataW H) → Nat
  | [] => 0
  | x :: r => uptoBulkEntry x + uptoBulkEntries r
def uptoBulkEntry {H : Type} : Lit × DataW H → Nat
  | (.string bytes, d) => bytes.length + uptoBulk d + 1
  | (_, d) => uptoBulk d + 1
 end
def uptoSmall : (H : Type) → List (DataW H) → Bool := fun _ ds => decide (uptoBulkAll ds ≤ 1048576)
def OpenSpec.upto (s : _root_.Go.ChangeSpec) : _root_.Go.OpenSpec := { _root_.Go.OpenSpec.ofChange s with cond := some uptoSmall }

/-- 'laws.FnBestNear', WHERE WHAT IT READS IS OF BULK AT MOST 1048576: true; the input reads as it did. -/
def fnBestNearUptoRow : OpenClaim := { program := "ytppahekbgbbidab", sum := "60295985fbb56edf42e4b56ded3552c3df6d32d92cea76f7e338b5ffba62313e", func := "loop.example/roundturns/laws.FnBestNear", spec := "fnBestNear", apart := false, narrowed := true }
def FnBestNearUptoSaid : Prop := fnBestNearUptoRow.holds Try.pinned (OpenSpec.upto fnBestNearSpec)

/-- 'laws.FnNearRule', WHERE WHAT IT READS IS OF BULK AT MOST 1048576: true; the input reads as it did. -/
def fnNearRuleUptoRow : OpenClaim := { program := "ytppahekbgbbidab", sum := "60295985fbb56edf42e4b56ded3552c3df6d32d92cea76f7e338b5ffba62313e", func := "loop.example/roundturns/laws.FnNearRule", spec := "fnNearRule", unfollowed := true, recurses := true, apart := false, narrowed := true }
def FnNearRuleUptoSaid : Prop := fnNearRuleUptoRow.holds Try.pinned (OpenSpec.upto fnNearRuleSpec)

/-- 'laws.FnNearTimes', WHERE WHAT IT READS IS OF BULK AT MOST 1048576: true; the input reads as it did. -/
def fnNearTimesUptoRow : OpenClaim := { program := "ytppahekbgbbidab", sum := "60295985fbb56edf42e4b56ded3552c3df6d32d92cea76f7e338b5ffba62313e", func := "loop.example/roundturns/laws.FnNearTimes", spec := "fnNearTimes", unfollowed := true, recurses := true, apart := false, narrowed := true }
def FnNearTimesUptoSaid : Prop := fnNearTimesUptoRow.holds Try.pinned (OpenSpec.upto fnNearTimesSpec)

/-- 'laws.FnRecordsAbove', WHERE WHAT IT READS IS OF BULK AT MOST 1048576: true; the input reads as it did. -/
def fnRecordsAboveUptoRow : OpenClaim := { program := "ytppahekbgbbidab", sum := "60295985fbb56edf42e4b56ded3552c3df6d32d92cea76f7e338b5ffba62313e", func := "loop.example/roundturns/laws.FnRecordsAbove", spec := "fnRecordsAbove", unfollowed := true, recurses := true, apart := false, narrowed := true }
def FnRecordsAboveUptoSaid : Prop := fnRecordsAboveUptoRow.holds Try.pinned (OpenSpec.upto fnRecordsAboveSpec)

/-- 'laws.FnOrderOf', WHERE WHAT IT READS IS OF BULK AT MOST 1048576: true; the input reads as it did. -/
def fnOrderOfUptoRow : OpenClaim := { program := "ytppahekbgbbidab", sum := "60295985fbb56edf42e4b56ded3552c3df6d32d92cea76f7e338b5ffba62313e", func := "loop.example/roundturns/laws.FnOrderOf", spec := "fnOrderOf", unfollowed := true, recurses := true, apart := false, narrowed := true }
def FnOrderOfUptoSaid : Prop := fnOrderOfUptoRow.holds Try.pinned (OpenSpec.upto fnOrderOfSpec)

/-- 'laws.FnPlaceIn', WHERE WHAT IT READS IS OF BULK AT MOST 1048576: true; the input reads as it did. -/
def fnPlaceInUptoRow : OpenClaim := { program := "ytppahekbgbbidab", sum := "60295985fbb56edf42e4b56ded3552c3df6d32d92cea76f7e338b5ffba62313e", func := "loop.example/roundturns/laws.FnPlaceIn", spec := "fnPlaceIn", apart := false, narrowed := true }
def FnPlaceInUptoSaid : Prop := fnPlaceInUptoRow.holds Try.pinned (OpenSpec.upto fnPlaceInSpec)

/-- 'laws.FnExactCodeOf', WHERE WHAT IT READS IS OF BULK AT MOST 1048576: true; the input reads as it did. -/
def fnExactCodeOfUptoRow : OpenClaim := { program := "ytppahekbgbbidab", sum := "60295985fbb56edf42e4b56ded3552c3df6d32d92cea76f7e338b5ffba62313e", func := "loop.example/roundturns/laws.FnExactCodeOf", spec := "fnExactCodeOf", apart := false, narrowed := true }
def FnExactCodeOfUptoSaid : Prop := fnExactCodeOfUptoRow.holds Try.pinned (OpenSpec.upto fnExactCodeOfSpec)

/-- 'laws.FnExactOnesUpTo', WHERE WHAT IT READS IS OF BULK AT MOST 1048576: true; the input reads as it did. -/
def fnExactOnesUpToUptoRow : OpenClaim := { program := "ytppahekbgbbidab", sum := "60295985fbb56edf42e4b56ded3552c3df6d32d92cea76f7e338b5ffba62313e", func := "loop.example/roundturns/laws.FnExactOnesUpTo", spec := "fnExactOnesUpTo", inPlace := ["internal/bytealg.CountString", "internal/bytealg.IndexByteString", "internal/bytealg.IndexString"], named := ["internal/bytealg.MaxLen"], apart := false, narrowed := true }
def FnExactOnesUpToUptoSaid : Prop := fnExactOnesUpToUptoRow.holds Try.pinned (OpenSpec.upto fnExactOnesUpToSpec)

/-- 'laws.FnExactPartsOf', WHERE WHAT IT READS IS OF BULK AT MOST 1048576: true; the input reads as it did. -/
def fnExactPartsOfUptoRow : OpenClaim := { program := "ytppahekbgbbidab", sum := "60295985fbb56edf42e4b56ded3552c3df6d32d92cea76f7e338b5ffba62313e", func := "loop.example/roundturns/laws.FnExactPartsOf", spec := "fnExactPartsOf", apart := false, narrowed := true }
def FnExactPartsOfUptoSaid : Prop := fnExactPartsOfUptoRow.holds Try.pinned (OpenSpec.upto fnExactPartsOfSpec)

/-- 'laws.FnExactTurnOfCode', WHERE WHAT IT READS IS OF BULK AT MOST 1048576: true; the input reads as it did. -/
def fnExactTurnOfCodeUptoRow : OpenClaim := { program := "ytppahekbgbbidab", sum := "60295985fbb56edf42e4b56ded3552c3df6d32d92cea76f7e338b5ffba62313e", func := "loop.example/roundturns/laws.FnExactTurnOfCode", spec := "fnExactTurnOfCode", inPlace := ["internal/bytealg.CountString", "internal/bytealg.IndexByteString", "internal/bytealg.IndexString"], named := ["internal/bytealg.MaxLen"], apart := false, narrowed := true }
def FnExactTurnOfCodeUptoSaid : Prop := fnExactTurnOfCodeUptoRow.holds Try.pinned (OpenSpec.upto fnExactTurnOfCodeSpec)

/-- 'laws.FnOnesUpTo', WHERE WHAT IT READS IS OF BULK AT MOST 1048576: true; the input reads as it did. -/
def fnOnesUpToUptoRow : OpenClaim := { program := "ytppahekbgbbidab", sum := "60295985fbb56edf42e4b56ded3552c3df6d32d92cea76f7e338b5ffba62313e", func := "loop.example/roundturns/laws.FnOnesUpTo", spec := "fnOnesUpTo", inPlace := ["internal/bytealg.CountString", "internal/bytealg.IndexByteString", "internal/bytealg.IndexString"], named := ["internal/bytealg.MaxLen"], apart := false, narrowed := true }
def FnOnesUpToUptoSaid : Prop := fnOnesUpToUptoRow.holds Try.pinned (OpenSpec.upto fnOnesUpToSpec)

/-- 'laws.FnPartsOf', WHERE WHAT IT READS IS OF BULK AT MOST 1048576: true; the input reads as it did. -/
def fnPartsOfUptoRow : OpenClaim := { program := "ytppahekbgbbidab", sum := "60295985fbb56edf42e4b56ded3552c3df6d32d92cea76f7e338b5ffba62313e", func := "loop.example/roundturns/laws.FnPartsOf", spec := "fnPartsOf", apart := false, narrowed := true }
def FnPartsOfUptoSaid : Prop := fnPartsOfUptoRow.holds Try.pinned (OpenSpec.upto fnPartsOfSpec)

/-- 'laws.FnTurnOfCode', WHERE WHAT IT READS IS OF BULK AT MOST 1048576: true; the input reads as it did. -/
def fnTurnOfCodeUptoRow : OpenClaim := { program := "ytppahekbgbbidab", sum := "60295985fbb56edf42e4b56ded3552c3df6d32d92cea76f7e338b5ffba62313e", func := "loop.example/roundturns/laws.FnTurnOfCode", spec := "fnTurnOfCode", inPlace := ["internal/bytealg.CountString", "internal/bytealg.IndexByteString", "internal/bytealg.IndexString"], named := ["internal/bytealg.MaxLen"], apart := false, narrowed := true }
def FnTurnOfCodeUptoSaid : Prop := fnTurnOfCodeUptoRow.holds Try.pinned (OpenSpec.upto fnTurnOfCodeSpec)

end Rows
end Go.Proofs.Ytppahekbgbbidab
