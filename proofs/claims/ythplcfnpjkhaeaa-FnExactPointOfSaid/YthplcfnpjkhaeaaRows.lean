/-
  No cell of these rows narrows 'for every input' (looked for: loops, veiled, ifaces, maps, wideKeys, modest, calm, conditions, laid).
  DERIVED. THE GIVEN ROWS OF THIS SEAT. 12 by the template 'for every input the law returns true; each argument reads behind the call as it read before'; 0 by the template 'total and deterministic' (their statements: YthplcfnpjkhaeaaTotals.lean).
  GIVEN WITH THE SEED: the statements are not yours to turn. If you find one false, say at which input.
  Laid BY PROGRAM, IN A SANDBOX (cutbox-rows.mjs): the forced cells as the released guide's own fill.sh prints them over the translation daa830602780b0f5… (all of the seat's roots in one cut). By AI agents, Wed Nov 11 2026. No macro, syntax, notation, axiom, sorry.
-/
import Derived.Test.YthplcfnpjkhaeaaChecked
import GoSem.Claim
import GoSem.ClaimJoined
import GoSem.ClaimMapViews
import Derived.JoinedTies
import Derived.KernelRfl
namespace Go.Proofs.Ythplcfnpjkhaeaa
/- THE CELL 'sum', in the pinned program and in every row, IS THE sha256 OF THE DUMP (.gsa) THAT YthplcfnpjkhaeaaProg.lean LOADS. Nothing in Lean hashes anything: it is a label: what it is worth is what the hold of that sum in a sandbox is worth. -/
noncomputable def Try.pinned : Pinned := { name := "ythplcfnpjkhaeaa", sum := "daa830602780b0f56ae4d1a5d54f736e94fb3036b07f28da2d555e27833658a1", checked := Try.checked }
namespace Rows
def none {H : Type} : Left H := { results := [], args := [] }

/-- 'laws.FnPointOf': WHATEVER THE INPUT: true; the input reads as it did. -/
def fnPointOfSpec : ChangeSpec := { name := "fnPointOf", fn := fun _ => fun
  | [d] => { results := [.lit (.bool true)], args := [d] }
  | _ => none }
def fnPointOfRow : OpenClaim := { program := "ythplcfnpjkhaeaa", sum := "daa830602780b0f56ae4d1a5d54f736e94fb3036b07f28da2d555e27833658a1", func := "loop.example/roundturns/laws.FnPointOf", spec := "fnPointOf", apart := false }
def FnPointOfSaid : Prop := fnPointOfRow.holds Try.pinned (OpenSpec.ofChange fnPointOfSpec)

/-- ITS FALSE NEIGHBOUR: 'it returns false'. Refute it at one input. -/
def fnPointOfWrong : ChangeSpec := { name := "fnPointOf", fn := fun _ => fun
  | [d] => { results := [.lit (.bool false)], args := [d] }
  | _ => none }
def FnPointOfWrongFalsely : Prop := fnPointOfRow.holds Try.pinned (OpenSpec.ofChange fnPointOfWrong)

/-- 'laws.FnExactPointOf': WHATEVER THE INPUT: true; the input reads as it did. -/
def fnExactPointOfSpec : ChangeSpec := { name := "fnExactPointOf", fn := fun _ => fun
  | [d1, d2] => { results := [.lit (.bool true)], args := [d1, d2] }
  | _ => none }
def fnExactPointOfRow : OpenClaim := { program := "ythplcfnpjkhaeaa", sum := "daa830602780b0f56ae4d1a5d54f736e94fb3036b07f28da2d555e27833658a1", func := "loop.example/roundturns/laws.FnExactPointOf", spec := "fnExactPointOf", apart := false }
def FnExactPointOfSaid : Prop := fnExactPointOfRow.holds Try.pinned (OpenSpec.ofChange fnExactPointOfSpec)

/-- ITS FALSE NEIGHBOUR: 'it returns false'. Refute it at one input. -/
def fnExactPointOfWrong : ChangeSpec := { name := "fnExactPointOf", fn := fun _ => fun
  | [d1, d2] => { results := [.lit (.bool false)], args := [d1, d2] }
  | _ => none }
def FnExactPointOfWrongFalsely : Prop := fnExactPointOfRow.holds Try.pinned (OpenSpec.ofChange fnExactPointOfWrong)

/-- 'laws.FnTimeOf': WHATEVER THE INPUT: true; the input reads as it did. -/
def fnTimeOfSpec : ChangeSpec := { name := "fnTimeOf", fn := fun _ => fun
  | [d] => { results := [.lit (.bool true)], args := [d] }
  | _ => none }
def fnTimeOfRow : OpenClaim := { program := "ythplcfnpjkhaeaa", sum := "daa830602780b0f56ae4d1a5d54f736e94fb3036b07f28da2d555e27833658a1", func := "loop.example/roundturns/laws.FnTimeOf", spec := "fnTimeOf", apart := false }
def FnTimeOfSaid : Prop := fnTimeOfRow.holds Try.pinned (OpenSpec.ofChange fnTimeOfSpec)

/-- ITS FALSE NEIGHBOUR: 'it returns false'. Refute it at one input. -/
def fnTimeOfWrong : ChangeSpec := { name := "fnTimeOf", fn := fun _ => fun
  | [d] => { results := [.lit (.bool false)], args := [d] }
  | _ => none }
def FnTimeOfWrongFalsely : Prop := fnTimeOfRow.holds Try.pinned (OpenSpec.ofChange fnTimeOfWrong)

/-- 'laws.FnBackTurn': WHATEVER THE INPUT: true; the input reads as it did. -/
def fnBackTurnSpec : ChangeSpec := { name := "fnBackTurn", fn := fun _ => fun
  | [d] => { results := [.lit (.bool true)], args := [d] }
  | _ => none }
def fnBackTurnRow : OpenClaim := { program := "ythplcfnpjkhaeaa", sum := "daa830602780b0f56ae4d1a5d54f736e94fb3036b07f28da2d555e27833658a1", func := "loop.example/roundturns/laws.FnBackTurn", spec := "fnBackTurn", apart := false }
def FnBackTurnSaid : Prop := fnBackTurnRow.holds Try.pinned (OpenSpec.ofChange fnBackTurnSpec)

/-- ITS FALSE NEIGHBOUR: 'it returns false'. Refute it at one input. -/
def fnBackTurnWrong : ChangeSpec := { name := "fnBackTurn", fn := fun _ => fun
  | [d] => { results := [.lit (.bool false)], args := [d] }
  | _ => none }
def FnBackTurnWrongFalsely : Prop := fnBackTurnRow.holds Try.pinned (OpenSpec.ofChange fnBackTurnWrong)

/-- 'laws.FnBothSteps': WHATEVER THE INPUT: true; the input reads as it did. -/
def fnBothStepsSpec : ChangeSpec := { name := "fnBothSteps", fn := fun _ => fun
  | [d] => { results := [.lit (.bool true)], args := [d] }
  | _ => none }
def fnBothStepsRow : OpenClaim := { program := "ythplcfnpjkhaeaa", sum := "daa830602780b0f56ae4d1a5d54f736e94fb3036b07f28da2d555e27833658a1", func := "loop.example/roundturns/laws.FnBothSteps", spec := "fnBothSteps", apart := false }
def FnBothStepsSaid : Prop := fnBothStepsRow.holds Try.pinned (OpenSpec.ofChange fnBothStepsSpec)

/-- ITS FALSE NEIGHBOUR: 'it returns false'. Refute it at one input. -/
def fnBothStepsWrong : ChangeSpec := { name := "fnBothSteps", fn := fun _ => fun
  | [d] => { results := [.lit (.bool false)], args := [d] }
  | _ => none }
def FnBothStepsWrongFalsely : Prop := fnBothStepsRow.holds Try.pinned (OpenSpec.ofChange fnBothStepsWrong)

/-- 'laws.FnFirstPoints': WHATEVER THE INPUT: true; the input reads as it did. -/
def fnFirstPointsSpec : ChangeSpec := { name := "fnFirstPoints", fn := fun _ => fun
  | [d] => { results := [.lit (.bool true)], args := [d] }
  | _ => none }
def fnFirstPointsRow : OpenClaim := { program := "ythplcfnpjkhaeaa", sum := "daa830602780b0f56ae4d1a5d54f736e94fb3036b07f28da2d555e27833658a1", func := "loop.example/roundturns/laws.FnFirstPoints", spec := "fnFirstPoints", apart := false }
def FnFirstPointsSaid : Prop := fnFirstPointsRow.holds Try.pinned (OpenSpec.ofChange fnFirstPointsSpec)

/-- ITS FALSE NEIGHBOUR: 'it returns false'. Refute it at one input. -/
def fnFirstPointsWrong : ChangeSpec := { name := "fnFirstPoints", fn := fun _ => fun
  | [d] => { results := [.lit (.bool false)], args := [d] }
  | _ => none }
def FnFirstPointsWrongFalsely : Prop := fnFirstPointsRow.holds Try.pinned (OpenSpec.ofChange fnFirstPointsWrong)

/-- 'laws.FnExactFirstPoints': WHATEVER THE INPUT: true; the input reads as it did. -/
def fnExactFirstPointsSpec : ChangeSpec := { name := "fnExactFirstPoints", fn := fun _ => fun
  | [d1, d2] => { results := [.lit (.bool true)], args := [d1, d2] }
  | _ => none }
def fnExactFirstPointsRow : OpenClaim := { program := "ythplcfnpjkhaeaa", sum := "daa830602780b0f56ae4d1a5d54f736e94fb3036b07f28da2d555e27833658a1", func := "loop.example/roundturns/laws.FnExactFirstPoints", spec := "fnExactFirstPoints", apart := false }
def FnExactFirstPointsSaid : Prop := fnExactFirstPointsRow.holds Try.pinned (OpenSpec.ofChange fnExactFirstPointsSpec)

/-- ITS FALSE NEIGHBOUR: 'it returns false'. Refute it at one input. -/
def fnExactFirstPointsWrong : ChangeSpec := { name := "fnExactFirstPoints", fn := fun _ => fun
  | [d1, d2] => { results := [.lit (.bool false)], args := [d1, d2] }
  | _ => none }
def FnExactFirstPointsWrongFalsely : Prop := fnExactFirstPointsRow.holds Try.pinned (OpenSpec.ofChange fnExactFirstPointsWrong)

/-- 'laws.FnOnesUpTo': WHATEVER THE INPUT: true; the input reads as it did. -/
def fnOnesUpToSpec : ChangeSpec := { name := "fnOnesUpTo", fn := fun _ => fun
  | [d] => { results := [.lit (.bool true)], args := [d] }
  | _ => none }
def fnOnesUpToRow : OpenClaim := { program := "ythplcfnpjkhaeaa", sum := "daa830602780b0f56ae4d1a5d54f736e94fb3036b07f28da2d555e27833658a1", func := "loop.example/roundturns/laws.FnOnesUpTo", spec := "fnOnesUpTo", inPlace := ["internal/bytealg.CountString", "internal/bytealg.IndexByteString", "internal/bytealg.IndexString"], named := ["internal/bytealg.MaxLen"], apart := false }
def FnOnesUpToSaid : Prop := fnOnesUpToRow.holds Try.pinned (OpenSpec.ofChange fnOnesUpToSpec)

/-- ITS FALSE NEIGHBOUR: 'it returns false'. Refute it at one input. -/
def fnOnesUpToWrong : ChangeSpec := { name := "fnOnesUpTo", fn := fun _ => fun
  | [d] => { results := [.lit (.bool false)], args := [d] }
  | _ => none }
def FnOnesUpToWrongFalsely : Prop := fnOnesUpToRow.holds Try.pinned (OpenSpec.ofChange fnOnesUpToWrong)

/-- 'laws.FnExactOnesUpTo': WHATEVER THE INPUT: true; the input reads as it did. -/
def fnExactOnesUpToSpec : ChangeSpec := { name := "fnExactOnesUpTo", fn := fun _ => fun
  | [d1, d2] => { results := [.lit (.bool true)], args := [d1, d2] }
  | _ => none }
def fnExactOnesUpToRow : OpenClaim := { program := "ythplcfnpjkhaeaa", sum := "daa830602780b0f56ae4d1a5d54f736e94fb3036b07f28da2d555e27833658a1", func := "loop.example/roundturns/laws.FnExactOnesUpTo", spec := "fnExactOnesUpTo", inPlace := ["internal/bytealg.CountString", "internal/bytealg.IndexByteString", "internal/bytealg.IndexString"], named := ["internal/bytealg.MaxLen"], apart := false }
def FnExactOnesUpToSaid : Prop := fnExactOnesUpToRow.holds Try.pinned (OpenSpec.ofChange fnExactOnesUpToSpec)

/-- ITS FALSE NEIGHBOUR: 'it returns false'. Refute it at one input. -/
def fnExactOnesUpToWrong : ChangeSpec := { name := "fnExactOnesUpTo", fn := fun _ => fun
  | [d1, d2] => { results := [.lit (.bool false)], args := [d1, d2] }
  | _ => none }
def FnExactOnesUpToWrongFalsely : Prop := fnExactOnesUpToRow.holds Try.pinned (OpenSpec.ofChange fnExactOnesUpToWrong)

/-- 'laws.FnPartsOf': WHATEVER THE INPUT: true; the input reads as it did. -/
def fnPartsOfSpec : ChangeSpec := { name := "fnPartsOf", fn := fun _ => fun
  | [d] => { results := [.lit (.bool true)], args := [d] }
  | _ => none }
def fnPartsOfRow : OpenClaim := { program := "ythplcfnpjkhaeaa", sum := "daa830602780b0f56ae4d1a5d54f736e94fb3036b07f28da2d555e27833658a1", func := "loop.example/roundturns/laws.FnPartsOf", spec := "fnPartsOf", apart := false }
def FnPartsOfSaid : Prop := fnPartsOfRow.holds Try.pinned (OpenSpec.ofChange fnPartsOfSpec)

/-- ITS FALSE NEIGHBOUR: 'it returns false'. Refute it at one input. -/
def fnPartsOfWrong : ChangeSpec := { name := "fnPartsOf", fn := fun _ => fun
  | [d] => { results := [.lit (.bool false)], args := [d] }
  | _ => none }
def FnPartsOfWrongFalsely : Prop := fnPartsOfRow.holds Try.pinned (OpenSpec.ofChange fnPartsOfWrong)

/-- 'laws.FnExactPartsOf': WHATEVER THE INPUT: true; the input reads as it did. -/
def fnExactPartsOfSpec : ChangeSpec := { name := "fnExactPartsOf", fn := fun _ => fun
  | [d1, d2] => { results := [.lit (.bool true)], args := [d1, d2] }
  | _ => none }
def fnExactPartsOfRow : OpenClaim := { program := "ythplcfnpjkhaeaa", sum := "daa830602780b0f56ae4d1a5d54f736e94fb3036b07f28da2d555e27833658a1", func := "loop.example/roundturns/laws.FnExactPartsOf", spec := "fnExactPartsOf", apart := false }
def FnExactPartsOfSaid : Prop := fnExactPartsOfRow.holds Try.pinned (OpenSpec.ofChange fnExactPartsOfSpec)

/-- ITS FALSE NEIGHBOUR: 'it returns false'. Refute it at one input. -/
def fnExactPartsOfWrong : ChangeSpec := { name := "fnExactPartsOf", fn := fun _ => fun
  | [d1, d2] => { results := [.lit (.bool false)], args := [d1, d2] }
  | _ => none }
def FnExactPartsOfWrongFalsely : Prop := fnExactPartsOfRow.holds Try.pinned (OpenSpec.ofChange fnExactPartsOfWrong)

/-- 'laws.FnExactCodeOf': WHATEVER THE INPUT: true; the input reads as it did. -/
def fnExactCodeOfSpec : ChangeSpec := { name := "fnExactCodeOf", fn := fun _ => fun
  | [d1, d2, d3] => { results := [.lit (.bool true)], args := [d1, d2, d3] }
  | _ => none }
def fnExactCodeOfRow : OpenClaim := { program := "ythplcfnpjkhaeaa", sum := "daa830602780b0f56ae4d1a5d54f736e94fb3036b07f28da2d555e27833658a1", func := "loop.example/roundturns/laws.FnExactCodeOf", spec := "fnExactCodeOf", apart := false }
def FnExactCodeOfSaid : Prop := fnExactCodeOfRow.holds Try.pinned (OpenSpec.ofChange fnExactCodeOfSpec)

/-- ITS FALSE NEIGHBOUR: 'it returns false'. Refute it at one input. -/
def fnExactCodeOfWrong : ChangeSpec := { name := "fnExactCodeOf", fn := fun _ => fun
  | [d1, d2, d3] => { results := [.lit (.bool false)], args := [d1, d2, d3] }
  | _ => none }
def FnExactCodeOfWrongFalsely : Prop := fnExactCodeOfRow.holds Try.pinned (OpenSpec.ofChange fnExactCodeOfWrong)

/- THE SECOND FORM. 'bulk': how many values and letters a reading holds, each counted each time it is reached (what is shared counts as often as it is met; a slice's spare places count too). A statement '..UptoSaid' is the law's where the arguments, and the package variables that the reading takes, are together of bulk at most 1048576: NARROWER than '..Said'. Prove '..Said' where nothing that the law and all that it calls make is longer than what came in: it says more and counts as full. Else prove '..UptoSaid'. A law counts once. -/
mutual
def uptoBulk {H : Type} : DataW H → Nat
  | .lit (.string bytes) => bytes.length + 1
  | .lit _ => 1
  | .nil => 1
  | .ptr d => uptoBulk d + 1
  | .slice elems spare => uptoBulkAll elems + uptoBulkAll spare + 1
  | .agg parts => uptoBulkAll parts + 1
  | .iface _ d => uptoBulk d + 1
  | .map entries => uptoBulkEntries entries + 1
  | .held _ => 1
def uptoBulkAll {H : Type} : List (DataW H) → Nat
  | [] => 0
  | d :: r => uptoBulk d + uptoBulkAll r
def uptoBulkEntries {H : Type} : List (Lit × DataW H) → Nat
  | [] => 0
  | x :: r => uptoBulkEntry x + uptoBulkEntries r
def uptoBulkEntry {H : Type} : Lit × DataW H → Nat
  | (.string bytes, d) => bytes.length + uptoBulk d + 1
  | (_, d) => uptoBulk d + 1
 end
def uptoSmall : (H : Type) → List (DataW H) → Bool := fun _ ds => decide (uptoBulkAll ds ≤ 1048576)
def OpenSpec.upto (s : _root_.Go.ChangeSpec) : _root_.Go.OpenSpec := { _root_.Go.OpenSpec.ofChange s with cond := some uptoSmall }

/-- 'laws.FnPointOf', WHERE WHAT IT READS IS OF BULK AT MOST 1048576: true; the input reads as it did. -/
def fnPointOfUptoRow : OpenClaim := { program := "ythplcfnpjkhaeaa", sum := "daa830602780b0f56ae4d1a5d54f736e94fb3036b07f28da2d555e27833658a1", func := "loop.example/roundturns/laws.FnPointOf", spec := "fnPointOf", apart := false, narrowed := true }
def FnPointOfUptoSaid : Prop := fnPointOfUptoRow.holds Try.pinned (OpenSpec.upto fnPointOfSpec)

/-- 'laws.FnExactPointOf', WHERE WHAT IT READS IS OF BULK AT MOST 1048576: true; the input reads as it did. -/
def fnExactPointOfUptoRow : OpenClaim := { program := "ythplcfnpjkhaeaa", sum := "daa830602780b0f56ae4d1a5d54f736e94fb3036b07f28da2d555e27833658a1", func := "loop.example/roundturns/laws.FnExactPointOf", spec := "fnExactPointOf", apart := false, narrowed := true }
def FnExactPointOfUptoSaid : Prop := fnExactPointOfUptoRow.holds Try.pinned (OpenSpec.upto fnExactPointOfSpec)

/-- 'laws.FnTimeOf', WHERE WHAT IT READS IS OF BULK AT MOST 1048576: true; the input reads as it did. -/
def fnTimeOfUptoRow : OpenClaim := { program := "ythplcfnpjkhaeaa", sum := "daa830602780b0f56ae4d1a5d54f736e94fb3036b07f28da2d555e27833658a1", func := "loop.example/roundturns/laws.FnTimeOf", spec := "fnTimeOf", apart := false, narrowed := true }
def FnTimeOfUptoSaid : Prop := fnTimeOfUptoRow.holds Try.pinned (OpenSpec.upto fnTimeOfSpec)

/-- 'laws.FnBackTurn', WHERE WHAT IT READS IS OF BULK AT MOST 1048576: true; the input reads as it did. -/
def fnBackTurnUptoRow : OpenClaim := { program := "ythplcfnpjkhaeaa", sum := "daa830602780b0f56ae4d1a5d54f736e94fb3036b07f28da2d555e27833658a1", func := "loop.example/roundturns/laws.FnBackTurn", spec := "fnBackTurn", apart := false, narrowed := true }
def FnBackTurnUptoSaid : Prop := fnBackTurnUptoRow.holds Try.pinned (OpenSpec.upto fnBackTurnSpec)

/-- 'laws.FnBothSteps', WHERE WHAT IT READS IS OF BULK AT MOST 1048576: true; the input reads as it did. -/
def fnBothStepsUptoRow : OpenClaim := { program := "ythplcfnpjkhaeaa", sum := "daa830602780b0f56ae4d1a5d54f736e94fb3036b07f28da2d555e27833658a1", func := "loop.example/roundturns/laws.FnBothSteps", spec := "fnBothSteps", apart := false, narrowed := true }
def FnBothStepsUptoSaid : Prop := fnBothStepsUptoRow.holds Try.pinned (OpenSpec.upto fnBothStepsSpec)

/-- 'laws.FnFirstPoints', WHERE WHAT IT READS IS OF BULK AT MOST 1048576: true; the input reads as it did. -/
def fnFirstPointsUptoRow : OpenClaim := { program := "ythplcfnpjkhaeaa", sum := "daa830602780b0f56ae4d1a5d54f736e94fb3036b07f28da2d555e27833658a1", func := "loop.example/roundturns/laws.FnFirstPoints", spec := "fnFirstPoints", apart := false, narrowed := true }
def FnFirstPointsUptoSaid : Prop := fnFirstPointsUptoRow.holds Try.pinned (OpenSpec.upto fnFirstPointsSpec)

/-- 'laws.FnExactFirstPoints', WHERE WHAT IT READS IS OF BULK AT MOST 1048576: true; the input reads as it did. -/
def fnExactFirstPointsUptoRow : OpenClaim := { program := "ythplcfnpjkhaeaa", sum := "daa830602780b0f56ae4d1a5d54f736e94fb3036b07f28da2d555e27833658a1", func := "loop.example/roundturns/laws.FnExactFirstPoints", spec := "fnExactFirstPoints", apart := false, narrowed := true }
def FnExactFirstPointsUptoSaid : Prop := fnExactFirstPointsUptoRow.holds Try.pinned (OpenSpec.upto fnExactFirstPointsSpec)

/-- 'laws.FnOnesUpTo', WHERE WHAT IT READS IS OF BULK AT MOST 1048576: true; the input reads as it did. -/
def fnOnesUpToUptoRow : OpenClaim := { program := "ythplcfnpjkhaeaa", sum := "daa830602780b0f56ae4d1a5d54f736e94fb3036b07f28da2d555e27833658a1", func := "loop.example/roundturns/laws.FnOnesUpTo", spec := "fnOnesUpTo", inPlace := ["internal/bytealg.CountString", "internal/bytealg.IndexByteString", "internal/bytealg.IndexString"], named := ["internal/bytealg.MaxLen"], apart := false, narrowed := true }
def FnOnesUpToUptoSaid : Prop := fnOnesUpToUptoRow.holds Try.pinned (OpenSpec.upto fnOnesUpToSpec)

/-- 'laws.FnExactOnesUpTo', WHERE WHAT IT READS IS OF BULK AT MOST 1048576: true; the input reads as it did. -/
def fnExactOnesUpToUptoRow : OpenClaim := { program := "ythplcfnpjkhaeaa", sum := "daa830602780b0f56ae4d1a5d54f736e94fb3036b07f28da2d555e27833658a1", func := "loop.example/roundturns/laws.FnExactOnesUpTo", spec := "fnExactOnesUpTo", inPlace := ["internal/bytealg.CountString", "internal/bytealg.IndexByteString", "internal/bytealg.IndexString"], named := ["internal/bytealg.MaxLen"], apart := false, narrowed := true }
def FnExactOnesUpToUptoSaid : Prop := fnExactOnesUpToUptoRow.holds Try.pinned (OpenSpec.upto fnExactOnesUpToSpec)

/-- 'laws.FnPartsOf', WHERE WHAT IT READS IS OF BULK AT MOST 1048576: true; the input reads as it did. -/
def fnPartsOfUptoRow : OpenClaim := { program := "ythplcfnpjkhaeaa", sum := "daa830602780b0f56ae4d1a5d54f736e94fb3036b07f28da2d555e27833658a1", func := "loop.example/roundturns/laws.FnPartsOf", spec := "fnPartsOf", apart := false, narrowed := true }
def FnPartsOfUptoSaid : Prop := fnPartsOfUptoRow.holds Try.pinned (OpenSpec.upto fnPartsOfSpec)

/-- 'laws.FnExactPartsOf', WHERE WHAT IT READS IS OF BULK AT MOST 1048576: true; the input reads as it did. -/
def fnExactPartsOfUptoRow : OpenClaim := { program := "ythplcfnpjkhaeaa", sum := "daa830602780b0f56ae4d1a5d54f736e94fb3036b07f28da2d555e27833658a1", func := "loop.example/roundturns/laws.FnExactPartsOf", spec := "fnExactPartsOf", apart := false, narrowed := true }
def FnExactPartsOfUptoSaid : Prop := fnExactPartsOfUptoRow.holds Try.pinned (OpenSpec.upto fnExactPartsOfSpec)

/-- 'laws.FnExactCodeOf', WHERE WHAT IT READS IS OF BULK AT MOST 1048576: true; the input reads as it did. -/
def fnExactCodeOfUptoRow : OpenClaim := { program := "ythplcfnpjkhaeaa", sum := "daa830602780b0f56ae4d1a5d54f736e94fb3036b07f28da2d555e27833658a1", func := "loop.example/roundturns/laws.FnExactCodeOf", spec := "fnExactCodeOf", apart := false, narrowed := true }
def FnExactCodeOfUptoSaid : Prop := fnExactCodeOfUptoRow.holds Try.pinned (OpenSpec.upto fnExactCodeOfSpec)

end Rows
end Go.Proofs.Ythplcfnpjkhaeaa
