/-
  No cell of these rows narrows 'for every input' (looked for: loops, veiled, ifaces, maps, wideKeys, modest, calm, conditions, laid).
  DERIVED. THE GIVEN ROWS OF THIS SEAT. 14 by the template 'for every input the law returns true; each argument reads behind the call as it read before'; 0 by the template 'total and deterministic' (their statements: YtidhhiedcblaaaaTotals.lean).
  GIVEN WITH THE SEED: the statements are not yours to turn. If you find one false, say at which input.
  Laid BY PROGRAM, IN A SANDBOX (cutbox-rows.mjs): the forced cells as the released guide's own fill.sh prints them over the translation 8bcbbaca405163f9… (all of the seat's roots in one cut). By AI agents, Wed Nov 11 2026. No macro, syntax, notation, axiom, sorry.
-/
import Derived.Test.YtidhhiedcblaaaaChecked
import GoSem.Claim
import GoSem.ClaimJoined
import GoSem.ClaimMapViews
import Derived.JoinedTies
import Derived.KernelRfl
namespace Go.Proofs.Ytidhhiedcblaaaa
/- THE CELL 'sum', in the pinned program and in every row, IS THE sha256 OF THE DUMP (.gsa) THAT YtidhhiedcblaaaaProg.lean LOADS. Nothing in Lean hashes anything: it is a label: what it is worth is what the hold of that sum in a sandbox is worth. -/
noncomputable def Try.pinned : Pinned := { name := "ytidhhiedcblaaaa", sum := "8bcbbaca405163f9b7b001655f7bc3d5b2bba38b5e7e31450f81aad9ef329fd6", checked := Try.checked }
namespace Rows
def none {H : Type} : Left H := { results := [], args := [] }

/-- 'laws.FnTurnOk': WHATEVER THE INPUT: true; the input reads as it did. -/
def fnTurnOkSpec : ChangeSpec := { name := "fnTurnOk", fn := fun _ => fun
  | [d] => { results := [.lit (.bool true)], args := [d] }
  | _ => none }
def fnTurnOkRow : OpenClaim := { program := "ytidhhiedcblaaaa", sum := "8bcbbaca405163f9b7b001655f7bc3d5b2bba38b5e7e31450f81aad9ef329fd6", func := "loop.example/roundturns/laws.FnTurnOk", spec := "fnTurnOk", apart := false }
def FnTurnOkSaid : Prop := fnTurnOkRow.holds Try.pinned (OpenSpec.ofChange fnTurnOkSpec)

/-- ITS FALSE NEIGHBOUR: 'it returns false'. Refute it at one input. -/
def fnTurnOkWrong : ChangeSpec := { name := "fnTurnOk", fn := fun _ => fun
  | [d] => { results := [.lit (.bool false)], args := [d] }
  | _ => none }
def FnTurnOkWrongFalsely : Prop := fnTurnOkRow.holds Try.pinned (OpenSpec.ofChange fnTurnOkWrong)

/-- 'laws.FnPointOf': WHATEVER THE INPUT: true; the input reads as it did. -/
def fnPointOfSpec : ChangeSpec := { name := "fnPointOf", fn := fun _ => fun
  | [d] => { results := [.lit (.bool true)], args := [d] }
  | _ => none }
def fnPointOfRow : OpenClaim := { program := "ytidhhiedcblaaaa", sum := "8bcbbaca405163f9b7b001655f7bc3d5b2bba38b5e7e31450f81aad9ef329fd6", func := "loop.example/roundturns/laws.FnPointOf", spec := "fnPointOf", apart := false }
def FnPointOfSaid : Prop := fnPointOfRow.holds Try.pinned (OpenSpec.ofChange fnPointOfSpec)

/-- ITS FALSE NEIGHBOUR: 'it returns false'. Refute it at one input. -/
def fnPointOfWrong : ChangeSpec := { name := "fnPointOf", fn := fun _ => fun
  | [d] => { results := [.lit (.bool false)], args := [d] }
  | _ => none }
def FnPointOfWrongFalsely : Prop := fnPointOfRow.holds Try.pinned (OpenSpec.ofChange fnPointOfWrong)

/-- 'laws.FnTimeOf': WHATEVER THE INPUT: true; the input reads as it did. -/
def fnTimeOfSpec : ChangeSpec := { name := "fnTimeOf", fn := fun _ => fun
  | [d] => { results := [.lit (.bool true)], args := [d] }
  | _ => none }
def fnTimeOfRow : OpenClaim := { program := "ytidhhiedcblaaaa", sum := "8bcbbaca405163f9b7b001655f7bc3d5b2bba38b5e7e31450f81aad9ef329fd6", func := "loop.example/roundturns/laws.FnTimeOf", spec := "fnTimeOf", apart := false }
def FnTimeOfSaid : Prop := fnTimeOfRow.holds Try.pinned (OpenSpec.ofChange fnTimeOfSpec)

/-- ITS FALSE NEIGHBOUR: 'it returns false'. Refute it at one input. -/
def fnTimeOfWrong : ChangeSpec := { name := "fnTimeOf", fn := fun _ => fun
  | [d] => { results := [.lit (.bool false)], args := [d] }
  | _ => none }
def FnTimeOfWrongFalsely : Prop := fnTimeOfRow.holds Try.pinned (OpenSpec.ofChange fnTimeOfWrong)

/-- 'laws.FnOppositeOf': WHATEVER THE INPUT: true; the input reads as it did. -/
def fnOppositeOfSpec : ChangeSpec := { name := "fnOppositeOf", fn := fun _ => fun
  | [d] => { results := [.lit (.bool true)], args := [d] }
  | _ => none }
def fnOppositeOfRow : OpenClaim := { program := "ytidhhiedcblaaaa", sum := "8bcbbaca405163f9b7b001655f7bc3d5b2bba38b5e7e31450f81aad9ef329fd6", func := "loop.example/roundturns/laws.FnOppositeOf", spec := "fnOppositeOf", apart := false }
def FnOppositeOfSaid : Prop := fnOppositeOfRow.holds Try.pinned (OpenSpec.ofChange fnOppositeOfSpec)

/-- ITS FALSE NEIGHBOUR: 'it returns false'. Refute it at one input. -/
def fnOppositeOfWrong : ChangeSpec := { name := "fnOppositeOf", fn := fun _ => fun
  | [d] => { results := [.lit (.bool false)], args := [d] }
  | _ => none }
def FnOppositeOfWrongFalsely : Prop := fnOppositeOfRow.holds Try.pinned (OpenSpec.ofChange fnOppositeOfWrong)

/-- 'laws.FnBackTurn': WHATEVER THE INPUT: true; the input reads as it did. -/
def fnBackTurnSpec : ChangeSpec := { name := "fnBackTurn", fn := fun _ => fun
  | [d] => { results := [.lit (.bool true)], args := [d] }
  | _ => none }
def fnBackTurnRow : OpenClaim := { program := "ytidhhiedcblaaaa", sum := "8bcbbaca405163f9b7b001655f7bc3d5b2bba38b5e7e31450f81aad9ef329fd6", func := "loop.example/roundturns/laws.FnBackTurn", spec := "fnBackTurn", apart := false }
def FnBackTurnSaid : Prop := fnBackTurnRow.holds Try.pinned (OpenSpec.ofChange fnBackTurnSpec)

/-- ITS FALSE NEIGHBOUR: 'it returns false'. Refute it at one input. -/
def fnBackTurnWrong : ChangeSpec := { name := "fnBackTurn", fn := fun _ => fun
  | [d] => { results := [.lit (.bool false)], args := [d] }
  | _ => none }
def FnBackTurnWrongFalsely : Prop := fnBackTurnRow.holds Try.pinned (OpenSpec.ofChange fnBackTurnWrong)

/-- 'laws.FnFirstPoints': WHATEVER THE INPUT: true; the input reads as it did. -/
def fnFirstPointsSpec : ChangeSpec := { name := "fnFirstPoints", fn := fun _ => fun
  | [d] => { results := [.lit (.bool true)], args := [d] }
  | _ => none }
def fnFirstPointsRow : OpenClaim := { program := "ytidhhiedcblaaaa", sum := "8bcbbaca405163f9b7b001655f7bc3d5b2bba38b5e7e31450f81aad9ef329fd6", func := "loop.example/roundturns/laws.FnFirstPoints", spec := "fnFirstPoints", apart := false }
def FnFirstPointsSaid : Prop := fnFirstPointsRow.holds Try.pinned (OpenSpec.ofChange fnFirstPointsSpec)

/-- ITS FALSE NEIGHBOUR: 'it returns false'. Refute it at one input. -/
def fnFirstPointsWrong : ChangeSpec := { name := "fnFirstPoints", fn := fun _ => fun
  | [d] => { results := [.lit (.bool false)], args := [d] }
  | _ => none }
def FnFirstPointsWrongFalsely : Prop := fnFirstPointsRow.holds Try.pinned (OpenSpec.ofChange fnFirstPointsWrong)

/-- 'laws.FnBothSteps': WHATEVER THE INPUT: true; the input reads as it did. -/
def fnBothStepsSpec : ChangeSpec := { name := "fnBothSteps", fn := fun _ => fun
  | [d] => { results := [.lit (.bool true)], args := [d] }
  | _ => none }
def fnBothStepsRow : OpenClaim := { program := "ytidhhiedcblaaaa", sum := "8bcbbaca405163f9b7b001655f7bc3d5b2bba38b5e7e31450f81aad9ef329fd6", func := "loop.example/roundturns/laws.FnBothSteps", spec := "fnBothSteps", apart := false }
def FnBothStepsSaid : Prop := fnBothStepsRow.holds Try.pinned (OpenSpec.ofChange fnBothStepsSpec)

/-- ITS FALSE NEIGHBOUR: 'it returns false'. Refute it at one input. -/
def fnBothStepsWrong : ChangeSpec := { name := "fnBothSteps", fn := fun _ => fun
  | [d] => { results := [.lit (.bool false)], args := [d] }
  | _ => none }
def FnBothStepsWrongFalsely : Prop := fnBothStepsRow.holds Try.pinned (OpenSpec.ofChange fnBothStepsWrong)

/-- 'laws.FnExactTurnOk': WHATEVER THE INPUT: true; the input reads as it did. -/
def fnExactTurnOkSpec : ChangeSpec := { name := "fnExactTurnOk", fn := fun _ => fun
  | [d] => { results := [.lit (.bool true)], args := [d] }
  | _ => none }
def fnExactTurnOkRow : OpenClaim := { program := "ytidhhiedcblaaaa", sum := "8bcbbaca405163f9b7b001655f7bc3d5b2bba38b5e7e31450f81aad9ef329fd6", func := "loop.example/roundturns/laws.FnExactTurnOk", spec := "fnExactTurnOk", apart := false }
def FnExactTurnOkSaid : Prop := fnExactTurnOkRow.holds Try.pinned (OpenSpec.ofChange fnExactTurnOkSpec)

/-- ITS FALSE NEIGHBOUR: 'it returns false'. Refute it at one input. -/
def fnExactTurnOkWrong : ChangeSpec := { name := "fnExactTurnOk", fn := fun _ => fun
  | [d] => { results := [.lit (.bool false)], args := [d] }
  | _ => none }
def FnExactTurnOkWrongFalsely : Prop := fnExactTurnOkRow.holds Try.pinned (OpenSpec.ofChange fnExactTurnOkWrong)

/-- 'laws.FnExactPointOf': WHATEVER THE INPUT: true; the input reads as it did. -/
def fnExactPointOfSpec : ChangeSpec := { name := "fnExactPointOf", fn := fun _ => fun
  | [d1, d2] => { results := [.lit (.bool true)], args := [d1, d2] }
  | _ => none }
def fnExactPointOfRow : OpenClaim := { program := "ytidhhiedcblaaaa", sum := "8bcbbaca405163f9b7b001655f7bc3d5b2bba38b5e7e31450f81aad9ef329fd6", func := "loop.example/roundturns/laws.FnExactPointOf", spec := "fnExactPointOf", apart := false }
def FnExactPointOfSaid : Prop := fnExactPointOfRow.holds Try.pinned (OpenSpec.ofChange fnExactPointOfSpec)

/-- ITS FALSE NEIGHBOUR: 'it returns false'. Refute it at one input. -/
def fnExactPointOfWrong : ChangeSpec := { name := "fnExactPointOf", fn := fun _ => fun
  | [d1, d2] => { results := [.lit (.bool false)], args := [d1, d2] }
  | _ => none }
def FnExactPointOfWrongFalsely : Prop := fnExactPointOfRow.holds Try.pinned (OpenSpec.ofChange fnExactPointOfWrong)

/-- 'laws.FnExactTimeOf': WHATEVER THE INPUT: true; the input reads as it did. -/
def fnExactTimeOfSpec : ChangeSpec := { name := "fnExactTimeOf", fn := fun _ => fun
  | [d1, d2] => { results := [.lit (.bool true)], args := [d1, d2] }
  | _ => none }
def fnExactTimeOfRow : OpenClaim := { program := "ytidhhiedcblaaaa", sum := "8bcbbaca405163f9b7b001655f7bc3d5b2bba38b5e7e31450f81aad9ef329fd6", func := "loop.example/roundturns/laws.FnExactTimeOf", spec := "fnExactTimeOf", apart := false }
def FnExactTimeOfSaid : Prop := fnExactTimeOfRow.holds Try.pinned (OpenSpec.ofChange fnExactTimeOfSpec)

/-- ITS FALSE NEIGHBOUR: 'it returns false'. Refute it at one input. -/
def fnExactTimeOfWrong : ChangeSpec := { name := "fnExactTimeOf", fn := fun _ => fun
  | [d1, d2] => { results := [.lit (.bool false)], args := [d1, d2] }
  | _ => none }
def FnExactTimeOfWrongFalsely : Prop := fnExactTimeOfRow.holds Try.pinned (OpenSpec.ofChange fnExactTimeOfWrong)

/-- 'laws.FnExactOppositeOf': WHATEVER THE INPUT: true; the input reads as it did. -/
def fnExactOppositeOfSpec : ChangeSpec := { name := "fnExactOppositeOf", fn := fun _ => fun
  | [d] => { results := [.lit (.bool true)], args := [d] }
  | _ => none }
def fnExactOppositeOfRow : OpenClaim := { program := "ytidhhiedcblaaaa", sum := "8bcbbaca405163f9b7b001655f7bc3d5b2bba38b5e7e31450f81aad9ef329fd6", func := "loop.example/roundturns/laws.FnExactOppositeOf", spec := "fnExactOppositeOf", apart := false }
def FnExactOppositeOfSaid : Prop := fnExactOppositeOfRow.holds Try.pinned (OpenSpec.ofChange fnExactOppositeOfSpec)

/-- ITS FALSE NEIGHBOUR: 'it returns false'. Refute it at one input. -/
def fnExactOppositeOfWrong : ChangeSpec := { name := "fnExactOppositeOf", fn := fun _ => fun
  | [d] => { results := [.lit (.bool false)], args := [d] }
  | _ => none }
def FnExactOppositeOfWrongFalsely : Prop := fnExactOppositeOfRow.holds Try.pinned (OpenSpec.ofChange fnExactOppositeOfWrong)

/-- 'laws.FnExactBackTurn': WHATEVER THE INPUT: true; the input reads as it did. -/
def fnExactBackTurnSpec : ChangeSpec := { name := "fnExactBackTurn", fn := fun _ => fun
  | [d] => { results := [.lit (.bool true)], args := [d] }
  | _ => none }
def fnExactBackTurnRow : OpenClaim := { program := "ytidhhiedcblaaaa", sum := "8bcbbaca405163f9b7b001655f7bc3d5b2bba38b5e7e31450f81aad9ef329fd6", func := "loop.example/roundturns/laws.FnExactBackTurn", spec := "fnExactBackTurn", apart := false }
def FnExactBackTurnSaid : Prop := fnExactBackTurnRow.holds Try.pinned (OpenSpec.ofChange fnExactBackTurnSpec)

/-- ITS FALSE NEIGHBOUR: 'it returns false'. Refute it at one input. -/
def fnExactBackTurnWrong : ChangeSpec := { name := "fnExactBackTurn", fn := fun _ => fun
  | [d] => { results := [.lit (.bool false)], args := [d] }
  | _ => none }
def FnExactBackTurnWrongFalsely : Prop := fnExactBackTurnRow.holds Try.pinned (OpenSpec.ofChange fnExactBackTurnWrong)

/-- 'laws.FnExactFirstPoints': WHATEVER THE INPUT: true; the input reads as it did. -/
def fnExactFirstPointsSpec : ChangeSpec := { name := "fnExactFirstPoints", fn := fun _ => fun
  | [d1, d2] => { results := [.lit (.bool true)], args := [d1, d2] }
  | _ => none }
def fnExactFirstPointsRow : OpenClaim := { program := "ytidhhiedcblaaaa", sum := "8bcbbaca405163f9b7b001655f7bc3d5b2bba38b5e7e31450f81aad9ef329fd6", func := "loop.example/roundturns/laws.FnExactFirstPoints", spec := "fnExactFirstPoints", apart := false }
def FnExactFirstPointsSaid : Prop := fnExactFirstPointsRow.holds Try.pinned (OpenSpec.ofChange fnExactFirstPointsSpec)

/-- ITS FALSE NEIGHBOUR: 'it returns false'. Refute it at one input. -/
def fnExactFirstPointsWrong : ChangeSpec := { name := "fnExactFirstPoints", fn := fun _ => fun
  | [d1, d2] => { results := [.lit (.bool false)], args := [d1, d2] }
  | _ => none }
def FnExactFirstPointsWrongFalsely : Prop := fnExactFirstPointsRow.holds Try.pinned (OpenSpec.ofChange fnExactFirstPointsWrong)

/-- 'laws.FnExactBothSteps': WHATEVER THE INPUT: true; the input reads as it did. -/
def fnExactBothStepsSpec : ChangeSpec := { name := "fnExactBothSteps", fn := fun _ => fun
  | [d1, d2] => { results := [.lit (.bool true)], args := [d1, d2] }
  | _ => none }
def fnExactBothStepsRow : OpenClaim := { program := "ytidhhiedcblaaaa", sum := "8bcbbaca405163f9b7b001655f7bc3d5b2bba38b5e7e31450f81aad9ef329fd6", func := "loop.example/roundturns/laws.FnExactBothSteps", spec := "fnExactBothSteps", apart := false }
def FnExactBothStepsSaid : Prop := fnExactBothStepsRow.holds Try.pinned (OpenSpec.ofChange fnExactBothStepsSpec)

/-- ITS FALSE NEIGHBOUR: 'it returns false'. Refute it at one input. -/
def fnExactBothStepsWrong : ChangeSpec := { name := "fnExactBothSteps", fn := fun _ => fun
  | [d1, d2] => { results := [.lit (.bool false)], args := [d1, d2] }
  | _ => none }
def FnExactBothStepsWrongFalsely : Prop := fnExactBothStepsRow.holds Try.pinned (OpenSpec.ofChange fnExactBothStepsWrong)

/- THE SECOND FORM. 'bulk': how many values and letters a reading holds, each counted each time it is reached (what is shared counts as often as it is met; a slice's spare places count too). A statement '..UptoSaid' is the law's where the arguments, and the package variables that the reading takes, are together of bulk at most 1048576: NARROWER than '..Said'. Prove '..Said' where nothing that the law and all that it calls make is longer than what came in: it says more and counts as full. Else prove '..UptoSaid'. A law counts once. -/
mutual
def uptoBulk {H : Type} : DataW H → Nat
  | .lit (.string bytes) => bytes.length + 1
  | .lit _ => 1
  | .nil => 1
  | .ptr d => uptoBulk d + 1
  | .slice elems spare => uptoBulkAll elems + uptoBulkAll spare + 1
  | .agg parts => uptoBulkAll parts + 1
  | .iface _ d => uptoBulk d + 1
  | .map entries => uptoBulkEntries entries + 1
  | .held _ => 1
def uptoBulkAll {H : Type} : List (DataW H) → Nat
  | [] => 0
  | d :: r => uptoBulk d + uptoBulkAll r
def uptoBulkEntries {H : Type} : List (Lit × DataW H) → Nat
  | [] => 0
  | x :: r => uptoBulkEntry x + uptoBulkEntries r
def uptoBulkEntry {H : Type} : Lit × DataW H → Nat
  | (.string bytes, d) => bytes.length + uptoBulk d + 1
  | (_, d) => uptoBulk d + 1
 end
def uptoSmall : (H : Type) → List (DataW H) → Bool := fun _ ds => decide (uptoBulkAll ds ≤ 1048576)
def OpenSpec.upto (s : _root_.Go.ChangeSpec) : _root_.Go.OpenSpec := { _root_.Go.OpenSpec.ofChange s with cond := some uptoSmall }

/-- 'laws.FnTurnOk', WHERE WHAT IT READS IS OF BULK AT MOST 1048576: true; the input reads as it did. -/
def fnTurnOkUptoRow : OpenClaim := { program := "ytidhhiedcblaaaa", sum := "8bcbbaca405163f9b7b001655f7bc3d5b2bba38b5e7e31450f81aad9ef329fd6", func := "loop.example/roundturns/laws.FnTurnOk", spec := "fnTurnOk", apart := false, narrowed := true }
def FnTurnOkUptoSaid : Prop := fnTurnOkUptoRow.holds Try.pinned (OpenSpec.upto fnTurnOkSpec)

/-- 'laws.FnPointOf', WHERE WHAT IT READS IS OF BULK AT MOST 1048576: true; the input reads as it did. -/
def fnPointOfUptoRow : OpenClaim := { program := "ytidhhiedcblaaaa", sum := "8bcbbaca405163f9b7b001655f7bc3d5b2bba38b5e7e31450f81aad9ef329fd6", func := "loop.example/roundturns/laws.FnPointOf", spec := "fnPointOf", apart := false, narrowed := true }
def FnPointOfUptoSaid : Prop := fnPointOfUptoRow.holds Try.pinned (OpenSpec.upto fnPointOfSpec)

/-- 'laws.FnTimeOf', WHERE WHAT IT READS IS OF BULK AT MOST 1048576: true; the input reads as it did. -/
def fnTimeOfUptoRow : OpenClaim := { program := "ytidhhiedcblaaaa", sum := "8bcbbaca405163f9b7b001655f7bc3d5b2bba38b5e7e31450f81aad9ef329fd6", func := "loop.example/roundturns/laws.FnTimeOf", spec := "fnTimeOf", apart := false, narrowed := true }
def FnTimeOfUptoSaid : Prop := fnTimeOfUptoRow.holds Try.pinned (OpenSpec.upto fnTimeOfSpec)

/-- 'laws.FnOppositeOf', WHERE WHAT IT READS IS OF BULK AT MOST 1048576: true; the input reads as it did. -/
def fnOppositeOfUptoRow : OpenClaim := { program := "ytidhhiedcblaaaa", sum := "8bcbbaca405163f9b7b001655f7bc3d5b2bba38b5e7e31450f81aad9ef329fd6", func := "loop.example/roundturns/laws.FnOppositeOf", spec := "fnOppositeOf", apart := false, narrowed := true }
def FnOppositeOfUptoSaid : Prop := fnOppositeOfUptoRow.holds Try.pinned (OpenSpec.upto fnOppositeOfSpec)

/-- 'laws.FnBackTurn', WHERE WHAT IT READS IS OF BULK AT MOST 1048576: true; the input reads as it did. -/
def fnBackTurnUptoRow : OpenClaim := { program := "ytidhhiedcblaaaa", sum := "8bcbbaca405163f9b7b001655f7bc3d5b2bba38b5e7e31450f81aad9ef329fd6", func := "loop.example/roundturns/laws.FnBackTurn", spec := "fnBackTurn", apart := false, narrowed := true }
def FnBackTurnUptoSaid : Prop := fnBackTurnUptoRow.holds Try.pinned (OpenSpec.upto fnBackTurnSpec)

/-- 'laws.FnFirstPoints', WHERE WHAT IT READS IS OF BULK AT MOST 1048576: true; the input reads as it did. -/
def fnFirstPointsUptoRow : OpenClaim := { program := "ytidhhiedcblaaaa", sum := "8bcbbaca405163f9b7b001655f7bc3d5b2bba38b5e7e31450f81aad9ef329fd6", func := "loop.example/roundturns/laws.FnFirstPoints", spec := "fnFirstPoints", apart := false, narrowed := true }
def FnFirstPointsUptoSaid : Prop := fnFirstPointsUptoRow.holds Try.pinned (OpenSpec.upto fnFirstPointsSpec)

/-- 'laws.FnBothSteps', WHERE WHAT IT READS IS OF BULK AT MOST 1048576: true; the input reads as it did. -/
def fnBothStepsUptoRow : OpenClaim := { program := "ytidhhiedcblaaaa", sum := "8bcbbaca405163f9b7b001655f7bc3d5b2bba38b5e7e31450f81aad9ef329fd6", func := "loop.example/roundturns/laws.FnBothSteps", spec := "fnBothSteps", apart := false, narrowed := true }
def FnBothStepsUptoSaid : Prop := fnBothStepsUptoRow.holds Try.pinned (OpenSpec.upto fnBothStepsSpec)

/-- 'laws.FnExactTurnOk', WHERE WHAT IT READS IS OF BULK AT MOST 1048576: true; the input reads as it did. -/
def fnExactTurnOkUptoRow : OpenClaim := { program := "ytidhhiedcblaaaa", sum := "8bcbbaca405163f9b7b001655f7bc3d5b2bba38b5e7e31450f81aad9ef329fd6", func := "loop.example/roundturns/laws.FnExactTurnOk", spec := "fnExactTurnOk", apart := false, narrowed := true }
def FnExactTurnOkUptoSaid : Prop := fnExactTurnOkUptoRow.holds Try.pinned (OpenSpec.upto fnExactTurnOkSpec)

/-- 'laws.FnExactPointOf', WHERE WHAT IT READS IS OF BULK AT MOST 1048576: true; the input reads as it did. -/
def fnExactPointOfUptoRow : OpenClaim := { program := "ytidhhiedcblaaaa", sum := "8bcbbaca405163f9b7b001655f7bc3d5b2bba38b5e7e31450f81aad9ef329fd6", func := "loop.example/roundturns/laws.FnExactPointOf", spec := "fnExactPointOf", apart := false, narrowed := true }
def FnExactPointOfUptoSaid : Prop := fnExactPointOfUptoRow.holds Try.pinned (OpenSpec.upto fnExactPointOfSpec)

/-- 'laws.FnExactTimeOf', WHERE WHAT IT READS IS OF BULK AT MOST 1048576: true; the input reads as it did. -/
def fnExactTimeOfUptoRow : OpenClaim := { program := "ytidhhiedcblaaaa", sum := "8bcbbaca405163f9b7b001655f7bc3d5b2bba38b5e7e31450f81aad9ef329fd6", func := "loop.example/roundturns/laws.FnExactTimeOf", spec := "fnExactTimeOf", apart := false, narrowed := true }
def FnExactTimeOfUptoSaid : Prop := fnExactTimeOfUptoRow.holds Try.pinned (OpenSpec.upto fnExactTimeOfSpec)

/-- 'laws.FnExactOppositeOf', WHERE WHAT IT READS IS OF BULK AT MOST 1048576: true; the input reads as it did. -/
def fnExactOppositeOfUptoRow : OpenClaim := { program := "ytidhhiedcblaaaa", sum := "8bcbbaca405163f9b7b001655f7bc3d5b2bba38b5e7e31450f81aad9ef329fd6", func := "loop.example/roundturns/laws.FnExactOppositeOf", spec := "fnExactOppositeOf", apart := false, narrowed := true }
def FnExactOppositeOfUptoSaid : Prop := fnExactOppositeOfUptoRow.holds Try.pinned (OpenSpec.upto fnExactOppositeOfSpec)

/-- 'laws.FnExactBackTurn', WHERE WHAT IT READS IS OF BULK AT MOST 1048576: true; the input reads as it did. -/
def fnExactBackTurnUptoRow : OpenClaim := { program := "ytidhhiedcblaaaa", sum := "8bcbbaca405163f9b7b001655f7bc3d5b2bba38b5e7e31450f81aad9ef329fd6", func := "loop.example/roundturns/laws.FnExactBackTurn", spec := "fnExactBackTurn", apart := false, narrowed := true }
def FnExactBackTurnUptoSaid : Prop := fnExactBackTurnUptoRow.holds Try.pinned (OpenSpec.upto fnExactBackTurnSpec)

/-- 'laws.FnExactFirstPoints', WHERE WHAT IT READS IS OF BULK AT MOST 1048576: true; the input reads as it did. -/
def fnExactFirstPointsUptoRow : OpenClaim := { program := "ytidhhiedcblaaaa", sum := "8bcbbaca405163f9b7b001655f7bc3d5b2bba38b5e7e31450f81aad9ef329fd6", func := "loop.example/roundturns/laws.FnExactFirstPoints", spec := "fnExactFirstPoints", apart := false, narrowed := true }
def FnExactFirstPointsUptoSaid : Prop := fnExactFirstPointsUptoRow.holds Try.pinned (OpenSpec.upto fnExactFirstPointsSpec)

/-- 'laws.FnExactBothSteps', WHERE WHAT IT READS IS OF BULK AT MOST 1048576: true; the input reads as it did. -/
def fnExactBothStepsUptoRow : OpenClaim := { program := "ytidhhiedcblaaaa", sum := "8bcbbaca405163f9b7b001655f7bc3d5b2bba38b5e7e31450f81aad9ef329fd6", func := "loop.example/roundturns/laws.FnExactBothSteps", spec := "fnExactBothSteps", apart := false, narrowed := true }
def FnExactBothStepsUptoSaid : Prop := fnExactBothStepsUptoRow.holds Try.pinned (OpenSpec.upto fnExactBothStepsSpec)

end Rows
end Go.Proofs.Ytidhhiedcblaaaa
