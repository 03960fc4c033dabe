/-
  No cell of these rows narrows 'for every input' (looked for: loops, veiled, ifaces, maps, wideKeys, modest, calm, conditions, laid).
  DERIVED. THE GIVEN ROWS OF THIS SEAT. 14 by the template 'for every input the law returns true; each argument reads behind the call as it read before'; 0 by the template 'total and deterministic' (their statements: YtppahekbgbbidaaTotals.lean).
  GIVEN WITH THE SEED: the statements are not yours to turn. If you find one false, say at which input.
  Laid BY PROGRAM, IN A SANDBOX (cutbox-rows.mjs): the forced cells as the released guide's own fill.sh prints them over the translation c058e3200123c1f4… (all of the seat's roots in one cut). By AI agents, Wed Nov 11 2026. No macro, syntax, notation, axiom, sorry.
-/
import Derived.Test.YtppahekbgbbidaaChecked
import GoSem.Claim
import GoSem.ClaimJoined
import GoSem.ClaimMapViews
import Derived.JoinedTies
import Derived.KernelRfl
namespace Go.Proofs.Ytppahekbgbbidaa
/- THE CELL 'sum', in the pinned program and in every row, IS THE sha256 OF THE DUMP (.gsa) THAT YtppahekbgbbidaaProg.lean LOADS. Nothing in Lean hashes anything: it is a label: what it is worth is what the hold of that sum in a sandbox is worth. -/
noncomputable def Try.pinned : Pinned := { name := "ytppahekbgbbidaa", sum := "c058e3200123c1f42ff269980da62bb22f8ae87401403b932214ecf672845a97", checked := Try.checked }
namespace Rows
def none {H : Type} : Left H := { results := [], args := [] }

/-- 'laws.FnBackTurn': WHATEVER THE INPUT: true; the input reads as it did. -/
def fnBackTurnSpec : ChangeSpec := { name := "fnBackTurn", fn := fun _ => fun
  | [d] => { results := [.lit (.bool true)], args := [d] }
  | _ => none }
def fnBackTurnRow : OpenClaim := { program := "ytppahekbgbbidaa", sum := "c058e3200123c1f42ff269980da62bb22f8ae87401403b932214ecf672845a97", func := "loop.example/roundturns/laws.FnBackTurn", spec := "fnBackTurn", apart := false }
def FnBackTurnSaid : Prop := fnBackTurnRow.holds Try.pinned (OpenSpec.ofChange fnBackTurnSpec)

/-- ITS FALSE NEIGHBOUR: 'it returns false'. Refute it at one input. -/
def fnBackTurnWrong : ChangeSpec := { name := "fnBackTurn", fn := fun _ => fun
  | [d] => { results := [.lit (.bool false)], args := [d] }
  | _ => none }
def FnBackTurnWrongFalsely : Prop := fnBackTurnRow.holds Try.pinned (OpenSpec.ofChange fnBackTurnWrong)

/-- 'laws.FnBothSteps': WHATEVER THE INPUT: true; the input reads as it did. -/
def fnBothStepsSpec : ChangeSpec := { name := "fnBothSteps", fn := fun _ => fun
  | [d] => { results := [.lit (.bool true)], args := [d] }
  | _ => none }
def fnBothStepsRow : OpenClaim := { program := "ytppahekbgbbidaa", sum := "c058e3200123c1f42ff269980da62bb22f8ae87401403b932214ecf672845a97", func := "loop.example/roundturns/laws.FnBothSteps", spec := "fnBothSteps", apart := false }
def FnBothStepsSaid : Prop := fnBothStepsRow.holds Try.pinned (OpenSpec.ofChange fnBothStepsSpec)

/-- ITS FALSE NEIGHBOUR: 'it returns false'. Refute it at one input. -/
def fnBothStepsWrong : ChangeSpec := { name := "fnBothSteps", fn := fun _ => fun
  | [d] => { results := [.lit (.bool false)], args := [d] }
  | _ => none }
def FnBothStepsWrongFalsely : Prop := fnBothStepsRow.holds Try.pinned (OpenSpec.ofChange fnBothStepsWrong)

/-- 'laws.FnExactOppositeOf': WHATEVER THE INPUT: true; the input reads as it did. -/
def fnExactOppositeOfSpec : ChangeSpec := { name := "fnExactOppositeOf", fn := fun _ => fun
  | [d] => { results := [.lit (.bool true)], args := [d] }
  | _ => none }
def fnExactOppositeOfRow : OpenClaim := { program := "ytppahekbgbbidaa", sum := "c058e3200123c1f42ff269980da62bb22f8ae87401403b932214ecf672845a97", func := "loop.example/roundturns/laws.FnExactOppositeOf", spec := "fnExactOppositeOf", apart := false }
def FnExactOppositeOfSaid : Prop := fnExactOppositeOfRow.holds Try.pinned (OpenSpec.ofChange fnExactOppositeOfSpec)

/-- ITS FALSE NEIGHBOUR: 'it returns false'. Refute it at one input. -/
def fnExactOppositeOfWrong : ChangeSpec := { name := "fnExactOppositeOf", fn := fun _ => fun
  | [d] => { results := [.lit (.bool false)], args := [d] }
  | _ => none }
def FnExactOppositeOfWrongFalsely : Prop := fnExactOppositeOfRow.holds Try.pinned (OpenSpec.ofChange fnExactOppositeOfWrong)

/-- 'laws.FnExactPointOf': WHATEVER THE INPUT: true; the input reads as it did. -/
def fnExactPointOfSpec : ChangeSpec := { name := "fnExactPointOf", fn := fun _ => fun
  | [d1, d2] => { results := [.lit (.bool true)], args := [d1, d2] }
  | _ => none }
def fnExactPointOfRow : OpenClaim := { program := "ytppahekbgbbidaa", sum := "c058e3200123c1f42ff269980da62bb22f8ae87401403b932214ecf672845a97", func := "loop.example/roundturns/laws.FnExactPointOf", spec := "fnExactPointOf", apart := false }
def FnExactPointOfSaid : Prop := fnExactPointOfRow.holds Try.pinned (OpenSpec.ofChange fnExactPointOfSpec)

/-- ITS FALSE NEIGHBOUR: 'it returns false'. Refute it at one input. -/
def fnExactPointOfWrong : ChangeSpec := { name := "fnExactPointOf", fn := fun _ => fun
  | [d1, d2] => { results := [.lit (.bool false)], args := [d1, d2] }
  | _ => none }
def FnExactPointOfWrongFalsely : Prop := fnExactPointOfRow.holds Try.pinned (OpenSpec.ofChange fnExactPointOfWrong)

/-- 'laws.FnExactTimeOf': WHATEVER THE INPUT: true; the input reads as it did. -/
def fnExactTimeOfSpec : ChangeSpec := { name := "fnExactTimeOf", fn := fun _ => fun
  | [d1, d2] => { results := [.lit (.bool true)], args := [d1, d2] }
  | _ => none }
def fnExactTimeOfRow : OpenClaim := { program := "ytppahekbgbbidaa", sum := "c058e3200123c1f42ff269980da62bb22f8ae87401403b932214ecf672845a97", func := "loop.example/roundturns/laws.FnExactTimeOf", spec := "fnExactTimeOf", apart := false }
def FnExactTimeOfSaid : Prop := fnExactTimeOfRow.holds Try.pinned (OpenSpec.ofChange fnExactTimeOfSpec)

/-- ITS FALSE NEIGHBOUR: 'it returns false'. Refute it at one input. -/
def fnExactTimeOfWrong : ChangeSpec := { name := "fnExactTimeOf", fn := fun _ => fun
  | [d1, d2] => { results := [.lit (.bool false)], args := [d1, d2] }
  | _ => none }
def FnExactTimeOfWrongFalsely : Prop := fnExactTimeOfRow.holds Try.pinned (OpenSpec.ofChange fnExactTimeOfWrong)

/-- 'laws.FnOppositeOf': WHATEVER THE INPUT: true; the input reads as it did. -/
def fnOppositeOfSpec : ChangeSpec := { name := "fnOppositeOf", fn := fun _ => fun
  | [d] => { results := [.lit (.bool true)], args := [d] }
  | _ => none }
def fnOppositeOfRow : OpenClaim := { program := "ytppahekbgbbidaa", sum := "c058e3200123c1f42ff269980da62bb22f8ae87401403b932214ecf672845a97", func := "loop.example/roundturns/laws.FnOppositeOf", spec := "fnOppositeOf", apart := false }
def FnOppositeOfSaid : Prop := fnOppositeOfRow.holds Try.pinned (OpenSpec.ofChange fnOppositeOfSpec)

/-- ITS FALSE NEIGHBOUR: 'it returns false'. Refute it at one input. -/
def fnOppositeOfWrong : ChangeSpec := { name := "fnOppositeOf", fn := fun _ => fun
  | [d] => { results := [.lit (.bool false)], args := [d] }
  | _ => none }
def FnOppositeOfWrongFalsely : Prop := fnOppositeOfRow.holds Try.pinned (OpenSpec.ofChange fnOppositeOfWrong)

/-- 'laws.FnPointOf': WHATEVER THE INPUT: true; the input reads as it did. -/
def fnPointOfSpec : ChangeSpec := { name := "fnPointOf", fn := fun _ => fun
  | [d] => { results := [.lit (.bool true)], args := [d] }
  | _ => none }
def fnPointOfRow : OpenClaim := { program := "ytppahekbgbbidaa", sum := "c058e3200123c1f42ff269980da62bb22f8ae87401403b932214ecf672845a97", func := "loop.example/roundturns/laws.FnPointOf", spec := "fnPointOf", apart := false }
def FnPointOfSaid : Prop := fnPointOfRow.holds Try.pinned (OpenSpec.ofChange fnPointOfSpec)

/-- ITS FALSE NEIGHBOUR: 'it returns false'. Refute it at one input. -/
def fnPointOfWrong : ChangeSpec := { name := "fnPointOf", fn := fun _ => fun
  | [d] => { results := [.lit (.bool false)], args := [d] }
  | _ => none }
def FnPointOfWrongFalsely : Prop := fnPointOfRow.holds Try.pinned (OpenSpec.ofChange fnPointOfWrong)

/-- 'laws.FnTimeOf': WHATEVER THE INPUT: true; the input reads as it did. -/
def fnTimeOfSpec : ChangeSpec := { name := "fnTimeOf", fn := fun _ => fun
  | [d] => { results := [.lit (.bool true)], args := [d] }
  | _ => none }
def fnTimeOfRow : OpenClaim := { program := "ytppahekbgbbidaa", sum := "c058e3200123c1f42ff269980da62bb22f8ae87401403b932214ecf672845a97", func := "loop.example/roundturns/laws.FnTimeOf", spec := "fnTimeOf", apart := false }
def FnTimeOfSaid : Prop := fnTimeOfRow.holds Try.pinned (OpenSpec.ofChange fnTimeOfSpec)

/-- ITS FALSE NEIGHBOUR: 'it returns false'. Refute it at one input. -/
def fnTimeOfWrong : ChangeSpec := { name := "fnTimeOf", fn := fun _ => fun
  | [d] => { results := [.lit (.bool false)], args := [d] }
  | _ => none }
def FnTimeOfWrongFalsely : Prop := fnTimeOfRow.holds Try.pinned (OpenSpec.ofChange fnTimeOfWrong)

/-- 'laws.FnExactGapsBy': WHATEVER THE INPUT: true; the input reads as it did. -/
def fnExactGapsBySpec : ChangeSpec := { name := "fnExactGapsBy", fn := fun _ => fun
  | [d1, d2] => { results := [.lit (.bool true)], args := [d1, d2] }
  | _ => none }
def fnExactGapsByRow : OpenClaim := { program := "ytppahekbgbbidaa", sum := "c058e3200123c1f42ff269980da62bb22f8ae87401403b932214ecf672845a97", func := "loop.example/roundturns/laws.FnExactGapsBy", spec := "fnExactGapsBy", apart := false }
def FnExactGapsBySaid : Prop := fnExactGapsByRow.holds Try.pinned (OpenSpec.ofChange fnExactGapsBySpec)

/-- ITS FALSE NEIGHBOUR: 'it returns false'. Refute it at one input. -/
def fnExactGapsByWrong : ChangeSpec := { name := "fnExactGapsBy", fn := fun _ => fun
  | [d1, d2] => { results := [.lit (.bool false)], args := [d1, d2] }
  | _ => none }
def FnExactGapsByWrongFalsely : Prop := fnExactGapsByRow.holds Try.pinned (OpenSpec.ofChange fnExactGapsByWrong)

/-- 'laws.FnGapParted': WHATEVER THE INPUT: true; the input reads as it did. -/
def fnGapPartedSpec : ChangeSpec := { name := "fnGapParted", fn := fun _ => fun
  | [d] => { results := [.lit (.bool true)], args := [d] }
  | _ => none }
def fnGapPartedRow : OpenClaim := { program := "ytppahekbgbbidaa", sum := "c058e3200123c1f42ff269980da62bb22f8ae87401403b932214ecf672845a97", func := "loop.example/roundturns/laws.FnGapParted", spec := "fnGapParted", apart := false }
def FnGapPartedSaid : Prop := fnGapPartedRow.holds Try.pinned (OpenSpec.ofChange fnGapPartedSpec)

/-- ITS FALSE NEIGHBOUR: 'it returns false'. Refute it at one input. -/
def fnGapPartedWrong : ChangeSpec := { name := "fnGapParted", fn := fun _ => fun
  | [d] => { results := [.lit (.bool false)], args := [d] }
  | _ => none }
def FnGapPartedWrongFalsely : Prop := fnGapPartedRow.holds Try.pinned (OpenSpec.ofChange fnGapPartedWrong)

/-- 'laws.FnGapsBy': WHATEVER THE INPUT: true; the input reads as it did. -/
def fnGapsBySpec : ChangeSpec := { name := "fnGapsBy", fn := fun _ => fun
  | [d] => { results := [.lit (.bool true)], args := [d] }
  | _ => none }
def fnGapsByRow : OpenClaim := { program := "ytppahekbgbbidaa", sum := "c058e3200123c1f42ff269980da62bb22f8ae87401403b932214ecf672845a97", func := "loop.example/roundturns/laws.FnGapsBy", spec := "fnGapsBy", apart := false }
def FnGapsBySaid : Prop := fnGapsByRow.holds Try.pinned (OpenSpec.ofChange fnGapsBySpec)

/-- ITS FALSE NEIGHBOUR: 'it returns false'. Refute it at one input. -/
def fnGapsByWrong : ChangeSpec := { name := "fnGapsBy", fn := fun _ => fun
  | [d] => { results := [.lit (.bool false)], args := [d] }
  | _ => none }
def FnGapsByWrongFalsely : Prop := fnGapsByRow.holds Try.pinned (OpenSpec.ofChange fnGapsByWrong)

/-- 'laws.FnGapsLong': WHATEVER THE INPUT: true; the input reads as it did. -/
def fnGapsLongSpec : ChangeSpec := { name := "fnGapsLong", fn := fun _ => fun
  | [d] => { results := [.lit (.bool true)], args := [d] }
  | _ => none }
def fnGapsLongRow : OpenClaim := { program := "ytppahekbgbbidaa", sum := "c058e3200123c1f42ff269980da62bb22f8ae87401403b932214ecf672845a97", func := "loop.example/roundturns/laws.FnGapsLong", spec := "fnGapsLong", apart := false }
def FnGapsLongSaid : Prop := fnGapsLongRow.holds Try.pinned (OpenSpec.ofChange fnGapsLongSpec)

/-- ITS FALSE NEIGHBOUR: 'it returns false'. Refute it at one input. -/
def fnGapsLongWrong : ChangeSpec := { name := "fnGapsLong", fn := fun _ => fun
  | [d] => { results := [.lit (.bool false)], args := [d] }
  | _ => none }
def FnGapsLongWrongFalsely : Prop := fnGapsLongRow.holds Try.pinned (OpenSpec.ofChange fnGapsLongWrong)

/-- 'laws.FnNearAbove': WHATEVER THE INPUT: true; the input reads as it did. -/
def fnNearAboveSpec : ChangeSpec := { name := "fnNearAbove", fn := fun _ => fun
  | [d] => { results := [.lit (.bool true)], args := [d] }
  | _ => none }
def fnNearAboveRow : OpenClaim := { program := "ytppahekbgbbidaa", sum := "c058e3200123c1f42ff269980da62bb22f8ae87401403b932214ecf672845a97", func := "loop.example/roundturns/laws.FnNearAbove", spec := "fnNearAbove", apart := false }
def FnNearAboveSaid : Prop := fnNearAboveRow.holds Try.pinned (OpenSpec.ofChange fnNearAboveSpec)

/-- ITS FALSE NEIGHBOUR: 'it returns false'. Refute it at one input. -/
def fnNearAboveWrong : ChangeSpec := { name := "fnNearAbove", fn := fun _ => fun
  | [d] => { results := [.lit (.bool false)], args := [d] }
  | _ => none }
def FnNearAboveWrongFalsely : Prop := fnNearAboveRow.holds Try.pinned (OpenSpec.ofChange fnNearAboveWrong)

/-- 'laws.FnNearBelow': WHATEVER THE INPUT: true; the input reads as it did. -/
def fnNearBelowSpec : ChangeSpec := { name := "fnNearBelow", fn := fun _ => fun
  | [d] => { results := [.lit (.bool true)], args := [d] }
  | _ => none }
def fnNearBelowRow : OpenClaim := { program := "ytppahekbgbbidaa", sum := "c058e3200123c1f42ff269980da62bb22f8ae87401403b932214ecf672845a97", func := "loop.example/roundturns/laws.FnNearBelow", spec := "fnNearBelow", apart := false }
def FnNearBelowSaid : Prop := fnNearBelowRow.holds Try.pinned (OpenSpec.ofChange fnNearBelowSpec)

/-- ITS FALSE NEIGHBOUR: 'it returns false'. Refute it at one input. -/
def fnNearBelowWrong : ChangeSpec := { name := "fnNearBelow", fn := fun _ => fun
  | [d] => { results := [.lit (.bool false)], args := [d] }
  | _ => none }
def FnNearBelowWrongFalsely : Prop := fnNearBelowRow.holds Try.pinned (OpenSpec.ofChange fnNearBelowWrong)

/- THE SECOND FORM. 'bulk': how many values and letters a reading holds, each counted each time it is reached (what is shared counts as often as it is met; a slice's spare places count too). A statement '..UptoSaid' is the law's where the arguments, and the package variables that the reading takes, are together of bulk at most 1048576: NARROWER than '..Said'. Prove '..Said' where nothing that the law and all that it calls make is longer than what came in: it says more and counts as full. Else prove '..UptoSaid'. A law counts once. -/
mutual
def uptoBulk {H : Type} : DataW H → Nat
  | .lit (.string bytes) => bytes.length + 1
  | .lit _ => 1
  | .nil => 1
  | .ptr d => uptoBulk d + 1
  | .slice elems spare => uptoBulkAll elems + uptoBulkAll spare + 1
  | .agg parts => uptoBulkAll parts + 1
  | .iface _ d => uptoBulk d + 1
  | .map entries => uptoBulkEntries entries + 1
  | .held _ => 1
def uptoBulkAll {H : Type} : List (DataW H) → Nat
  | [] => 0
  | d :: r => uptoBulk d + uptoBulkAll r
def uptoBulkEntries {H : Type} : List (Lit × DataW H) → Nat
  | [] => 0
  | x :: r => uptoBulkEntry x + uptoBulkEntries r
def uptoBulkEntry {H : Type} : Lit × DataW H → Nat
  | (.string bytes, d) => bytes.length + uptoBulk d + 1
  | (_, d) => uptoBulk d + 1
 end
def uptoSmall : (H : Type) → List (DataW H) → Bool := fun _ ds => decide (uptoBulkAll ds ≤ 1048576)
def OpenSpec.upto (s : _root_.Go.ChangeSpec) : _root_.Go.OpenSpec := { _root_.Go.OpenSpec.ofChange s with cond := some uptoSmall }

/-- 'laws.FnBackTurn', WHERE WHAT IT READS IS OF BULK AT MOST 1048576: true; the input reads as it did. -/
def fnBackTurnUptoRow : OpenClaim := { program := "ytppahekbgbbidaa", sum := "c058e3200123c1f42ff269980da62bb22f8ae87401403b932214ecf672845a97", func := "loop.example/roundturns/laws.FnBackTurn", spec := "fnBackTurn", apart := false, narrowed := true }
def FnBackTurnUptoSaid : Prop := fnBackTurnUptoRow.holds Try.pinned (OpenSpec.upto fnBackTurnSpec)

/-- 'laws.FnBothSteps', WHERE WHAT IT READS IS OF BULK AT MOST 1048576: true; the input reads as it did. -/
def fnBothStepsUptoRow : OpenClaim := { program := "ytppahekbgbbidaa", sum := "c058e3200123c1f42ff269980da62bb22f8ae87401403b932214ecf672845a97", func := "loop.example/roundturns/laws.FnBothSteps", spec := "fnBothSteps", apart := false, narrowed := true }
def FnBothStepsUptoSaid : Prop := fnBothStepsUptoRow.holds Try.pinned (OpenSpec.upto fnBothStepsSpec)

/-- 'laws.FnExactOppositeOf', WHERE WHAT IT READS IS OF BULK AT MOST 1048576: true; the input reads as it did. -/
def fnExactOppositeOfUptoRow : OpenClaim := { program := "ytppahekbgbbidaa", sum := "c058e3200123c1f42ff269980da62bb22f8ae87401403b932214ecf672845a97", func := "loop.example/roundturns/laws.FnExactOppositeOf", spec := "fnExactOppositeOf", apart := false, narrowed := true }
def FnExactOppositeOfUptoSaid : Prop := fnExactOppositeOfUptoRow.holds Try.pinned (OpenSpec.upto fnExactOppositeOfSpec)

/-- 'laws.FnExactPointOf', WHERE WHAT IT READS IS OF BULK AT MOST 1048576: true; the input reads as it did. -/
def fnExactPointOfUptoRow : OpenClaim := { program := "ytppahekbgbbidaa", sum := "c058e3200123c1f42ff269980da62bb22f8ae87401403b932214ecf672845a97", func := "loop.example/roundturns/laws.FnExactPointOf", spec := "fnExactPointOf", apart := false, narrowed := true }
def FnExactPointOfUptoSaid : Prop := fnExactPointOfUptoRow.holds Try.pinned (OpenSpec.upto fnExactPointOfSpec)

/-- 'laws.FnExactTimeOf', WHERE WHAT IT READS IS OF BULK AT MOST 1048576: true; the input reads as it did. -/
def fnExactTimeOfUptoRow : OpenClaim := { program := "ytppahekbgbbidaa", sum := "c058e3200123c1f42ff269980da62bb22f8ae87401403b932214ecf672845a97", func := "loop.example/roundturns/laws.FnExactTimeOf", spec := "fnExactTimeOf", apart := false, narrowed := true }
def FnExactTimeOfUptoSaid : Prop := fnExactTimeOfUptoRow.holds Try.pinned (OpenSpec.upto fnExactTimeOfSpec)

/-- 'laws.FnOppositeOf', WHERE WHAT IT READS IS OF BULK AT MOST 1048576: true; the input reads as it did. -/
def fnOppositeOfUptoRow : OpenClaim := { program := "ytppahekbgbbidaa", sum := "c058e3200123c1f42ff269980da62bb22f8ae87401403b932214ecf672845a97", func := "loop.example/roundturns/laws.FnOppositeOf", spec := "fnOppositeOf", apart := false, narrowed := true }
def FnOppositeOfUptoSaid : Prop := fnOppositeOfUptoRow.holds Try.pinned (OpenSpec.upto fnOppositeOfSpec)

/-- 'laws.FnPointOf', WHERE WHAT IT READS IS OF BULK AT MOST 1048576: true; the input reads as it did. -/
def fnPointOfUptoRow : OpenClaim := { program := "ytppahekbgbbidaa", sum := "c058e3200123c1f42ff269980da62bb22f8ae87401403b932214ecf672845a97", func := "loop.example/roundturns/laws.FnPointOf", spec := "fnPointOf", apart := false, narrowed := true }
def FnPointOfUptoSaid : Prop := fnPointOfUptoRow.holds Try.pinned (OpenSpec.upto fnPointOfSpec)

/-- 'laws.FnTimeOf', WHERE WHAT IT READS IS OF BULK AT MOST 1048576: true; the input reads as it did. -/
def fnTimeOfUptoRow : OpenClaim := { program := "ytppahekbgbbidaa", sum := "c058e3200123c1f42ff269980da62bb22f8ae87401403b932214ecf672845a97", func := "loop.example/roundturns/laws.FnTimeOf", spec := "fnTimeOf", apart := false, narrowed := true }
def FnTimeOfUptoSaid : Prop := fnTimeOfUptoRow.holds Try.pinned (OpenSpec.upto fnTimeOfSpec)

/-- 'laws.FnExactGapsBy', WHERE WHAT IT READS IS OF BULK AT MOST 1048576: true; the input reads as it did. -/
def fnExactGapsByUptoRow : OpenClaim := { program := "ytppahekbgbbidaa", sum := "c058e3200123c1f42ff269980da62bb22f8ae87401403b932214ecf672845a97", func := "loop.example/roundturns/laws.FnExactGapsBy", spec := "fnExactGapsBy", apart := false, narrowed := true }
def FnExactGapsByUptoSaid : Prop := fnExactGapsByUptoRow.holds Try.pinned (OpenSpec.upto fnExactGapsBySpec)

/-- 'laws.FnGapParted', WHERE WHAT IT READS IS OF BULK AT MOST 1048576: true; the input reads as it did. -/
def fnGapPartedUptoRow : OpenClaim := { program := "ytppahekbgbbidaa", sum := "c058e3200123c1f42ff269980da62bb22f8ae87401403b932214ecf672845a97", func := "loop.example/roundturns/laws.FnGapParted", spec := "fnGapParted", apart := false, narrowed := true }
def FnGapPartedUptoSaid : Prop := fnGapPartedUptoRow.holds Try.pinned (OpenSpec.upto fnGapPartedSpec)

/-- 'laws.FnGapsBy', WHERE WHAT IT READS IS OF BULK AT MOST 1048576: true; the input reads as it did. -/
def fnGapsByUptoRow : OpenClaim := { program := "ytppahekbgbbidaa", sum := "c058e3200123c1f42ff269980da62bb22f8ae87401403b932214ecf672845a97", func := "loop.example/roundturns/laws.FnGapsBy", spec := "fnGapsBy", apart := false, narrowed := true }
def FnGapsByUptoSaid : Prop := fnGapsByUptoRow.holds Try.pinned (OpenSpec.upto fnGapsBySpec)

/-- 'laws.FnGapsLong', WHERE WHAT IT READS IS OF BULK AT MOST 1048576: true; the input reads as it did. -/
def fnGapsLongUptoRow : OpenClaim := { program := "ytppahekbgbbidaa", sum := "c058e3200123c1f42ff269980da62bb22f8ae87401403b932214ecf672845a97", func := "loop.example/roundturns/laws.FnGapsLong", spec := "fnGapsLong", apart := false, narrowed := true }
def FnGapsLongUptoSaid : Prop := fnGapsLongUptoRow.holds Try.pinned (OpenSpec.upto fnGapsLongSpec)

/-- 'laws.FnNearAbove', WHERE WHAT IT READS IS OF BULK AT MOST 1048576: true; the input reads as it did. -/
def fnNearAboveUptoRow : OpenClaim := { program := "ytppahekbgbbidaa", sum := "c058e3200123c1f42ff269980da62bb22f8ae87401403b932214ecf672845a97", func := "loop.example/roundturns/laws.FnNearAbove", spec := "fnNearAbove", apart := false, narrowed := true }
def FnNearAboveUptoSaid : Prop := fnNearAboveUptoRow.holds Try.pinned (OpenSpec.upto fnNearAboveSpec)

/-- 'laws.FnNearBelow', WHERE WHAT IT READS IS OF BULK AT MOST 1048576: true; the input reads as it did. -/
def fnNearBelowUptoRow : OpenClaim := { program := "ytppahekbgbbidaa", sum := "c058e3200123c1f42ff269980da62bb22f8ae87401403b932214ecf672845a97", func := "loop.example/roundturns/laws.FnNearBelow", spec := "fnNearBelow", apart := false, narrowed := true }
def FnNearBelowUptoSaid : Prop := fnNearBelowUptoRow.holds Try.pinned (OpenSpec.upto fnNearBelowSpec)

end Rows
end Go.Proofs.Ytppahekbgbbidaa
