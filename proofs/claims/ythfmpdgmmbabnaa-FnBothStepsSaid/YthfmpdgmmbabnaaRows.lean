/-
  No cell of these rows narrows 'for every input' (looked for: loops, veiled, ifaces, maps, wideKeys, modest, calm, conditions, laid).
  DERIVED. THE GIVEN ROWS OF THIS SEAT. 9 by the template 'for every input the law returns true; each argument reads behind the call as it read before'; 0 by the template 'total and deterministic' (their statements: YthfmpdgmmbabnaaTotals.lean).
  GIVEN WITH THE SEED: the statements are not yours to turn. If you find one false, say at which input.
  Laid BY PROGRAM, IN A SANDBOX (cutbox-rows.mjs): the forced cells as the released guide's own fill.sh prints them over the translation 12b6fdf7a8f92873… (all of the seat's roots in one cut). By AI agents, Wed Nov 11 2026. No macro, syntax, notation, axiom, sorry.
-/
import Derived.Test.YthfmpdgmmbabnaaChecked
import GoSem.Claim
import GoSem.ClaimJoined
import GoSem.ClaimMapViews
import Derived.JoinedTies
import Derived.KernelRfl
namespace Go.Proofs.Ythfmpdgmmbabnaa
/- THE CELL 'sum', in the pinned program and in every row, IS THE sha256 OF THE DUMP (.gsa) THAT YthfmpdgmmbabnaaProg.lean LOADS. Nothing in Lean hashes anything: it is a label: what it is worth is what the hold of that sum in a sandbox is worth. -/
noncomputable def Try.pinned : Pinned := { name := "ythfmpdgmmbabnaa", sum := "12b6fdf7a8f92873e4246618696a9856e052a5b6a9fc2068e97fe89e661ee89d", checked := Try.checked }
namespace Rows
def none {H : Type} : Left H := { results := [], args := [] }

/-- 'laws.FnBothSteps': WHATEVER THE INPUT: true; the input reads as it did. -/
def fnBothStepsSpec : ChangeSpec := { name := "fnBothSteps", fn := fun _ => fun
  | [d] => { results := [.lit (.bool true)], args := [d] }
  | _ => none }
def fnBothStepsRow : OpenClaim := { program := "ythfmpdgmmbabnaa", sum := "12b6fdf7a8f92873e4246618696a9856e052a5b6a9fc2068e97fe89e661ee89d", func := "loop.example/roundturns/laws.FnBothSteps", spec := "fnBothSteps", apart := false }
def FnBothStepsSaid : Prop := fnBothStepsRow.holds Try.pinned (OpenSpec.ofChange fnBothStepsSpec)

/-- ITS FALSE NEIGHBOUR: 'it returns false'. Refute it at one input. -/
def fnBothStepsWrong : ChangeSpec := { name := "fnBothSteps", fn := fun _ => fun
  | [d] => { results := [.lit (.bool false)], args := [d] }
  | _ => none }
def FnBothStepsWrongFalsely : Prop := fnBothStepsRow.holds Try.pinned (OpenSpec.ofChange fnBothStepsWrong)

/-- 'laws.FnExactBothSteps': WHATEVER THE INPUT: true; the input reads as it did. -/
def fnExactBothStepsSpec : ChangeSpec := { name := "fnExactBothSteps", fn := fun _ => fun
  | [d1, d2] => { results := [.lit (.bool true)], args := [d1, d2] }
  | _ => none }
def fnExactBothStepsRow : OpenClaim := { program := "ythfmpdgmmbabnaa", sum := "12b6fdf7a8f92873e4246618696a9856e052a5b6a9fc2068e97fe89e661ee89d", func := "loop.example/roundturns/laws.FnExactBothSteps", spec := "fnExactBothSteps", apart := false }
def FnExactBothStepsSaid : Prop := fnExactBothStepsRow.holds Try.pinned (OpenSpec.ofChange fnExactBothStepsSpec)

/-- ITS FALSE NEIGHBOUR: 'it returns false'. Refute it at one input. -/
def fnExactBothStepsWrong : ChangeSpec := { name := "fnExactBothSteps", fn := fun _ => fun
  | [d1, d2] => { results := [.lit (.bool false)], args := [d1, d2] }
  | _ => none }
def FnExactBothStepsWrongFalsely : Prop := fnExactBothStepsRow.holds Try.pinned (OpenSpec.ofChange fnExactBothStepsWrong)

/-- 'laws.FnGapsOf': WHATEVER THE INPUT: true; the input reads as it did. -/
def fnGapsOfSpec : ChangeSpec := { name := "fnGapsOf", fn := fun _ => fun
  | [d] => { results := [.lit (.bool true)], args := [d] }
  | _ => none }
def fnGapsOfRow : OpenClaim := { program := "ythfmpdgmmbabnaa", sum := "12b6fdf7a8f92873e4246618696a9856e052a5b6a9fc2068e97fe89e661ee89d", func := "loop.example/roundturns/laws.FnGapsOf", spec := "fnGapsOf", apart := false }
def FnGapsOfSaid : Prop := fnGapsOfRow.holds Try.pinned (OpenSpec.ofChange fnGapsOfSpec)

/-- ITS FALSE NEIGHBOUR: 'it returns false'. Refute it at one input. -/
def fnGapsOfWrong : ChangeSpec := { name := "fnGapsOf", fn := fun _ => fun
  | [d] => { results := [.lit (.bool false)], args := [d] }
  | _ => none }
def FnGapsOfWrongFalsely : Prop := fnGapsOfRow.holds Try.pinned (OpenSpec.ofChange fnGapsOfWrong)

/-- 'laws.FnKindsOf': WHATEVER THE INPUT: true; the input reads as it did. -/
def fnKindsOfSpec : ChangeSpec := { name := "fnKindsOf", fn := fun _ => fun
  | [d] => { results := [.lit (.bool true)], args := [d] }
  | _ => none }
def fnKindsOfRow : OpenClaim := { program := "ythfmpdgmmbabnaa", sum := "12b6fdf7a8f92873e4246618696a9856e052a5b6a9fc2068e97fe89e661ee89d", func := "loop.example/roundturns/laws.FnKindsOf", spec := "fnKindsOf", apart := false }
def FnKindsOfSaid : Prop := fnKindsOfRow.holds Try.pinned (OpenSpec.ofChange fnKindsOfSpec)

/-- ITS FALSE NEIGHBOUR: 'it returns false'. Refute it at one input. -/
def fnKindsOfWrong : ChangeSpec := { name := "fnKindsOf", fn := fun _ => fun
  | [d] => { results := [.lit (.bool false)], args := [d] }
  | _ => none }
def FnKindsOfWrongFalsely : Prop := fnKindsOfRow.holds Try.pinned (OpenSpec.ofChange fnKindsOfWrong)

/-- 'laws.FnGapsLong': WHATEVER THE INPUT: true; the input reads as it did. -/
def fnGapsLongSpec : ChangeSpec := { name := "fnGapsLong", fn := fun _ => fun
  | [d] => { results := [.lit (.bool true)], args := [d] }
  | _ => none }
def fnGapsLongRow : OpenClaim := { program := "ythfmpdgmmbabnaa", sum := "12b6fdf7a8f92873e4246618696a9856e052a5b6a9fc2068e97fe89e661ee89d", func := "loop.example/roundturns/laws.FnGapsLong", spec := "fnGapsLong", apart := false }
def FnGapsLongSaid : Prop := fnGapsLongRow.holds Try.pinned (OpenSpec.ofChange fnGapsLongSpec)

/-- ITS FALSE NEIGHBOUR: 'it returns false'. Refute it at one input. -/
def fnGapsLongWrong : ChangeSpec := { name := "fnGapsLong", fn := fun _ => fun
  | [d] => { results := [.lit (.bool false)], args := [d] }
  | _ => none }
def FnGapsLongWrongFalsely : Prop := fnGapsLongRow.holds Try.pinned (OpenSpec.ofChange fnGapsLongWrong)

/-- 'laws.FnGapParted': WHATEVER THE INPUT: true; the input reads as it did. -/
def fnGapPartedSpec : ChangeSpec := { name := "fnGapParted", fn := fun _ => fun
  | [d] => { results := [.lit (.bool true)], args := [d] }
  | _ => none }
def fnGapPartedRow : OpenClaim := { program := "ythfmpdgmmbabnaa", sum := "12b6fdf7a8f92873e4246618696a9856e052a5b6a9fc2068e97fe89e661ee89d", func := "loop.example/roundturns/laws.FnGapParted", spec := "fnGapParted", apart := false }
def FnGapPartedSaid : Prop := fnGapPartedRow.holds Try.pinned (OpenSpec.ofChange fnGapPartedSpec)

/-- ITS FALSE NEIGHBOUR: 'it returns false'. Refute it at one input. -/
def fnGapPartedWrong : ChangeSpec := { name := "fnGapParted", fn := fun _ => fun
  | [d] => { results := [.lit (.bool false)], args := [d] }
  | _ => none }
def FnGapPartedWrongFalsely : Prop := fnGapPartedRow.holds Try.pinned (OpenSpec.ofChange fnGapPartedWrong)

/-- 'laws.FnExactGapsOf': WHATEVER THE INPUT: true; the input reads as it did. -/
def fnExactGapsOfSpec : ChangeSpec := { name := "fnExactGapsOf", fn := fun _ => fun
  | [d1, d2] => { results := [.lit (.bool true)], args := [d1, d2] }
  | _ => none }
def fnExactGapsOfRow : OpenClaim := { program := "ythfmpdgmmbabnaa", sum := "12b6fdf7a8f92873e4246618696a9856e052a5b6a9fc2068e97fe89e661ee89d", func := "loop.example/roundturns/laws.FnExactGapsOf", spec := "fnExactGapsOf", apart := false }
def FnExactGapsOfSaid : Prop := fnExactGapsOfRow.holds Try.pinned (OpenSpec.ofChange fnExactGapsOfSpec)

/-- ITS FALSE NEIGHBOUR: 'it returns false'. Refute it at one input. -/
def fnExactGapsOfWrong : ChangeSpec := { name := "fnExactGapsOf", fn := fun _ => fun
  | [d1, d2] => { results := [.lit (.bool false)], args := [d1, d2] }
  | _ => none }
def FnExactGapsOfWrongFalsely : Prop := fnExactGapsOfRow.holds Try.pinned (OpenSpec.ofChange fnExactGapsOfWrong)

/-- 'laws.FnExactKindsOf': WHATEVER THE INPUT: true; the input reads as it did. -/
def fnExactKindsOfSpec : ChangeSpec := { name := "fnExactKindsOf", fn := fun _ => fun
  | [d1, d2] => { results := [.lit (.bool true)], args := [d1, d2] }
  | _ => none }
def fnExactKindsOfRow : OpenClaim := { program := "ythfmpdgmmbabnaa", sum := "12b6fdf7a8f92873e4246618696a9856e052a5b6a9fc2068e97fe89e661ee89d", func := "loop.example/roundturns/laws.FnExactKindsOf", spec := "fnExactKindsOf", apart := false }
def FnExactKindsOfSaid : Prop := fnExactKindsOfRow.holds Try.pinned (OpenSpec.ofChange fnExactKindsOfSpec)

/-- ITS FALSE NEIGHBOUR: 'it returns false'. Refute it at one input. -/
def fnExactKindsOfWrong : ChangeSpec := { name := "fnExactKindsOf", fn := fun _ => fun
  | [d1, d2] => { results := [.lit (.bool false)], args := [d1, d2] }
  | _ => none }
def FnExactKindsOfWrongFalsely : Prop := fnExactKindsOfRow.holds Try.pinned (OpenSpec.ofChange fnExactKindsOfWrong)

/-- 'laws.FnExactGapsLong': WHATEVER THE INPUT: true; the input reads as it did. -/
def fnExactGapsLongSpec : ChangeSpec := { name := "fnExactGapsLong", fn := fun _ => fun
  | [d1, d2, d3] => { results := [.lit (.bool true)], args := [d1, d2, d3] }
  | _ => none }
def fnExactGapsLongRow : OpenClaim := { program := "ythfmpdgmmbabnaa", sum := "12b6fdf7a8f92873e4246618696a9856e052a5b6a9fc2068e97fe89e661ee89d", func := "loop.example/roundturns/laws.FnExactGapsLong", spec := "fnExactGapsLong", apart := false }
def FnExactGapsLongSaid : Prop := fnExactGapsLongRow.holds Try.pinned (OpenSpec.ofChange fnExactGapsLongSpec)

/-- ITS FALSE NEIGHBOUR: 'it returns false'. Refute it at one input. -/
def fnExactGapsLongWrong : ChangeSpec := { name := "fnExactGapsLong", fn := fun _ => fun
  | [d1, d2, d3] => { results := [.lit (.bool false)], args := [d1, d2, d3] }
  | _ => none }
def FnExactGapsLongWrongFalsely : Prop := fnExactGapsLongRow.holds Try.pinned (OpenSpec.ofChange fnExactGapsLongWrong)

/- THE SECOND FORM. 'bulk': how many values and letters a reading holds, each counted each time it is reached (what is shared counts as often as it is met; a slice's spare places count too). A statement '..UptoSaid' is the law's where the arguments, and the package variables that the reading takes, are together of bulk at most 1048576: NARROWER than '..Said'. Prove '..Said' where nothing that the law and all that it calls make is longer than what came in: it says more and counts as full. Else prove '..UptoSaid'. A law counts once. -/
mutual
def uptoBulk {H : Type} : DataW H → Nat
  | .lit (.string bytes) => bytes.length + 1
  | .lit _ => 1
  | .nil => 1
  | .ptr d => uptoBulk d + 1
  | .slice elems spare => uptoBulkAll elems + uptoBulkAll spare + 1
  | .agg parts => uptoBulkAll parts + 1
  | .iface _ d => uptoBulk d + 1
  | .map entries => uptoBulkEntries entries + 1
  | .held _ => 1
def uptoBulkAll {H : Type} : List (DataW H) → Nat
  | [] => 0
  | d :: r => uptoBulk d + uptoBulkAll r
def uptoBulkEntries {H : Type} : List (Lit × DataW H) → Nat
  | [] => 0
  | x :: r => uptoBulkEntry x + uptoBulkEntries r
def uptoBulkEntry {H : Type} : Lit × DataW H → Nat
  | (.string bytes, d) => bytes.length + uptoBulk d + 1
  | (_, d) => uptoBulk d + 1
 end
def uptoSmall : (H : Type) → List (DataW H) → Bool := fun _ ds => decide (uptoBulkAll ds ≤ 1048576)
def OpenSpec.upto (s : _root_.Go.ChangeSpec) : _root_.Go.OpenSpec := { _root_.Go.OpenSpec.ofChange s with cond := some uptoSmall }

/-- 'laws.FnBothSteps', WHERE WHAT IT READS IS OF BULK AT MOST 1048576: true; the input reads as it did. -/
def fnBothStepsUptoRow : OpenClaim := { program := "ythfmpdgmmbabnaa", sum := "12b6fdf7a8f92873e4246618696a9856e052a5b6a9fc2068e97fe89e661ee89d", func := "loop.example/roundturns/laws.FnBothSteps", spec := "fnBothSteps", apart := false, narrowed := true }
def FnBothStepsUptoSaid : Prop := fnBothStepsUptoRow.holds Try.pinned (OpenSpec.upto fnBothStepsSpec)

/-- 'laws.FnExactBothSteps', WHERE WHAT IT READS IS OF BULK AT MOST 1048576: true; the input reads as it did. -/
def fnExactBothStepsUptoRow : OpenClaim := { program := "ythfmpdgmmbabnaa", sum := "12b6fdf7a8f92873e4246618696a9856e052a5b6a9fc2068e97fe89e661ee89d", func := "loop.example/roundturns/laws.FnExactBothSteps", spec := "fnExactBothSteps", apart := false, narrowed := true }
def FnExactBothStepsUptoSaid : Prop := fnExactBothStepsUptoRow.holds Try.pinned (OpenSpec.upto fnExactBothStepsSpec)

/-- 'laws.FnGapsOf', WHERE WHAT IT READS IS OF BULK AT MOST 1048576: true; the input reads as it did. -/
def fnGapsOfUptoRow : OpenClaim := { program := "ythfmpdgmmbabnaa", sum := "12b6fdf7a8f92873e4246618696a9856e052a5b6a9fc2068e97fe89e661ee89d", func := "loop.example/roundturns/laws.FnGapsOf", spec := "fnGapsOf", apart := false, narrowed := true }
def FnGapsOfUptoSaid : Prop := fnGapsOfUptoRow.holds Try.pinned (OpenSpec.upto fnGapsOfSpec)

/-- 'laws.FnKindsOf', WHERE WHAT IT READS IS OF BULK AT MOST 1048576: true; the input reads as it did. -/
def fnKindsOfUptoRow : OpenClaim := { program := "ythfmpdgmmbabnaa", sum := "12b6fdf7a8f92873e4246618696a9856e052a5b6a9fc2068e97fe89e661ee89d", func := "loop.example/roundturns/laws.FnKindsOf", spec := "fnKindsOf", apart := false, narrowed := true }
def FnKindsOfUptoSaid : Prop := fnKindsOfUptoRow.holds Try.pinned (OpenSpec.upto fnKindsOfSpec)

/-- 'laws.FnGapsLong', WHERE WHAT IT READS IS OF BULK AT MOST 1048576: true; the input reads as it did. -/
def fnGapsLongUptoRow : OpenClaim := { program := "ythfmpdgmmbabnaa", sum := "12b6fdf7a8f92873e4246618696a9856e052a5b6a9fc2068e97fe89e661ee89d", func := "loop.example/roundturns/laws.FnGapsLong", spec := "fnGapsLong", apart := false, narrowed := true }
def FnGapsLongUptoSaid : Prop := fnGapsLongUptoRow.holds Try.pinned (OpenSpec.upto fnGapsLongSpec)

/-- 'laws.FnGapParted', WHERE WHAT IT READS IS OF BULK AT MOST 1048576: true; the input reads as it did. -/
def fnGapPartedUptoRow : OpenClaim := { program := "ythfmpdgmmbabnaa", sum := "12b6fdf7a8f92873e4246618696a9856e052a5b6a9fc2068e97fe89e661ee89d", func := "loop.example/roundturns/laws.FnGapParted", spec := "fnGapParted", apart := false, narrowed := true }
def FnGapPartedUptoSaid : Prop := fnGapPartedUptoRow.holds Try.pinned (OpenSpec.upto fnGapPartedSpec)

/-- 'laws.FnExactGapsOf', WHERE WHAT IT READS IS OF BULK AT MOST 1048576: true; the input reads as it did. -/
def fnExactGapsOfUptoRow : OpenClaim := { program := "ythfmpdgmmbabnaa", sum := "12b6fdf7a8f92873e4246618696a9856e052a5b6a9fc2068e97fe89e661ee89d", func := "loop.example/roundturns/laws.FnExactGapsOf", spec := "fnExactGapsOf", apart := false, narrowed := true }
def FnExactGapsOfUptoSaid : Prop := fnExactGapsOfUptoRow.holds Try.pinned (OpenSpec.upto fnExactGapsOfSpec)

/-- 'laws.FnExactKindsOf', WHERE WHAT IT READS IS OF BULK AT MOST 1048576: true; the input reads as it did. -/
def fnExactKindsOfUptoRow : OpenClaim := { program := "ythfmpdgmmbabnaa", sum := "12b6fdf7a8f92873e4246618696a9856e052a5b6a9fc2068e97fe89e661ee89d", func := "loop.example/roundturns/laws.FnExactKindsOf", spec := "fnExactKindsOf", apart := false, narrowed := true }
def FnExactKindsOfUptoSaid : Prop := fnExactKindsOfUptoRow.holds Try.pinned (OpenSpec.upto fnExactKindsOfSpec)

/-- 'laws.FnExactGapsLong', WHERE WHAT IT READS IS OF BULK AT MOST 1048576: true; the input reads as it did. -/
def fnExactGapsLongUptoRow : OpenClaim := { program := "ythfmpdgmmbabnaa", sum := "12b6fdf7a8f92873e4246618696a9856e052a5b6a9fc2068e97fe89e661ee89d", func := "loop.example/roundturns/laws.FnExactGapsLong", spec := "fnExactGapsLong", apart := false, narrowed := true }
def FnExactGapsLongUptoSaid : Prop := fnExactGapsLongUptoRow.holds Try.pinned (OpenSpec.upto fnExactGapsLongSpec)

end Rows
end Go.Proofs.Ythfmpdgmmbabnaa
