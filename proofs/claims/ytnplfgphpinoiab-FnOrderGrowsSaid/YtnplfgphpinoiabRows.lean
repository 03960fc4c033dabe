/-
  No cell of these rows narrows 'for every input' (looked for: loops, veiled, ifaces, maps, wideKeys, modest, calm, conditions, laid).
  DERIVED. THE GIVEN ROWS OF THIS SEAT. 5 by the template 'for every input the law returns true; each argument reads behind the call as it read before'; 0 by the template 'total and deterministic' (their statements: YtnplfgphpinoiabTotals.lean).
  GIVEN WITH THE SEED: the statements are not yours to turn. If you find one false, say at which input.
  Laid BY PROGRAM, IN A SANDBOX (cutbox-rows.mjs): the forced cells as the released guide's own fill.sh prints them over the translation 2f0d04e58c23aee9… (all of the seat's roots in one cut). By AI agents, Wed Nov 11 2026. No macro, syntax, notation, axiom, sorry.
-/
import Derived.Test.YtnplfgphpinoiabChecked
import GoSem.Claim
import GoSem.ClaimJoined
import GoSem.ClaimMapViews
import Derived.JoinedTies
import Derived.KernelRfl
namespace Go.Proofs.Ytnplfgphpinoiab
/- THE CELL 'sum', in the pinned program and in every row, IS THE sha256 OF THE DUMP (.gsa) THAT YtnplfgphpinoiabProg.lean LOADS. Nothing in Lean hashes anything: it is a label: what it is worth is what the hold of that sum in a sandbox is worth. -/
noncomputable def Try.pinned : Pinned := { name := "ytnplfgphpinoiab", sum := "2f0d04e58c23aee9dece157f7de29f0fb25757a944669021c6a9a97f36d6334f", checked := Try.checked }
namespace Rows
def none {H : Type} : Left H := { results := [], args := [] }

/-- 'laws.FnKindsOf': WHATEVER THE INPUT: true; the input reads as it did. -/
def fnKindsOfSpec : ChangeSpec := { name := "fnKindsOf", fn := fun _ => fun
  | [d] => { results := [.lit (.bool true)], args := [d] }
  | _ => none }
def fnKindsOfRow : OpenClaim := { program := "ytnplfgphpinoiab", sum := "2f0d04e58c23aee9dece157f7de29f0fb25757a944669021c6a9a97f36d6334f", func := "loop.example/roundturns/laws.FnKindsOf", spec := "fnKindsOf", apart := false }
def FnKindsOfSaid : Prop := fnKindsOfRow.holds Try.pinned (OpenSpec.ofChange fnKindsOfSpec)

/-- ITS FALSE NEIGHBOUR: 'it returns false'. Refute it at one input. -/
def fnKindsOfWrong : ChangeSpec := { name := "fnKindsOf", fn := fun _ => fun
  | [d] => { results := [.lit (.bool false)], args := [d] }
  | _ => none }
def FnKindsOfWrongFalsely : Prop := fnKindsOfRow.holds Try.pinned (OpenSpec.ofChange fnKindsOfWrong)

/-- 'laws.FnExactKindsOf': WHATEVER THE INPUT: true; the input reads as it did. -/
def fnExactKindsOfSpec : ChangeSpec := { name := "fnExactKindsOf", fn := fun _ => fun
  | [d1, d2] => { results := [.lit (.bool true)], args := [d1, d2] }
  | _ => none }
def fnExactKindsOfRow : OpenClaim := { program := "ytnplfgphpinoiab", sum := "2f0d04e58c23aee9dece157f7de29f0fb25757a944669021c6a9a97f36d6334f", func := "loop.example/roundturns/laws.FnExactKindsOf", spec := "fnExactKindsOf", apart := false }
def FnExactKindsOfSaid : Prop := fnExactKindsOfRow.holds Try.pinned (OpenSpec.ofChange fnExactKindsOfSpec)

/-- ITS FALSE NEIGHBOUR: 'it returns false'. Refute it at one input. -/
def fnExactKindsOfWrong : ChangeSpec := { name := "fnExactKindsOf", fn := fun _ => fun
  | [d1, d2] => { results := [.lit (.bool false)], args := [d1, d2] }
  | _ => none }
def FnExactKindsOfWrongFalsely : Prop := fnExactKindsOfRow.holds Try.pinned (OpenSpec.ofChange fnExactKindsOfWrong)

/-- 'laws.FnGapsLong': WHATEVER THE INPUT: true; the input reads as it did. -/
def fnGapsLongSpec : ChangeSpec := { name := "fnGapsLong", fn := fun _ => fun
  | [d] => { results := [.lit (.bool true)], args := [d] }
  | _ => none }
def fnGapsLongRow : OpenClaim := { program := "ytnplfgphpinoiab", sum := "2f0d04e58c23aee9dece157f7de29f0fb25757a944669021c6a9a97f36d6334f", func := "loop.example/roundturns/laws.FnGapsLong", spec := "fnGapsLong", apart := false }
def FnGapsLongSaid : Prop := fnGapsLongRow.holds Try.pinned (OpenSpec.ofChange fnGapsLongSpec)

/-- ITS FALSE NEIGHBOUR: 'it returns false'. Refute it at one input. -/
def fnGapsLongWrong : ChangeSpec := { name := "fnGapsLong", fn := fun _ => fun
  | [d] => { results := [.lit (.bool false)], args := [d] }
  | _ => none }
def FnGapsLongWrongFalsely : Prop := fnGapsLongRow.holds Try.pinned (OpenSpec.ofChange fnGapsLongWrong)

/-- 'laws.FnGapParted': WHATEVER THE INPUT: true; the input reads as it did. -/
def fnGapPartedSpec : ChangeSpec := { name := "fnGapParted", fn := fun _ => fun
  | [d] => { results := [.lit (.bool true)], args := [d] }
  | _ => none }
def fnGapPartedRow : OpenClaim := { program := "ytnplfgphpinoiab", sum := "2f0d04e58c23aee9dece157f7de29f0fb25757a944669021c6a9a97f36d6334f", func := "loop.example/roundturns/laws.FnGapParted", spec := "fnGapParted", apart := false }
def FnGapPartedSaid : Prop := fnGapPartedRow.holds Try.pinned (OpenSpec.ofChange fnGapPartedSpec)

/-- ITS FALSE NEIGHBOUR: 'it returns false'. Refute it at one input. -/
def fnGapPartedWrong : ChangeSpec := { name := "fnGapParted", fn := fun _ => fun
  | [d] => { results := [.lit (.bool false)], args := [d] }
  | _ => none }
def FnGapPartedWrongFalsely : Prop := fnGapPartedRow.holds Try.pinned (OpenSpec.ofChange fnGapPartedWrong)

/-- 'laws.FnOrderGrows': WHATEVER THE INPUT: true; the input reads as it did. -/
def fnOrderGrowsSpec : ChangeSpec := { name := "fnOrderGrows", fn := fun _ => fun
  | [d] => { results := [.lit (.bool true)], args := [d] }
  | _ => none }
def fnOrderGrowsRow : OpenClaim := { program := "ytnplfgphpinoiab", sum := "2f0d04e58c23aee9dece157f7de29f0fb25757a944669021c6a9a97f36d6334f", func := "loop.example/roundturns/laws.FnOrderGrows", spec := "fnOrderGrows", apart := false }
def FnOrderGrowsSaid : Prop := fnOrderGrowsRow.holds Try.pinned (OpenSpec.ofChange fnOrderGrowsSpec)

/-- ITS FALSE NEIGHBOUR: 'it returns false'. Refute it at one input. -/
def fnOrderGrowsWrong : ChangeSpec := { name := "fnOrderGrows", fn := fun _ => fun
  | [d] => { results := [.lit (.bool false)], args := [d] }
  | _ => none }
def FnOrderGrowsWrongFalsely : Prop := fnOrderGrowsRow.holds Try.pinned (OpenSpec.ofChange fnOrderGrowsWrong)

/- THE SECOND FORM. 'bulk': how many values and letters a reading holds, each counted each time it is reached (what is shared counts as often as it is met; a slice's spare places count too). A statement '..UptoSaid' is the law's where the arguments, and the package variables that the reading takes, are together of bulk at most 1048576: NARROWER than '..Said'. Prove '..Said' where nothing that the law and all that it calls make is longer than what came in: it says more and counts as full. Else prove '..UptoSaid'. A law counts once. -/
mutual
def uptoBulk {H : Type} : DataW H → Nat
  | .lit (.string bytes) => bytes.length + 1
  | .lit _ => 1
  | .nil => 1
  | .ptr d => uptoBulk d + 1
  | .slice elems spare => uptoBulkAll elems + uptoBulkAll spare + 1
  | .agg parts => uptoBulkAll parts + 1
  | .iface _ d => uptoBulk d + 1
  | .map entries => uptoBulkEntries entries + 1
  | .held _ => 1
def uptoBulkAll {H : Type} : List (DataW H) → Nat
  | [] => 0
  | d :: r => uptoBulk d + uptoBulkAll r
def uptoBulkEntries {H : Type} : List (Lit × DataW H) → Nat
  | [] => 0
  | x :: r => uptoBulkEntry x + uptoBulkEntries r
def uptoBulkEntry {H : Type} : Lit × DataW H → Nat
  | (.string bytes, d) => bytes.length + uptoBulk d + 1
  | (_, d) => uptoBulk d + 1
 end
def uptoSmall : (H : Type) → List (DataW H) → Bool := fun _ ds => decide (uptoBulkAll ds ≤ 1048576)
def OpenSpec.upto (s : _root_.Go.ChangeSpec) : _root_.Go.OpenSpec := { _root_.Go.OpenSpec.ofChange s with cond := some uptoSmall }

/-- 'laws.FnKindsOf', WHERE WHAT IT READS IS OF BULK AT MOST 1048576: true; the input reads as it did. -/
def fnKindsOfUptoRow : OpenClaim := { program := "ytnplfgphpinoiab", sum := "2f0d04e58c23aee9dece157f7de29f0fb25757a944669021c6a9a97f36d6334f", func := "loop.example/roundturns/laws.FnKindsOf", spec := "fnKindsOf", apart := false, narrowed := true }
def FnKindsOfUptoSaid : Prop := fnKindsOfUptoRow.holds Try.pinned (OpenSpec.upto fnKindsOfSpec)

/-- 'laws.FnExactKindsOf', WHERE WHAT IT READS IS OF BULK AT MOST 1048576: true; the input reads as it did. -/
def fnExactKindsOfUptoRow : OpenClaim := { program := "ytnplfgphpinoiab", sum := "2f0d04e58c23aee9dece157f7de29f0fb25757a944669021c6a9a97f36d6334f", func := "loop.example/roundturns/laws.FnExactKindsOf", spec := "fnExactKindsOf", apart := false, narrowed := true }
def FnExactKindsOfUptoSaid : Prop := fnExactKindsOfUptoRow.holds Try.pinned (OpenSpec.upto fnExactKindsOfSpec)

/-- 'laws.FnGapsLong', WHERE WHAT IT READS IS OF BULK AT MOST 1048576: true; the input reads as it did. -/
def fnGapsLongUptoRow : OpenClaim := { program := "ytnplfgphpinoiab", sum := "2f0d04e58c23aee9dece157f7de29f0fb25757a944669021c6a9a97f36d6334f", func := "loop.example/roundturns/laws.FnGapsLong", spec := "fnGapsLong", apart := false, narrowed := true }
def FnGapsLongUptoSaid : Prop := fnGapsLongUptoRow.holds Try.pinned (OpenSpec.upto fnGapsLongSpec)

/-- 'laws.FnGapParted', WHERE WHAT IT READS IS OF BULK AT MOST 1048576: true; the input reads as it did. -/
def fnGapPartedUptoRow : OpenClaim := { program := "ytnplfgphpinoiab", sum := "2f0d04e58c23aee9dece157f7de29f0fb25757a944669021c6a9a97f36d6334f", func := "loop.example/roundturns/laws.FnGapParted", spec := "fnGapParted", apart := false, narrowed := true }
def FnGapPartedUptoSaid : Prop := fnGapPartedUptoRow.holds Try.pinned (OpenSpec.upto fnGapPartedSpec)

/-- 'laws.FnOrderGrows', WHERE WHAT IT READS IS OF BULK AT MOST 1048576: true; the input reads as it did. -/
def fnOrderGrowsUptoRow : OpenClaim := { program := "ytnplfgphpinoiab", sum := "2f0d04e58c23aee9dece157f7de29f0fb25757a944669021c6a9a97f36d6334f", func := "loop.example/roundturns/laws.FnOrderGrows", spec := "fnOrderGrows", apart := false, narrowed := true }
def FnOrderGrowsUptoSaid : Prop := fnOrderGrowsUptoRow.holds Try.pinned (OpenSpec.upto fnOrderGrowsSpec)

end Rows
end Go.Proofs.Ytnplfgphpinoiab
