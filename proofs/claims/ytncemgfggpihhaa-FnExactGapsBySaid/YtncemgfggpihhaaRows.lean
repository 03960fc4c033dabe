/-
  No cell of these rows narrows 'for every input' (looked for: loops, veiled, ifaces, maps, wideKeys, modest, calm, conditions, laid).
  DERIVED. THE GIVEN ROWS OF THIS SEAT. 11 by the template 'for every input the law returns true; each argument reads behind the call as it read before'; 0 by the template 'total and deterministic' (their statements: YtncemgfggpihhaaTotals.lean).
  GIVEN WITH THE SEED: the statements are not yours to turn. If you find one false, say at which input.
  Laid BY PROGRAM, IN A SANDBOX (cutbox-rows.mjs): the forced cells as the released guide's own fill.sh prints them over the translation 85df6d2bb768ce6d… (all of the seat's roots in one cut). By AI agents, Wed Nov 11 2026. No macro, syntax, notation, axiom, sorry.
-/
import Derived.Test.YtncemgfggpihhaaChecked
import GoSem.Claim
import GoSem.ClaimJoined
import GoSem.ClaimMapViews
import Derived.JoinedTies
import Derived.KernelRfl
namespace Go.Proofs.Ytncemgfggpihhaa
/- THE CELL 'sum', in the pinned program and in every row, IS THE sha256 OF THE DUMP (.gsa) THAT YtncemgfggpihhaaProg.lean LOADS. Nothing in Lean hashes anything: it is a label: what it is worth is what the hold of that sum in a sandbox is worth. -/
noncomputable def Try.pinned : Pinned := { name := "ytncemgfggpihhaa", sum := "85df6d2bb768ce6d3f590b786a0c1f39d6d6646814b5e39b269337266fbcb48f", checked := Try.checked }
namespace Rows
def none {H : Type} : Left H := { results := [], args := [] }

/-- 'laws.FnGapsOf': WHATEVER THE INPUT: true; the input reads as it did. -/
def fnGapsOfSpec : ChangeSpec := { name := "fnGapsOf", fn := fun _ => fun
  | [d] => { results := [.lit (.bool true)], args := [d] }
  | _ => none }
def fnGapsOfRow : OpenClaim := { program := "ytncemgfggpihhaa", sum := "85df6d2bb768ce6d3f590b786a0c1f39d6d6646814b5e39b269337266fbcb48f", func := "loop.example/roundturns/laws.FnGapsOf", spec := "fnGapsOf", apart := false }
def FnGapsOfSaid : Prop := fnGapsOfRow.holds Try.pinned (OpenSpec.ofChange fnGapsOfSpec)

/-- ITS FALSE NEIGHBOUR: 'it returns false'. Refute it at one input. -/
def fnGapsOfWrong : ChangeSpec := { name := "fnGapsOf", fn := fun _ => fun
  | [d] => { results := [.lit (.bool false)], args := [d] }
  | _ => none }
def FnGapsOfWrongFalsely : Prop := fnGapsOfRow.holds Try.pinned (OpenSpec.ofChange fnGapsOfWrong)

/-- 'laws.FnExactGapsOf': WHATEVER THE INPUT: true; the input reads as it did. -/
def fnExactGapsOfSpec : ChangeSpec := { name := "fnExactGapsOf", fn := fun _ => fun
  | [d1, d2] => { results := [.lit (.bool true)], args := [d1, d2] }
  | _ => none }
def fnExactGapsOfRow : OpenClaim := { program := "ytncemgfggpihhaa", sum := "85df6d2bb768ce6d3f590b786a0c1f39d6d6646814b5e39b269337266fbcb48f", func := "loop.example/roundturns/laws.FnExactGapsOf", spec := "fnExactGapsOf", apart := false }
def FnExactGapsOfSaid : Prop := fnExactGapsOfRow.holds Try.pinned (OpenSpec.ofChange fnExactGapsOfSpec)

/-- ITS FALSE NEIGHBOUR: 'it returns false'. Refute it at one input. -/
def fnExactGapsOfWrong : ChangeSpec := { name := "fnExactGapsOf", fn := fun _ => fun
  | [d1, d2] => { results := [.lit (.bool false)], args := [d1, d2] }
  | _ => none }
def FnExactGapsOfWrongFalsely : Prop := fnExactGapsOfRow.holds Try.pinned (OpenSpec.ofChange fnExactGapsOfWrong)

/-- 'laws.FnKindsOf': WHATEVER THE INPUT: true; the input reads as it did. -/
def fnKindsOfSpec : ChangeSpec := { name := "fnKindsOf", fn := fun _ => fun
  | [d] => { results := [.lit (.bool true)], args := [d] }
  | _ => none }
def fnKindsOfRow : OpenClaim := { program := "ytncemgfggpihhaa", sum := "85df6d2bb768ce6d3f590b786a0c1f39d6d6646814b5e39b269337266fbcb48f", func := "loop.example/roundturns/laws.FnKindsOf", spec := "fnKindsOf", apart := false }
def FnKindsOfSaid : Prop := fnKindsOfRow.holds Try.pinned (OpenSpec.ofChange fnKindsOfSpec)

/-- ITS FALSE NEIGHBOUR: 'it returns false'. Refute it at one input. -/
def fnKindsOfWrong : ChangeSpec := { name := "fnKindsOf", fn := fun _ => fun
  | [d] => { results := [.lit (.bool false)], args := [d] }
  | _ => none }
def FnKindsOfWrongFalsely : Prop := fnKindsOfRow.holds Try.pinned (OpenSpec.ofChange fnKindsOfWrong)

/-- 'laws.FnExactKindsOf': WHATEVER THE INPUT: true; the input reads as it did. -/
def fnExactKindsOfSpec : ChangeSpec := { name := "fnExactKindsOf", fn := fun _ => fun
  | [d1, d2] => { results := [.lit (.bool true)], args := [d1, d2] }
  | _ => none }
def fnExactKindsOfRow : OpenClaim := { program := "ytncemgfggpihhaa", sum := "85df6d2bb768ce6d3f590b786a0c1f39d6d6646814b5e39b269337266fbcb48f", func := "loop.example/roundturns/laws.FnExactKindsOf", spec := "fnExactKindsOf", apart := false }
def FnExactKindsOfSaid : Prop := fnExactKindsOfRow.holds Try.pinned (OpenSpec.ofChange fnExactKindsOfSpec)

/-- ITS FALSE NEIGHBOUR: 'it returns false'. Refute it at one input. -/
def fnExactKindsOfWrong : ChangeSpec := { name := "fnExactKindsOf", fn := fun _ => fun
  | [d1, d2] => { results := [.lit (.bool false)], args := [d1, d2] }
  | _ => none }
def FnExactKindsOfWrongFalsely : Prop := fnExactKindsOfRow.holds Try.pinned (OpenSpec.ofChange fnExactKindsOfWrong)

/-- 'laws.FnGapsLong': WHATEVER THE INPUT: true; the input reads as it did. -/
def fnGapsLongSpec : ChangeSpec := { name := "fnGapsLong", fn := fun _ => fun
  | [d] => { results := [.lit (.bool true)], args := [d] }
  | _ => none }
def fnGapsLongRow : OpenClaim := { program := "ytncemgfggpihhaa", sum := "85df6d2bb768ce6d3f590b786a0c1f39d6d6646814b5e39b269337266fbcb48f", func := "loop.example/roundturns/laws.FnGapsLong", spec := "fnGapsLong", apart := false }
def FnGapsLongSaid : Prop := fnGapsLongRow.holds Try.pinned (OpenSpec.ofChange fnGapsLongSpec)

/-- ITS FALSE NEIGHBOUR: 'it returns false'. Refute it at one input. -/
def fnGapsLongWrong : ChangeSpec := { name := "fnGapsLong", fn := fun _ => fun
  | [d] => { results := [.lit (.bool false)], args := [d] }
  | _ => none }
def FnGapsLongWrongFalsely : Prop := fnGapsLongRow.holds Try.pinned (OpenSpec.ofChange fnGapsLongWrong)

/-- 'laws.FnExactGapsLong': WHATEVER THE INPUT: true; the input reads as it did. -/
def fnExactGapsLongSpec : ChangeSpec := { name := "fnExactGapsLong", fn := fun _ => fun
  | [d1, d2, d3] => { results := [.lit (.bool true)], args := [d1, d2, d3] }
  | _ => none }
def fnExactGapsLongRow : OpenClaim := { program := "ytncemgfggpihhaa", sum := "85df6d2bb768ce6d3f590b786a0c1f39d6d6646814b5e39b269337266fbcb48f", func := "loop.example/roundturns/laws.FnExactGapsLong", spec := "fnExactGapsLong", apart := false }
def FnExactGapsLongSaid : Prop := fnExactGapsLongRow.holds Try.pinned (OpenSpec.ofChange fnExactGapsLongSpec)

/-- ITS FALSE NEIGHBOUR: 'it returns false'. Refute it at one input. -/
def fnExactGapsLongWrong : ChangeSpec := { name := "fnExactGapsLong", fn := fun _ => fun
  | [d1, d2, d3] => { results := [.lit (.bool false)], args := [d1, d2, d3] }
  | _ => none }
def FnExactGapsLongWrongFalsely : Prop := fnExactGapsLongRow.holds Try.pinned (OpenSpec.ofChange fnExactGapsLongWrong)

/-- 'laws.FnGapsBy': WHATEVER THE INPUT: true; the input reads as it did. -/
def fnGapsBySpec : ChangeSpec := { name := "fnGapsBy", fn := fun _ => fun
  | [d] => { results := [.lit (.bool true)], args := [d] }
  | _ => none }
def fnGapsByRow : OpenClaim := { program := "ytncemgfggpihhaa", sum := "85df6d2bb768ce6d3f590b786a0c1f39d6d6646814b5e39b269337266fbcb48f", func := "loop.example/roundturns/laws.FnGapsBy", spec := "fnGapsBy", apart := false }
def FnGapsBySaid : Prop := fnGapsByRow.holds Try.pinned (OpenSpec.ofChange fnGapsBySpec)

/-- ITS FALSE NEIGHBOUR: 'it returns false'. Refute it at one input. -/
def fnGapsByWrong : ChangeSpec := { name := "fnGapsBy", fn := fun _ => fun
  | [d] => { results := [.lit (.bool false)], args := [d] }
  | _ => none }
def FnGapsByWrongFalsely : Prop := fnGapsByRow.holds Try.pinned (OpenSpec.ofChange fnGapsByWrong)

/-- 'laws.FnExactGapsBy': WHATEVER THE INPUT: true; the input reads as it did. -/
def fnExactGapsBySpec : ChangeSpec := { name := "fnExactGapsBy", fn := fun _ => fun
  | [d1, d2] => { results := [.lit (.bool true)], args := [d1, d2] }
  | _ => none }
def fnExactGapsByRow : OpenClaim := { program := "ytncemgfggpihhaa", sum := "85df6d2bb768ce6d3f590b786a0c1f39d6d6646814b5e39b269337266fbcb48f", func := "loop.example/roundturns/laws.FnExactGapsBy", spec := "fnExactGapsBy", apart := false }
def FnExactGapsBySaid : Prop := fnExactGapsByRow.holds Try.pinned (OpenSpec.ofChange fnExactGapsBySpec)

/-- ITS FALSE NEIGHBOUR: 'it returns false'. Refute it at one input. -/
def fnExactGapsByWrong : ChangeSpec := { name := "fnExactGapsBy", fn := fun _ => fun
  | [d1, d2] => { results := [.lit (.bool false)], args := [d1, d2] }
  | _ => none }
def FnExactGapsByWrongFalsely : Prop := fnExactGapsByRow.holds Try.pinned (OpenSpec.ofChange fnExactGapsByWrong)

/-- 'laws.FnGapParted': WHATEVER THE INPUT: true; the input reads as it did. -/
def fnGapPartedSpec : ChangeSpec := { name := "fnGapParted", fn := fun _ => fun
  | [d] => { results := [.lit (.bool true)], args := [d] }
  | _ => none }
def fnGapPartedRow : OpenClaim := { program := "ytncemgfggpihhaa", sum := "85df6d2bb768ce6d3f590b786a0c1f39d6d6646814b5e39b269337266fbcb48f", func := "loop.example/roundturns/laws.FnGapParted", spec := "fnGapParted", apart := false }
def FnGapPartedSaid : Prop := fnGapPartedRow.holds Try.pinned (OpenSpec.ofChange fnGapPartedSpec)

/-- ITS FALSE NEIGHBOUR: 'it returns false'. Refute it at one input. -/
def fnGapPartedWrong : ChangeSpec := { name := "fnGapParted", fn := fun _ => fun
  | [d] => { results := [.lit (.bool false)], args := [d] }
  | _ => none }
def FnGapPartedWrongFalsely : Prop := fnGapPartedRow.holds Try.pinned (OpenSpec.ofChange fnGapPartedWrong)

/-- 'laws.FnNextAfter': WHATEVER THE INPUT: true; the input reads as it did. -/
def fnNextAfterSpec : ChangeSpec := { name := "fnNextAfter", fn := fun _ => fun
  | [d] => { results := [.lit (.bool true)], args := [d] }
  | _ => none }
def fnNextAfterRow : OpenClaim := { program := "ytncemgfggpihhaa", sum := "85df6d2bb768ce6d3f590b786a0c1f39d6d6646814b5e39b269337266fbcb48f", func := "loop.example/roundturns/laws.FnNextAfter", spec := "fnNextAfter", apart := false }
def FnNextAfterSaid : Prop := fnNextAfterRow.holds Try.pinned (OpenSpec.ofChange fnNextAfterSpec)

/-- ITS FALSE NEIGHBOUR: 'it returns false'. Refute it at one input. -/
def fnNextAfterWrong : ChangeSpec := { name := "fnNextAfter", fn := fun _ => fun
  | [d] => { results := [.lit (.bool false)], args := [d] }
  | _ => none }
def FnNextAfterWrongFalsely : Prop := fnNextAfterRow.holds Try.pinned (OpenSpec.ofChange fnNextAfterWrong)

/-- 'laws.FnExactNextAfter': WHATEVER THE INPUT: true; the input reads as it did. -/
def fnExactNextAfterSpec : ChangeSpec := { name := "fnExactNextAfter", fn := fun _ => fun
  | [d1, d2, d3] => { results := [.lit (.bool true)], args := [d1, d2, d3] }
  | _ => none }
def fnExactNextAfterRow : OpenClaim := { program := "ytncemgfggpihhaa", sum := "85df6d2bb768ce6d3f590b786a0c1f39d6d6646814b5e39b269337266fbcb48f", func := "loop.example/roundturns/laws.FnExactNextAfter", spec := "fnExactNextAfter", apart := false }
def FnExactNextAfterSaid : Prop := fnExactNextAfterRow.holds Try.pinned (OpenSpec.ofChange fnExactNextAfterSpec)

/-- ITS FALSE NEIGHBOUR: 'it returns false'. Refute it at one input. -/
def fnExactNextAfterWrong : ChangeSpec := { name := "fnExactNextAfter", fn := fun _ => fun
  | [d1, d2, d3] => { results := [.lit (.bool false)], args := [d1, d2, d3] }
  | _ => none }
def FnExactNextAfterWrongFalsely : Prop := fnExactNextAfterRow.holds Try.pinned (OpenSpec.ofChange fnExactNextAfterWrong)

/- THE SECOND FORM. 'bulk': how many values and letters a reading holds, each counted each time it is reached (what is shared counts as often as it is met; a slice's spare places count too). A statement '..UptoSaid' is the law's where the arguments, and the package variables that the reading takes, are together of bulk at most 1048576: NARROWER than '..Said'. Prove '..Said' where nothing that the law and all that it calls make is longer than what came in: it says more and counts as full. Else prove '..UptoSaid'. A law counts once. -/
mutual
def uptoBulk {H : Type} : DataW H → Nat
  | .lit (.string bytes) => bytes.length + 1
  | .lit _ => 1
  | .nil => 1
  | .ptr d => uptoBulk d + 1
  | .slice elems spare => uptoBulkAll elems + uptoBulkAll spare + 1
  | .agg parts => uptoBulkAll parts + 1
  | .iface _ d => uptoBulk d + 1
  | .map entries => uptoBulkEntries entries + 1
  | .held _ => 1
def uptoBulkAll {H : Type} : List (DataW H) → Nat
  | [] => 0
  | d :: r => uptoBulk d + uptoBulkAll r
def uptoBulkEntries {H : Type} : List (Lit × DataW H) → Nat
  | [] => 0
  | x :: r => uptoBulkEntry x + uptoBulkEntries r
def uptoBulkEntry {H : Type} : Lit × DataW H → Nat
  | (.string bytes, d) => bytes.length + uptoBulk d + 1
  | (_, d) => uptoBulk d + 1
 end
def uptoSmall : (H : Type) → List (DataW H) → Bool := fun _ ds => decide (uptoBulkAll ds ≤ 1048576)
def OpenSpec.upto (s : _root_.Go.ChangeSpec) : _root_.Go.OpenSpec := { _root_.Go.OpenSpec.ofChange s with cond := some uptoSmall }

/-- 'laws.FnGapsOf', WHERE WHAT IT READS IS OF BULK AT MOST 1048576: true; the input reads as it did. -/
def fnGapsOfUptoRow : OpenClaim := { program := "ytncemgfggpihhaa", sum := "85df6d2bb768ce6d3f590b786a0c1f39d6d6646814b5e39b269337266fbcb48f", func := "loop.example/roundturns/laws.FnGapsOf", spec := "fnGapsOf", apart := false, narrowed := true }
def FnGapsOfUptoSaid : Prop := fnGapsOfUptoRow.holds Try.pinned (OpenSpec.upto fnGapsOfSpec)

/-- 'laws.FnExactGapsOf', WHERE WHAT IT READS IS OF BULK AT MOST 1048576: true; the input reads as it did. -/
def fnExactGapsOfUptoRow : OpenClaim := { program := "ytncemgfggpihhaa", sum := "85df6d2bb768ce6d3f590b786a0c1f39d6d6646814b5e39b269337266fbcb48f", func := "loop.example/roundturns/laws.FnExactGapsOf", spec := "fnExactGapsOf", apart := false, narrowed := true }
def FnExactGapsOfUptoSaid : Prop := fnExactGapsOfUptoRow.holds Try.pinned (OpenSpec.upto fnExactGapsOfSpec)

/-- 'laws.FnKindsOf', WHERE WHAT IT READS IS OF BULK AT MOST 1048576: true; the input reads as it did. -/
def fnKindsOfUptoRow : OpenClaim := { program := "ytncemgfggpihhaa", sum := "85df6d2bb768ce6d3f590b786a0c1f39d6d6646814b5e39b269337266fbcb48f", func := "loop.example/roundturns/laws.FnKindsOf", spec := "fnKindsOf", apart := false, narrowed := true }
def FnKindsOfUptoSaid : Prop := fnKindsOfUptoRow.holds Try.pinned (OpenSpec.upto fnKindsOfSpec)

/-- 'laws.FnExactKindsOf', WHERE WHAT IT READS IS OF BULK AT MOST 1048576: true; the input reads as it did. -/
def fnExactKindsOfUptoRow : OpenClaim := { program := "ytncemgfggpihhaa", sum := "85df6d2bb768ce6d3f590b786a0c1f39d6d6646814b5e39b269337266fbcb48f", func := "loop.example/roundturns/laws.FnExactKindsOf", spec := "fnExactKindsOf", apart := false, narrowed := true }
def FnExactKindsOfUptoSaid : Prop := fnExactKindsOfUptoRow.holds Try.pinned (OpenSpec.upto fnExactKindsOfSpec)

/-- 'laws.FnGapsLong', WHERE WHAT IT READS IS OF BULK AT MOST 1048576: true; the input reads as it did. -/
def fnGapsLongUptoRow : OpenClaim := { program := "ytncemgfggpihhaa", sum := "85df6d2bb768ce6d3f590b786a0c1f39d6d6646814b5e39b269337266fbcb48f", func := "loop.example/roundturns/laws.FnGapsLong", spec := "fnGapsLong", apart := false, narrowed := true }
def FnGapsLongUptoSaid : Prop := fnGapsLongUptoRow.holds Try.pinned (OpenSpec.upto fnGapsLongSpec)

/-- 'laws.FnExactGapsLong', WHERE WHAT IT READS IS OF BULK AT MOST 1048576: true; the input reads as it did. -/
def fnExactGapsLongUptoRow : OpenClaim := { program := "ytncemgfggpihhaa", sum := "85df6d2bb768ce6d3f590b786a0c1f39d6d6646814b5e39b269337266fbcb48f", func := "loop.example/roundturns/laws.FnExactGapsLong", spec := "fnExactGapsLong", apart := false, narrowed := true }
def FnExactGapsLongUptoSaid : Prop := fnExactGapsLongUptoRow.holds Try.pinned (OpenSpec.upto fnExactGapsLongSpec)

/-- 'laws.FnGapsBy', WHERE WHAT IT READS IS OF BULK AT MOST 1048576: true; the input reads as it did. -/
def fnGapsByUptoRow : OpenClaim := { program := "ytncemgfggpihhaa", sum := "85df6d2bb768ce6d3f590b786a0c1f39d6d6646814b5e39b269337266fbcb48f", func := "loop.example/roundturns/laws.FnGapsBy", spec := "fnGapsBy", apart := false, narrowed := true }
def FnGapsByUptoSaid : Prop := fnGapsByUptoRow.holds Try.pinned (OpenSpec.upto fnGapsBySpec)

/-- 'laws.FnExactGapsBy', WHERE WHAT IT READS IS OF BULK AT MOST 1048576: true; the input reads as it did. -/
def fnExactGapsByUptoRow : OpenClaim := { program := "ytncemgfggpihhaa", sum := "85df6d2bb768ce6d3f590b786a0c1f39d6d6646814b5e39b269337266fbcb48f", func := "loop.example/roundturns/laws.FnExactGapsBy", spec := "fnExactGapsBy", apart := false, narrowed := true }
def FnExactGapsByUptoSaid : Prop := fnExactGapsByUptoRow.holds Try.pinned (OpenSpec.upto fnExactGapsBySpec)

/-- 'laws.FnGapParted', WHERE WHAT IT READS IS OF BULK AT MOST 1048576: true; the input reads as it did. -/
def fnGapPartedUptoRow : OpenClaim := { program := "ytncemgfggpihhaa", sum := "85df6d2bb768ce6d3f590b786a0c1f39d6d6646814b5e39b269337266fbcb48f", func := "loop.example/roundturns/laws.FnGapParted", spec := "fnGapParted", apart := false, narrowed := true }
def FnGapPartedUptoSaid : Prop := fnGapPartedUptoRow.holds Try.pinned (OpenSpec.upto fnGapPartedSpec)

/-- 'laws.FnNextAfter', WHERE WHAT IT READS IS OF BULK AT MOST 1048576: true; the input reads as it did. -/
def fnNextAfterUptoRow : OpenClaim := { program := "ytncemgfggpihhaa", sum := "85df6d2bb768ce6d3f590b786a0c1f39d6d6646814b5e39b269337266fbcb48f", func := "loop.example/roundturns/laws.FnNextAfter", spec := "fnNextAfter", apart := false, narrowed := true }
def FnNextAfterUptoSaid : Prop := fnNextAfterUptoRow.holds Try.pinned (OpenSpec.upto fnNextAfterSpec)

/-- 'laws.FnExactNextAfter', WHERE WHAT IT READS IS OF BULK AT MOST 1048576: true; the input reads as it did. -/
def fnExactNextAfterUptoRow : OpenClaim := { program := "ytncemgfggpihhaa", sum := "85df6d2bb768ce6d3f590b786a0c1f39d6d6646814b5e39b269337266fbcb48f", func := "loop.example/roundturns/laws.FnExactNextAfter", spec := "fnExactNextAfter", apart := false, narrowed := true }
def FnExactNextAfterUptoSaid : Prop := fnExactNextAfterUptoRow.holds Try.pinned (OpenSpec.upto fnExactNextAfterSpec)

end Rows
end Go.Proofs.Ytncemgfggpihhaa
