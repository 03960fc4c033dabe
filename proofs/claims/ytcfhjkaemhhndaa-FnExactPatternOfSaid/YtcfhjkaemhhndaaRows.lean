/-
  No cell of these rows narrows 'for every input' (looked for: loops, veiled, ifaces, maps, wideKeys, modest, calm, conditions, laid).
  DERIVED. THE GIVEN ROWS OF THIS SEAT. 8 by the template 'for every input the law returns true; each argument reads behind the call as it read before'; 0 by the template 'total and deterministic' (their statements: YtcfhjkaemhhndaaTotals.lean).
  GIVEN WITH THE SEED: the statements are not yours to turn. If you find one false, say at which input.
  Laid BY PROGRAM, IN A SANDBOX (cutbox-rows.mjs): the forced cells as the released guide's own fill.sh prints them over the translation 7d200090738d4022… (all of the seat's roots in one cut). By AI agents, Wed Nov 11 2026. No macro, syntax, notation, axiom, sorry.
-/
import Derived.Test.YtcfhjkaemhhndaaChecked
import GoSem.Claim
import GoSem.ClaimJoined
import GoSem.ClaimMapViews
import Derived.JoinedTies
import Derived.KernelRfl
namespace Go.Proofs.Ytcfhjkaemhhndaa
/- THE CELL 'sum', in the pinned program and in every row, IS THE sha256 OF THE DUMP (.gsa) THAT YtcfhjkaemhhndaaProg.lean LOADS. Nothing in Lean hashes anything: it is a label: what it is worth is what the hold of that sum in a sandbox is worth. -/
noncomputable def Try.pinned : Pinned := { name := "ytcfhjkaemhhndaa", sum := "7d200090738d4022da68e8be07385dbcc5751c93b1d1b29a3c4c90f8a699fce6", checked := Try.checked }
namespace Rows
def none {H : Type} : Left H := { results := [], args := [] }

/-- 'laws.FnScaleOk': WHATEVER THE INPUT: true; the input reads as it did. -/
def fnScaleOkSpec : ChangeSpec := { name := "fnScaleOk", fn := fun _ => fun
  | [d] => { results := [.lit (.bool true)], args := [d] }
  | _ => none }
def fnScaleOkRow : OpenClaim := { program := "ytcfhjkaemhhndaa", sum := "7d200090738d4022da68e8be07385dbcc5751c93b1d1b29a3c4c90f8a699fce6", func := "loop.example/roundturns/laws.FnScaleOk", spec := "fnScaleOk", apart := false }
def FnScaleOkSaid : Prop := fnScaleOkRow.holds Try.pinned (OpenSpec.ofChange fnScaleOkSpec)

/-- ITS FALSE NEIGHBOUR: 'it returns false'. Refute it at one input. -/
def fnScaleOkWrong : ChangeSpec := { name := "fnScaleOk", fn := fun _ => fun
  | [d] => { results := [.lit (.bool false)], args := [d] }
  | _ => none }
def FnScaleOkWrongFalsely : Prop := fnScaleOkRow.holds Try.pinned (OpenSpec.ofChange fnScaleOkWrong)

/-- 'laws.FnScaleSizes': WHATEVER THE INPUT: true; the input reads as it did. -/
def fnScaleSizesSpec : ChangeSpec := { name := "fnScaleSizes", fn := fun _ => fun
  | [d] => { results := [.lit (.bool true)], args := [d] }
  | _ => none }
def fnScaleSizesRow : OpenClaim := { program := "ytcfhjkaemhhndaa", sum := "7d200090738d4022da68e8be07385dbcc5751c93b1d1b29a3c4c90f8a699fce6", func := "loop.example/roundturns/laws.FnScaleSizes", spec := "fnScaleSizes", unfollowed := true, recurses := true, apart := false }
def FnScaleSizesSaid : Prop := fnScaleSizesRow.holds Try.pinned (OpenSpec.ofChange fnScaleSizesSpec)

/-- ITS FALSE NEIGHBOUR: 'it returns false'. Refute it at one input. -/
def fnScaleSizesWrong : ChangeSpec := { name := "fnScaleSizes", fn := fun _ => fun
  | [d] => { results := [.lit (.bool false)], args := [d] }
  | _ => none }
def FnScaleSizesWrongFalsely : Prop := fnScaleSizesRow.holds Try.pinned (OpenSpec.ofChange fnScaleSizesWrong)

/-- 'laws.FnSizesOf': WHATEVER THE INPUT: true; the input reads as it did. -/
def fnSizesOfSpec : ChangeSpec := { name := "fnSizesOf", fn := fun _ => fun
  | [d] => { results := [.lit (.bool true)], args := [d] }
  | _ => none }
def fnSizesOfRow : OpenClaim := { program := "ytcfhjkaemhhndaa", sum := "7d200090738d4022da68e8be07385dbcc5751c93b1d1b29a3c4c90f8a699fce6", func := "loop.example/roundturns/laws.FnSizesOf", spec := "fnSizesOf", unfollowed := true, recurses := true, apart := false }
def FnSizesOfSaid : Prop := fnSizesOfRow.holds Try.pinned (OpenSpec.ofChange fnSizesOfSpec)

/-- ITS FALSE NEIGHBOUR: 'it returns false'. Refute it at one input. -/
def fnSizesOfWrong : ChangeSpec := { name := "fnSizesOf", fn := fun _ => fun
  | [d] => { results := [.lit (.bool false)], args := [d] }
  | _ => none }
def FnSizesOfWrongFalsely : Prop := fnSizesOfRow.holds Try.pinned (OpenSpec.ofChange fnSizesOfWrong)

/-- 'laws.FnScaleGrows': WHATEVER THE INPUT: true; the input reads as it did. -/
def fnScaleGrowsSpec : ChangeSpec := { name := "fnScaleGrows", fn := fun _ => fun
  | [d] => { results := [.lit (.bool true)], args := [d] }
  | _ => none }
def fnScaleGrowsRow : OpenClaim := { program := "ytcfhjkaemhhndaa", sum := "7d200090738d4022da68e8be07385dbcc5751c93b1d1b29a3c4c90f8a699fce6", func := "loop.example/roundturns/laws.FnScaleGrows", spec := "fnScaleGrows", apart := false }
def FnScaleGrowsSaid : Prop := fnScaleGrowsRow.holds Try.pinned (OpenSpec.ofChange fnScaleGrowsSpec)

/-- ITS FALSE NEIGHBOUR: 'it returns false'. Refute it at one input. -/
def fnScaleGrowsWrong : ChangeSpec := { name := "fnScaleGrows", fn := fun _ => fun
  | [d] => { results := [.lit (.bool false)], args := [d] }
  | _ => none }
def FnScaleGrowsWrongFalsely : Prop := fnScaleGrowsRow.holds Try.pinned (OpenSpec.ofChange fnScaleGrowsWrong)

/-- 'laws.FnExactScaleOk': WHATEVER THE INPUT: true; the input reads as it did. -/
def fnExactScaleOkSpec : ChangeSpec := { name := "fnExactScaleOk", fn := fun _ => fun
  | [d1, d2] => { results := [.lit (.bool true)], args := [d1, d2] }
  | _ => none }
def fnExactScaleOkRow : OpenClaim := { program := "ytcfhjkaemhhndaa", sum := "7d200090738d4022da68e8be07385dbcc5751c93b1d1b29a3c4c90f8a699fce6", func := "loop.example/roundturns/laws.FnExactScaleOk", spec := "fnExactScaleOk", apart := false }
def FnExactScaleOkSaid : Prop := fnExactScaleOkRow.holds Try.pinned (OpenSpec.ofChange fnExactScaleOkSpec)

/-- ITS FALSE NEIGHBOUR: 'it returns false'. Refute it at one input. -/
def fnExactScaleOkWrong : ChangeSpec := { name := "fnExactScaleOk", fn := fun _ => fun
  | [d1, d2] => { results := [.lit (.bool false)], args := [d1, d2] }
  | _ => none }
def FnExactScaleOkWrongFalsely : Prop := fnExactScaleOkRow.holds Try.pinned (OpenSpec.ofChange fnExactScaleOkWrong)

/-- 'laws.FnExactScaleSizes': WHATEVER THE INPUT: true; the input reads as it did. -/
def fnExactScaleSizesSpec : ChangeSpec := { name := "fnExactScaleSizes", fn := fun _ => fun
  | [d] => { results := [.lit (.bool true)], args := [d] }
  | _ => none }
def fnExactScaleSizesRow : OpenClaim := { program := "ytcfhjkaemhhndaa", sum := "7d200090738d4022da68e8be07385dbcc5751c93b1d1b29a3c4c90f8a699fce6", func := "loop.example/roundturns/laws.FnExactScaleSizes", spec := "fnExactScaleSizes", apart := false }
def FnExactScaleSizesSaid : Prop := fnExactScaleSizesRow.holds Try.pinned (OpenSpec.ofChange fnExactScaleSizesSpec)

/-- ITS FALSE NEIGHBOUR: 'it returns false'. Refute it at one input. -/
def fnExactScaleSizesWrong : ChangeSpec := { name := "fnExactScaleSizes", fn := fun _ => fun
  | [d] => { results := [.lit (.bool false)], args := [d] }
  | _ => none }
def FnExactScaleSizesWrongFalsely : Prop := fnExactScaleSizesRow.holds Try.pinned (OpenSpec.ofChange fnExactScaleSizesWrong)

/-- 'laws.FnExactSizesOf': WHATEVER THE INPUT: true; the input reads as it did. -/
def fnExactSizesOfSpec : ChangeSpec := { name := "fnExactSizesOf", fn := fun _ => fun
  | [d1, d2, d3] => { results := [.lit (.bool true)], args := [d1, d2, d3] }
  | _ => none }
def fnExactSizesOfRow : OpenClaim := { program := "ytcfhjkaemhhndaa", sum := "7d200090738d4022da68e8be07385dbcc5751c93b1d1b29a3c4c90f8a699fce6", func := "loop.example/roundturns/laws.FnExactSizesOf", spec := "fnExactSizesOf", unfollowed := true, recurses := true, apart := false }
def FnExactSizesOfSaid : Prop := fnExactSizesOfRow.holds Try.pinned (OpenSpec.ofChange fnExactSizesOfSpec)

/-- ITS FALSE NEIGHBOUR: 'it returns false'. Refute it at one input. -/
def fnExactSizesOfWrong : ChangeSpec := { name := "fnExactSizesOf", fn := fun _ => fun
  | [d1, d2, d3] => { results := [.lit (.bool false)], args := [d1, d2, d3] }
  | _ => none }
def FnExactSizesOfWrongFalsely : Prop := fnExactSizesOfRow.holds Try.pinned (OpenSpec.ofChange fnExactSizesOfWrong)

/-- 'laws.FnExactPatternOf': WHATEVER THE INPUT: true; the input reads as it did. -/
def fnExactPatternOfSpec : ChangeSpec := { name := "fnExactPatternOf", fn := fun _ => fun
  | [d1, d2] => { results := [.lit (.bool true)], args := [d1, d2] }
  | _ => none }
def fnExactPatternOfRow : OpenClaim := { program := "ytcfhjkaemhhndaa", sum := "7d200090738d4022da68e8be07385dbcc5751c93b1d1b29a3c4c90f8a699fce6", func := "loop.example/roundturns/laws.FnExactPatternOf", spec := "fnExactPatternOf", unfollowed := true, recurses := true, apart := false }
def FnExactPatternOfSaid : Prop := fnExactPatternOfRow.holds Try.pinned (OpenSpec.ofChange fnExactPatternOfSpec)

/-- ITS FALSE NEIGHBOUR: 'it returns false'. Refute it at one input. -/
def fnExactPatternOfWrong : ChangeSpec := { name := "fnExactPatternOf", fn := fun _ => fun
  | [d1, d2] => { results := [.lit (.bool false)], args := [d1, d2] }
  | _ => none }
def FnExactPatternOfWrongFalsely : Prop := fnExactPatternOfRow.holds Try.pinned (OpenSpec.ofChange fnExactPatternOfWrong)

/- THE SECOND FORM. 'bulk': how many values and letters a reading holds, each counted each time it is reached (what is shared counts as often as it is met; a slice's spare places count too). A statement '..UptoSaid' is the law's where the arguments, and the package variables that the reading takes, are together of bulk at most 1048576: NARROWER than '..Said'. Prove '..Said' where nothing that the law and all that it calls make is longer than what came in: it says more and counts as full. Else prove '..UptoSaid'. A law counts once. -/
mutual
def uptoBulk {H : Type} : DataW H → Nat
  | .lit (.string bytes) => bytes.length + 1
  | .lit _ => 1
  | .nil => 1
  | .ptr d => uptoBulk d + 1
  | .slice elems spare => uptoBulkAll elems + uptoBulkAll spare + 1
  | .agg parts => uptoBulkAll parts + 1
  | .iface _ d => uptoBulk d + 1
  | .map entries => uptoBulkEntries entries + 1
  | .held _ => 1
def uptoBulkAll {H : Type} : List (DataW H) → Nat
  | [] => 0
  | d :: r => uptoBulk d + uptoBulkAll r
def uptoBulkEntries {H : Type} : List (Lit × DataW H) → Nat
  | [] => 0
  | x :: r => uptoBulkEntry x + uptoBulkEntries r
def uptoBulkEntry {H : Type} : Lit × DataW H → Nat
  | (.string bytes, d) => bytes.length + uptoBulk d + 1
  | (_, d) => uptoBulk d + 1
 end
def uptoSmall : (H : Type) → List (DataW H) → Bool := fun _ ds => decide (uptoBulkAll ds ≤ 1048576)
def OpenSpec.upto (s : _root_.Go.ChangeSpec) : _root_.Go.OpenSpec := { _root_.Go.OpenSpec.ofChange s with cond := some uptoSmall }

/-- 'laws.FnScaleOk', WHERE WHAT IT READS IS OF BULK AT MOST 1048576: true; the input reads as it did. -/
def fnScaleOkUptoRow : OpenClaim := { program := "ytcfhjkaemhhndaa", sum := "7d200090738d4022da68e8be07385dbcc5751c93b1d1b29a3c4c90f8a699fce6", func := "loop.example/roundturns/laws.FnScaleOk", spec := "fnScaleOk", apart := false, narrowed := true }
def FnScaleOkUptoSaid : Prop := fnScaleOkUptoRow.holds Try.pinned (OpenSpec.upto fnScaleOkSpec)

/-- 'laws.FnScaleSizes', WHERE WHAT IT READS IS OF BULK AT MOST 1048576: true; the input reads as it did. -/
def fnScaleSizesUptoRow : OpenClaim := { program := "ytcfhjkaemhhndaa", sum := "7d200090738d4022da68e8be07385dbcc5751c93b1d1b29a3c4c90f8a699fce6", func := "loop.example/roundturns/laws.FnScaleSizes", spec := "fnScaleSizes", unfollowed := true, recurses := true, apart := false, narrowed := true }
def FnScaleSizesUptoSaid : Prop := fnScaleSizesUptoRow.holds Try.pinned (OpenSpec.upto fnScaleSizesSpec)

/-- 'laws.FnSizesOf', WHERE WHAT IT READS IS OF BULK AT MOST 1048576: true; the input reads as it did. -/
def fnSizesOfUptoRow : OpenClaim := { program := "ytcfhjkaemhhndaa", sum := "7d200090738d4022da68e8be07385dbcc5751c93b1d1b29a3c4c90f8a699fce6", func := "loop.example/roundturns/laws.FnSizesOf", spec := "fnSizesOf", unfollowed := true, recurses := true, apart := false, narrowed := true }
def FnSizesOfUptoSaid : Prop := fnSizesOfUptoRow.holds Try.pinned (OpenSpec.upto fnSizesOfSpec)

/-- 'laws.FnScaleGrows', WHERE WHAT IT READS IS OF BULK AT MOST 1048576: true; the input reads as it did. -/
def fnScaleGrowsUptoRow : OpenClaim := { program := "ytcfhjkaemhhndaa", sum := "7d200090738d4022da68e8be07385dbcc5751c93b1d1b29a3c4c90f8a699fce6", func := "loop.example/roundturns/laws.FnScaleGrows", spec := "fnScaleGrows", apart := false, narrowed := true }
def FnScaleGrowsUptoSaid : Prop := fnScaleGrowsUptoRow.holds Try.pinned (OpenSpec.upto fnScaleGrowsSpec)

/-- 'laws.FnExactScaleOk', WHERE WHAT IT READS IS OF BULK AT MOST 1048576: true; the input reads as it did. -/
def fnExactScaleOkUptoRow : OpenClaim := { program := "ytcfhjkaemhhndaa", sum := "7d200090738d4022da68e8be07385dbcc5751c93b1d1b29a3c4c90f8a699fce6", func := "loop.example/roundturns/laws.FnExactScaleOk", spec := "fnExactScaleOk", apart := false, narrowed := true }
def FnExactScaleOkUptoSaid : Prop := fnExactScaleOkUptoRow.holds Try.pinned (OpenSpec.upto fnExactScaleOkSpec)

/-- 'laws.FnExactScaleSizes', WHERE WHAT IT READS IS OF BULK AT MOST 1048576: true; the input reads as it did. -/
def fnExactScaleSizesUptoRow : OpenClaim := { program := "ytcfhjkaemhhndaa", sum := "7d200090738d4022da68e8be07385dbcc5751c93b1d1b29a3c4c90f8a699fce6", func := "loop.example/roundturns/laws.FnExactScaleSizes", spec := "fnExactScaleSizes", apart := false, narrowed := true }
def FnExactScaleSizesUptoSaid : Prop := fnExactScaleSizesUptoRow.holds Try.pinned (OpenSpec.upto fnExactScaleSizesSpec)

/-- 'laws.FnExactSizesOf', WHERE WHAT IT READS IS OF BULK AT MOST 1048576: true; the input reads as it did. -/
def fnExactSizesOfUptoRow : OpenClaim := { program := "ytcfhjkaemhhndaa", sum := "7d200090738d4022da68e8be07385dbcc5751c93b1d1b29a3c4c90f8a699fce6", func := "loop.example/roundturns/laws.FnExactSizesOf", spec := "fnExactSizesOf", unfollowed := true, recurses := true, apart := false, narrowed := true }
def FnExactSizesOfUptoSaid : Prop := fnExactSizesOfUptoRow.holds Try.pinned (OpenSpec.upto fnExactSizesOfSpec)

/-- 'laws.FnExactPatternOf', WHERE WHAT IT READS IS OF BULK AT MOST 1048576: true; the input reads as it did. -/
def fnExactPatternOfUptoRow : OpenClaim := { program := "ytcfhjkaemhhndaa", sum := "7d200090738d4022da68e8be07385dbcc5751c93b1d1b29a3c4c90f8a699fce6", func := "loop.example/roundturns/laws.FnExactPatternOf", spec := "fnExactPatternOf", unfollowed := true, recurses := true, apart := false, narrowed := true }
def FnExactPatternOfUptoSaid : Prop := fnExactPatternOfUptoRow.holds Try.pinned (OpenSpec.upto fnExactPatternOfSpec)

end Rows
end Go.Proofs.Ytcfhjkaemhhndaa
