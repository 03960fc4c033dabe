/-
  No cell of these rows narrows 'for every input' (looked for: loops, veiled, ifaces, maps, wideKeys, modest, calm, conditions, laid).
  DERIVED. THE GIVEN ROWS OF THIS SEAT. 8 by the template 'for every input the law returns true; each argument reads behind the call as it read before'; 0 by the template 'total and deterministic' (their statements: YtnpaicdbmmfdhaaTotals.lean).
  GIVEN WITH THE SEED: the statements are not yours to turn. If you find one false, say at which input.
  Laid BY PROGRAM, IN A SANDBOX (cutbox-rows.mjs): the forced cells as the released guide's own fill.sh prints them over the translation 3bfb9d76054b28d3… (all of the seat's roots in one cut). By AI agents, Wed Nov 11 2026. No macro, syntax, notation, axiom, sorry.
-/
import Derived.Test.YtnpaicdbmmfdhaaChecked
import GoSem.Claim
import GoSem.ClaimJoined
import GoSem.ClaimMapViews
import Derived.JoinedTies
import Derived.KernelRfl
namespace Go.Proofs.Ytnpaicdbmmfdhaa
/- THE CELL 'sum', in the pinned program and in every row, IS THE sha256 OF THE DUMP (.gsa) THAT YtnpaicdbmmfdhaaProg.lean LOADS. Nothing in Lean hashes anything: it is a label: what it is worth is what the hold of that sum in a sandbox is worth. -/
noncomputable def Try.pinned : Pinned := { name := "ytnpaicdbmmfdhaa", sum := "3bfb9d76054b28d35599164bde1a5bc8b4ea13ece9a06fe2474a260ccddf9388", checked := Try.checked }
namespace Rows
def none {H : Type} : Left H := { results := [], args := [] }

/-- 'laws.FnFarOf': WHATEVER THE INPUT: true; the input reads as it did. -/
def fnFarOfSpec : ChangeSpec := { name := "fnFarOf", fn := fun _ => fun
  | [d] => { results := [.lit (.bool true)], args := [d] }
  | _ => none }
def fnFarOfRow : OpenClaim := { program := "ytnpaicdbmmfdhaa", sum := "3bfb9d76054b28d35599164bde1a5bc8b4ea13ece9a06fe2474a260ccddf9388", func := "loop.example/roundturns/laws.FnFarOf", spec := "fnFarOf", unfollowed := true, recurses := true, apart := false }
def FnFarOfSaid : Prop := fnFarOfRow.holds Try.pinned (OpenSpec.ofChange fnFarOfSpec)

/-- ITS FALSE NEIGHBOUR: 'it returns false'. Refute it at one input. -/
def fnFarOfWrong : ChangeSpec := { name := "fnFarOf", fn := fun _ => fun
  | [d] => { results := [.lit (.bool false)], args := [d] }
  | _ => none }
def FnFarOfWrongFalsely : Prop := fnFarOfRow.holds Try.pinned (OpenSpec.ofChange fnFarOfWrong)

/-- 'laws.FnFarFrom': WHATEVER THE INPUT: true; the input reads as it did. -/
def fnFarFromSpec : ChangeSpec := { name := "fnFarFrom", fn := fun _ => fun
  | [d] => { results := [.lit (.bool true)], args := [d] }
  | _ => none }
def fnFarFromRow : OpenClaim := { program := "ytnpaicdbmmfdhaa", sum := "3bfb9d76054b28d35599164bde1a5bc8b4ea13ece9a06fe2474a260ccddf9388", func := "loop.example/roundturns/laws.FnFarFrom", spec := "fnFarFrom", unfollowed := true, recurses := true, apart := false }
def FnFarFromSaid : Prop := fnFarFromRow.holds Try.pinned (OpenSpec.ofChange fnFarFromSpec)

/-- ITS FALSE NEIGHBOUR: 'it returns false'. Refute it at one input. -/
def fnFarFromWrong : ChangeSpec := { name := "fnFarFrom", fn := fun _ => fun
  | [d] => { results := [.lit (.bool false)], args := [d] }
  | _ => none }
def FnFarFromWrongFalsely : Prop := fnFarFromRow.holds Try.pinned (OpenSpec.ofChange fnFarFromWrong)

/-- 'laws.FnGreatestGap': WHATEVER THE INPUT: true; the input reads as it did. -/
def fnGreatestGapSpec : ChangeSpec := { name := "fnGreatestGap", fn := fun _ => fun
  | [d] => { results := [.lit (.bool true)], args := [d] }
  | _ => none }
def fnGreatestGapRow : OpenClaim := { program := "ytnpaicdbmmfdhaa", sum := "3bfb9d76054b28d35599164bde1a5bc8b4ea13ece9a06fe2474a260ccddf9388", func := "loop.example/roundturns/laws.FnGreatestGap", spec := "fnGreatestGap", apart := false }
def FnGreatestGapSaid : Prop := fnGreatestGapRow.holds Try.pinned (OpenSpec.ofChange fnGreatestGapSpec)

/-- ITS FALSE NEIGHBOUR: 'it returns false'. Refute it at one input. -/
def fnGreatestGapWrong : ChangeSpec := { name := "fnGreatestGap", fn := fun _ => fun
  | [d] => { results := [.lit (.bool false)], args := [d] }
  | _ => none }
def FnGreatestGapWrongFalsely : Prop := fnGreatestGapRow.holds Try.pinned (OpenSpec.ofChange fnGreatestGapWrong)

/-- 'laws.FnLeastGap': WHATEVER THE INPUT: true; the input reads as it did. -/
def fnLeastGapSpec : ChangeSpec := { name := "fnLeastGap", fn := fun _ => fun
  | [d] => { results := [.lit (.bool true)], args := [d] }
  | _ => none }
def fnLeastGapRow : OpenClaim := { program := "ytnpaicdbmmfdhaa", sum := "3bfb9d76054b28d35599164bde1a5bc8b4ea13ece9a06fe2474a260ccddf9388", func := "loop.example/roundturns/laws.FnLeastGap", spec := "fnLeastGap", apart := false }
def FnLeastGapSaid : Prop := fnLeastGapRow.holds Try.pinned (OpenSpec.ofChange fnLeastGapSpec)

/-- ITS FALSE NEIGHBOUR: 'it returns false'. Refute it at one input. -/
def fnLeastGapWrong : ChangeSpec := { name := "fnLeastGap", fn := fun _ => fun
  | [d] => { results := [.lit (.bool false)], args := [d] }
  | _ => none }
def FnLeastGapWrongFalsely : Prop := fnLeastGapRow.holds Try.pinned (OpenSpec.ofChange fnLeastGapWrong)

/-- 'laws.FnExactFarOf': WHATEVER THE INPUT: true; the input reads as it did. -/
def fnExactFarOfSpec : ChangeSpec := { name := "fnExactFarOf", fn := fun _ => fun
  | [d1, d2] => { results := [.lit (.bool true)], args := [d1, d2] }
  | _ => none }
def fnExactFarOfRow : OpenClaim := { program := "ytnpaicdbmmfdhaa", sum := "3bfb9d76054b28d35599164bde1a5bc8b4ea13ece9a06fe2474a260ccddf9388", func := "loop.example/roundturns/laws.FnExactFarOf", spec := "fnExactFarOf", unfollowed := true, recurses := true, apart := false }
def FnExactFarOfSaid : Prop := fnExactFarOfRow.holds Try.pinned (OpenSpec.ofChange fnExactFarOfSpec)

/-- ITS FALSE NEIGHBOUR: 'it returns false'. Refute it at one input. -/
def fnExactFarOfWrong : ChangeSpec := { name := "fnExactFarOf", fn := fun _ => fun
  | [d1, d2] => { results := [.lit (.bool false)], args := [d1, d2] }
  | _ => none }
def FnExactFarOfWrongFalsely : Prop := fnExactFarOfRow.holds Try.pinned (OpenSpec.ofChange fnExactFarOfWrong)

/-- 'laws.FnExactFarFrom': WHATEVER THE INPUT: true; the input reads as it did. -/
def fnExactFarFromSpec : ChangeSpec := { name := "fnExactFarFrom", fn := fun _ => fun
  | [d1, d2, d3] => { results := [.lit (.bool true)], args := [d1, d2, d3] }
  | _ => none }
def fnExactFarFromRow : OpenClaim := { program := "ytnpaicdbmmfdhaa", sum := "3bfb9d76054b28d35599164bde1a5bc8b4ea13ece9a06fe2474a260ccddf9388", func := "loop.example/roundturns/laws.FnExactFarFrom", spec := "fnExactFarFrom", unfollowed := true, recurses := true, apart := false }
def FnExactFarFromSaid : Prop := fnExactFarFromRow.holds Try.pinned (OpenSpec.ofChange fnExactFarFromSpec)

/-- ITS FALSE NEIGHBOUR: 'it returns false'. Refute it at one input. -/
def fnExactFarFromWrong : ChangeSpec := { name := "fnExactFarFrom", fn := fun _ => fun
  | [d1, d2, d3] => { results := [.lit (.bool false)], args := [d1, d2, d3] }
  | _ => none }
def FnExactFarFromWrongFalsely : Prop := fnExactFarFromRow.holds Try.pinned (OpenSpec.ofChange fnExactFarFromWrong)

/-- 'laws.FnExactGreatestGap': WHATEVER THE INPUT: true; the input reads as it did. -/
def fnExactGreatestGapSpec : ChangeSpec := { name := "fnExactGreatestGap", fn := fun _ => fun
  | [d1, d2] => { results := [.lit (.bool true)], args := [d1, d2] }
  | _ => none }
def fnExactGreatestGapRow : OpenClaim := { program := "ytnpaicdbmmfdhaa", sum := "3bfb9d76054b28d35599164bde1a5bc8b4ea13ece9a06fe2474a260ccddf9388", func := "loop.example/roundturns/laws.FnExactGreatestGap", spec := "fnExactGreatestGap", apart := false }
def FnExactGreatestGapSaid : Prop := fnExactGreatestGapRow.holds Try.pinned (OpenSpec.ofChange fnExactGreatestGapSpec)

/-- ITS FALSE NEIGHBOUR: 'it returns false'. Refute it at one input. -/
def fnExactGreatestGapWrong : ChangeSpec := { name := "fnExactGreatestGap", fn := fun _ => fun
  | [d1, d2] => { results := [.lit (.bool false)], args := [d1, d2] }
  | _ => none }
def FnExactGreatestGapWrongFalsely : Prop := fnExactGreatestGapRow.holds Try.pinned (OpenSpec.ofChange fnExactGreatestGapWrong)

/-- 'laws.FnExactLeastGap': WHATEVER THE INPUT: true; the input reads as it did. -/
def fnExactLeastGapSpec : ChangeSpec := { name := "fnExactLeastGap", fn := fun _ => fun
  | [d1, d2] => { results := [.lit (.bool true)], args := [d1, d2] }
  | _ => none }
def fnExactLeastGapRow : OpenClaim := { program := "ytnpaicdbmmfdhaa", sum := "3bfb9d76054b28d35599164bde1a5bc8b4ea13ece9a06fe2474a260ccddf9388", func := "loop.example/roundturns/laws.FnExactLeastGap", spec := "fnExactLeastGap", apart := false }
def FnExactLeastGapSaid : Prop := fnExactLeastGapRow.holds Try.pinned (OpenSpec.ofChange fnExactLeastGapSpec)

/-- ITS FALSE NEIGHBOUR: 'it returns false'. Refute it at one input. -/
def fnExactLeastGapWrong : ChangeSpec := { name := "fnExactLeastGap", fn := fun _ => fun
  | [d1, d2] => { results := [.lit (.bool false)], args := [d1, d2] }
  | _ => none }
def FnExactLeastGapWrongFalsely : Prop := fnExactLeastGapRow.holds Try.pinned (OpenSpec.ofChange fnExactLeastGapWrong)

/- THE SECOND FORM. 'bulk': how many values and letters a reading holds, each counted each time it is reached (what is shared counts as often as it is met; a slice's spare places count too). A statement '..UptoSaid' is the law's where the arguments, and the package variables that the reading takes, are together of bulk at most 1048576: NARROWER than '..Said'. Prove '..Said' where nothing that the law and all that it calls make is longer than what came in: it says more and counts as full. Else prove '..UptoSaid'. A law counts once. -/
mutual
def uptoBulk {H : Type} : DataW H → Nat
  | .lit (.string bytes) => bytes.length + 1
  | .lit _ => 1
  | .nil => 1
  | .ptr d => uptoBulk d + 1
  | .slice elems spare => uptoBulkAll elems + uptoBulkAll spare + 1
  | .agg parts => uptoBulkAll parts + 1
  | .iface _ d => uptoBulk d + 1
  | .map entries => uptoBulkEntries entries + 1
  | .held _ => 1
def uptoBulkAll {H : Type} : List (DataW H) → Nat
  | [] => 0
  | d :: r => uptoBulk d + uptoBulkAll r
def uptoBulkEntries {H : Type} : List (Lit × DataW H) → Nat
  | [] => 0
  | x :: r => uptoBulkEntry x + uptoBulkEntries r
def uptoBulkEntry {H : Type} : Lit × DataW H → Nat
  | (.string bytes, d) => bytes.length + uptoBulk d + 1
  | (_, d) => uptoBulk d + 1
 end
def uptoSmall : (H : Type) → List (DataW H) → Bool := fun _ ds => decide (uptoBulkAll ds ≤ 1048576)
def OpenSpec.upto (s : _root_.Go.ChangeSpec) : _root_.Go.OpenSpec := { _root_.Go.OpenSpec.ofChange s with cond := some uptoSmall }

/-- 'laws.FnFarOf', WHERE WHAT IT READS IS OF BULK AT MOST 1048576: true; the input reads as it did. -/
def fnFarOfUptoRow : OpenClaim := { program := "ytnpaicdbmmfdhaa", sum := "3bfb9d76054b28d35599164bde1a5bc8b4ea13ece9a06fe2474a260ccddf9388", func := "loop.example/roundturns/laws.FnFarOf", spec := "fnFarOf", unfollowed := true, recurses := true, apart := false, narrowed := true }
def FnFarOfUptoSaid : Prop := fnFarOfUptoRow.holds Try.pinned (OpenSpec.upto fnFarOfSpec)

/-- 'laws.FnFarFrom', WHERE WHAT IT READS IS OF BULK AT MOST 1048576: true; the input reads as it did. -/
def fnFarFromUptoRow : OpenClaim := { program := "ytnpaicdbmmfdhaa", sum := "3bfb9d76054b28d35599164bde1a5bc8b4ea13ece9a06fe2474a260ccddf9388", func := "loop.example/roundturns/laws.FnFarFrom", spec := "fnFarFrom", unfollowed := true, recurses := true, apart := false, narrowed := true }
def FnFarFromUptoSaid : Prop := fnFarFromUptoRow.holds Try.pinned (OpenSpec.upto fnFarFromSpec)

/-- 'laws.FnGreatestGap', WHERE WHAT IT READS IS OF BULK AT MOST 1048576: true; the input reads as it did. -/
def fnGreatestGapUptoRow : OpenClaim := { program := "ytnpaicdbmmfdhaa", sum := "3bfb9d76054b28d35599164bde1a5bc8b4ea13ece9a06fe2474a260ccddf9388", func := "loop.example/roundturns/laws.FnGreatestGap", spec := "fnGreatestGap", apart := false, narrowed := true }
def FnGreatestGapUptoSaid : Prop := fnGreatestGapUptoRow.holds Try.pinned (OpenSpec.upto fnGreatestGapSpec)

/-- 'laws.FnLeastGap', WHERE WHAT IT READS IS OF BULK AT MOST 1048576: true; the input reads as it did. -/
def fnLeastGapUptoRow : OpenClaim := { program := "ytnpaicdbmmfdhaa", sum := "3bfb9d76054b28d35599164bde1a5bc8b4ea13ece9a06fe2474a260ccddf9388", func := "loop.example/roundturns/laws.FnLeastGap", spec := "fnLeastGap", apart := false, narrowed := true }
def FnLeastGapUptoSaid : Prop := fnLeastGapUptoRow.holds Try.pinned (OpenSpec.upto fnLeastGapSpec)

/-- 'laws.FnExactFarOf', WHERE WHAT IT READS IS OF BULK AT MOST 1048576: true; the input reads as it did. -/
def fnExactFarOfUptoRow : OpenClaim := { program := "ytnpaicdbmmfdhaa", sum := "3bfb9d76054b28d35599164bde1a5bc8b4ea13ece9a06fe2474a260ccddf9388", func := "loop.example/roundturns/laws.FnExactFarOf", spec := "fnExactFarOf", unfollowed := true, recurses := true, apart := false, narrowed := true }
def FnExactFarOfUptoSaid : Prop := fnExactFarOfUptoRow.holds Try.pinned (OpenSpec.upto fnExactFarOfSpec)

/-- 'laws.FnExactFarFrom', WHERE WHAT IT READS IS OF BULK AT MOST 1048576: true; the input reads as it did. -/
def fnExactFarFromUptoRow : OpenClaim := { program := "ytnpaicdbmmfdhaa", sum := "3bfb9d76054b28d35599164bde1a5bc8b4ea13ece9a06fe2474a260ccddf9388", func := "loop.example/roundturns/laws.FnExactFarFrom", spec := "fnExactFarFrom", unfollowed := true, recurses := true, apart := false, narrowed := true }
def FnExactFarFromUptoSaid : Prop := fnExactFarFromUptoRow.holds Try.pinned (OpenSpec.upto fnExactFarFromSpec)

/-- 'laws.FnExactGreatestGap', WHERE WHAT IT READS IS OF BULK AT MOST 1048576: true; the input reads as it did. -/
def fnExactGreatestGapUptoRow : OpenClaim := { program := "ytnpaicdbmmfdhaa", sum := "3bfb9d76054b28d35599164bde1a5bc8b4ea13ece9a06fe2474a260ccddf9388", func := "loop.example/roundturns/laws.FnExactGreatestGap", spec := "fnExactGreatestGap", apart := false, narrowed := true }
def FnExactGreatestGapUptoSaid : Prop := fnExactGreatestGapUptoRow.holds Try.pinned (OpenSpec.upto fnExactGreatestGapSpec)

/-- 'laws.FnExactLeastGap', WHERE WHAT IT READS IS OF BULK AT MOST 1048576: true; the input reads as it did. -/
def fnExactLeastGapUptoRow : OpenClaim := { program := "ytnpaicdbmmfdhaa", sum := "3bfb9d76054b28d35599164bde1a5bc8b4ea13ece9a06fe2474a260ccddf9388", func := "loop.example/roundturns/laws.FnExactLeastGap", spec := "fnExactLeastGap", apart := false, narrowed := true }
def FnExactLeastGapUptoSaid : Prop := fnExactLeastGapUptoRow.holds Try.pinned (OpenSpec.upto fnExactLeastGapSpec)

end Rows
end Go.Proofs.Ytnpaicdbmmfdhaa
