/-
  No cell of these rows narrows 'for every input' (looked for: loops, veiled, ifaces, maps, wideKeys, modest, calm, conditions, laid).
  DERIVED. THE GIVEN ROWS OF THIS SEAT. 10 by the template 'for every input the law returns true; each argument reads behind the call as it read before'; 0 by the template 'total and deterministic' (their statements: YtojbchihdnbdkaaTotals.lean).
  GIVEN WITH THE SEED: the statements are not yours to turn. If you find one false, say at which input.
  Laid BY PROGRAM, IN A SANDBOX (cutbox-rows.mjs): the forced cells as the released guide's own fill.sh prints them over the translation 2dcf75a2aba9eca8… (all of the seat's roots in one cut). By AI agents, Wed Nov 11 2026. No macro, syntax, notation, axiom, sorry.
-/
import Derived.Test.YtojbchihdnbdkaaChecked
import GoSem.Claim
import GoSem.ClaimJoined
import GoSem.ClaimMapViews
import Derived.JoinedTies
import Derived.KernelRfl
namespace Go.Proofs.Ytojbchihdnbdkaa
/- THE CELL 'sum', in the pinned program and in every row, IS THE sha256 OF THE DUMP (.gsa) THAT YtojbchihdnbdkaaProg.lean LOADS. Nothing in Lean hashes anything: it is a label: what it is worth is what the hold of that sum in a sandbox is worth. -/
noncomputable def Try.pinned : Pinned := { name := "ytojbchihdnbdkaa", sum := "2dcf75a2aba9eca82fd97424101f854652a52d5817e28ac0539ed26a42fa2d00", checked := Try.checked }
namespace Rows
def none {H : Type} : Left H := { results := [], args := [] }

/-- 'laws.FnVisitsIn': WHATEVER THE INPUT: true; the input reads as it did. -/
def fnVisitsInSpec : ChangeSpec := { name := "fnVisitsIn", fn := fun _ => fun
  | [d] => { results := [.lit (.bool true)], args := [d] }
  | _ => none }
def fnVisitsInRow : OpenClaim := { program := "ytojbchihdnbdkaa", sum := "2dcf75a2aba9eca82fd97424101f854652a52d5817e28ac0539ed26a42fa2d00", func := "loop.example/roundturns/laws.FnVisitsIn", spec := "fnVisitsIn", unfollowed := true, recurses := true, apart := false }
def FnVisitsInSaid : Prop := fnVisitsInRow.holds Try.pinned (OpenSpec.ofChange fnVisitsInSpec)

/-- ITS FALSE NEIGHBOUR: 'it returns false'. Refute it at one input. -/
def fnVisitsInWrong : ChangeSpec := { name := "fnVisitsIn", fn := fun _ => fun
  | [d] => { results := [.lit (.bool false)], args := [d] }
  | _ => none }
def FnVisitsInWrongFalsely : Prop := fnVisitsInRow.holds Try.pinned (OpenSpec.ofChange fnVisitsInWrong)

/-- 'laws.FnVisitsOf': WHATEVER THE INPUT: true; the input reads as it did. -/
def fnVisitsOfSpec : ChangeSpec := { name := "fnVisitsOf", fn := fun _ => fun
  | [d] => { results := [.lit (.bool true)], args := [d] }
  | _ => none }
def fnVisitsOfRow : OpenClaim := { program := "ytojbchihdnbdkaa", sum := "2dcf75a2aba9eca82fd97424101f854652a52d5817e28ac0539ed26a42fa2d00", func := "loop.example/roundturns/laws.FnVisitsOf", spec := "fnVisitsOf", unfollowed := true, recurses := true, apart := false }
def FnVisitsOfSaid : Prop := fnVisitsOfRow.holds Try.pinned (OpenSpec.ofChange fnVisitsOfSpec)

/-- ITS FALSE NEIGHBOUR: 'it returns false'. Refute it at one input. -/
def fnVisitsOfWrong : ChangeSpec := { name := "fnVisitsOf", fn := fun _ => fun
  | [d] => { results := [.lit (.bool false)], args := [d] }
  | _ => none }
def FnVisitsOfWrongFalsely : Prop := fnVisitsOfRow.holds Try.pinned (OpenSpec.ofChange fnVisitsOfWrong)

/-- 'laws.FnExcessOf': WHATEVER THE INPUT: true; the input reads as it did. -/
def fnExcessOfSpec : ChangeSpec := { name := "fnExcessOf", fn := fun _ => fun
  | [d] => { results := [.lit (.bool true)], args := [d] }
  | _ => none }
def fnExcessOfRow : OpenClaim := { program := "ytojbchihdnbdkaa", sum := "2dcf75a2aba9eca82fd97424101f854652a52d5817e28ac0539ed26a42fa2d00", func := "loop.example/roundturns/laws.FnExcessOf", spec := "fnExcessOf", unfollowed := true, recurses := true, apart := false }
def FnExcessOfSaid : Prop := fnExcessOfRow.holds Try.pinned (OpenSpec.ofChange fnExcessOfSpec)

/-- ITS FALSE NEIGHBOUR: 'it returns false'. Refute it at one input. -/
def fnExcessOfWrong : ChangeSpec := { name := "fnExcessOf", fn := fun _ => fun
  | [d] => { results := [.lit (.bool false)], args := [d] }
  | _ => none }
def FnExcessOfWrongFalsely : Prop := fnExcessOfRow.holds Try.pinned (OpenSpec.ofChange fnExcessOfWrong)

/-- 'laws.FnSpanOf': WHATEVER THE INPUT: true; the input reads as it did. -/
def fnSpanOfSpec : ChangeSpec := { name := "fnSpanOf", fn := fun _ => fun
  | [d] => { results := [.lit (.bool true)], args := [d] }
  | _ => none }
def fnSpanOfRow : OpenClaim := { program := "ytojbchihdnbdkaa", sum := "2dcf75a2aba9eca82fd97424101f854652a52d5817e28ac0539ed26a42fa2d00", func := "loop.example/roundturns/laws.FnSpanOf", spec := "fnSpanOf", unfollowed := true, recurses := true, apart := false }
def FnSpanOfSaid : Prop := fnSpanOfRow.holds Try.pinned (OpenSpec.ofChange fnSpanOfSpec)

/-- ITS FALSE NEIGHBOUR: 'it returns false'. Refute it at one input. -/
def fnSpanOfWrong : ChangeSpec := { name := "fnSpanOf", fn := fun _ => fun
  | [d] => { results := [.lit (.bool false)], args := [d] }
  | _ => none }
def FnSpanOfWrongFalsely : Prop := fnSpanOfRow.holds Try.pinned (OpenSpec.ofChange fnSpanOfWrong)

/-- 'laws.FnExcessBy': WHATEVER THE INPUT: true; the input reads as it did. -/
def fnExcessBySpec : ChangeSpec := { name := "fnExcessBy", fn := fun _ => fun
  | [d] => { results := [.lit (.bool true)], args := [d] }
  | _ => none }
def fnExcessByRow : OpenClaim := { program := "ytojbchihdnbdkaa", sum := "2dcf75a2aba9eca82fd97424101f854652a52d5817e28ac0539ed26a42fa2d00", func := "loop.example/roundturns/laws.FnExcessBy", spec := "fnExcessBy", unfollowed := true, recurses := true, apart := false }
def FnExcessBySaid : Prop := fnExcessByRow.holds Try.pinned (OpenSpec.ofChange fnExcessBySpec)

/-- ITS FALSE NEIGHBOUR: 'it returns false'. Refute it at one input. -/
def fnExcessByWrong : ChangeSpec := { name := "fnExcessBy", fn := fun _ => fun
  | [d] => { results := [.lit (.bool false)], args := [d] }
  | _ => none }
def FnExcessByWrongFalsely : Prop := fnExcessByRow.holds Try.pinned (OpenSpec.ofChange fnExcessByWrong)

/-- 'laws.FnExactVisitsIn': WHATEVER THE INPUT: true; the input reads as it did. -/
def fnExactVisitsInSpec : ChangeSpec := { name := "fnExactVisitsIn", fn := fun _ => fun
  | [d1, d2, d3, d4] => { results := [.lit (.bool true)], args := [d1, d2, d3, d4] }
  | _ => none }
def fnExactVisitsInRow : OpenClaim := { program := "ytojbchihdnbdkaa", sum := "2dcf75a2aba9eca82fd97424101f854652a52d5817e28ac0539ed26a42fa2d00", func := "loop.example/roundturns/laws.FnExactVisitsIn", spec := "fnExactVisitsIn", unfollowed := true, recurses := true, apart := false }
def FnExactVisitsInSaid : Prop := fnExactVisitsInRow.holds Try.pinned (OpenSpec.ofChange fnExactVisitsInSpec)

/-- ITS FALSE NEIGHBOUR: 'it returns false'. Refute it at one input. -/
def fnExactVisitsInWrong : ChangeSpec := { name := "fnExactVisitsIn", fn := fun _ => fun
  | [d1, d2, d3, d4] => { results := [.lit (.bool false)], args := [d1, d2, d3, d4] }
  | _ => none }
def FnExactVisitsInWrongFalsely : Prop := fnExactVisitsInRow.holds Try.pinned (OpenSpec.ofChange fnExactVisitsInWrong)

/-- 'laws.FnExactVisitsOf': WHATEVER THE INPUT: true; the input reads as it did. -/
def fnExactVisitsOfSpec : ChangeSpec := { name := "fnExactVisitsOf", fn := fun _ => fun
  | [d1, d2, d3] => { results := [.lit (.bool true)], args := [d1, d2, d3] }
  | _ => none }
def fnExactVisitsOfRow : OpenClaim := { program := "ytojbchihdnbdkaa", sum := "2dcf75a2aba9eca82fd97424101f854652a52d5817e28ac0539ed26a42fa2d00", func := "loop.example/roundturns/laws.FnExactVisitsOf", spec := "fnExactVisitsOf", unfollowed := true, recurses := true, apart := false }
def FnExactVisitsOfSaid : Prop := fnExactVisitsOfRow.holds Try.pinned (OpenSpec.ofChange fnExactVisitsOfSpec)

/-- ITS FALSE NEIGHBOUR: 'it returns false'. Refute it at one input. -/
def fnExactVisitsOfWrong : ChangeSpec := { name := "fnExactVisitsOf", fn := fun _ => fun
  | [d1, d2, d3] => { results := [.lit (.bool false)], args := [d1, d2, d3] }
  | _ => none }
def FnExactVisitsOfWrongFalsely : Prop := fnExactVisitsOfRow.holds Try.pinned (OpenSpec.ofChange fnExactVisitsOfWrong)

/-- 'laws.FnExactExcessOf': WHATEVER THE INPUT: true; the input reads as it did. -/
def fnExactExcessOfSpec : ChangeSpec := { name := "fnExactExcessOf", fn := fun _ => fun
  | [d1, d2, d3] => { results := [.lit (.bool true)], args := [d1, d2, d3] }
  | _ => none }
def fnExactExcessOfRow : OpenClaim := { program := "ytojbchihdnbdkaa", sum := "2dcf75a2aba9eca82fd97424101f854652a52d5817e28ac0539ed26a42fa2d00", func := "loop.example/roundturns/laws.FnExactExcessOf", spec := "fnExactExcessOf", unfollowed := true, recurses := true, apart := false }
def FnExactExcessOfSaid : Prop := fnExactExcessOfRow.holds Try.pinned (OpenSpec.ofChange fnExactExcessOfSpec)

/-- ITS FALSE NEIGHBOUR: 'it returns false'. Refute it at one input. -/
def fnExactExcessOfWrong : ChangeSpec := { name := "fnExactExcessOf", fn := fun _ => fun
  | [d1, d2, d3] => { results := [.lit (.bool false)], args := [d1, d2, d3] }
  | _ => none }
def FnExactExcessOfWrongFalsely : Prop := fnExactExcessOfRow.holds Try.pinned (OpenSpec.ofChange fnExactExcessOfWrong)

/-- 'laws.FnExactSpanOf': WHATEVER THE INPUT: true; the input reads as it did. -/
def fnExactSpanOfSpec : ChangeSpec := { name := "fnExactSpanOf", fn := fun _ => fun
  | [d1, d2] => { results := [.lit (.bool true)], args := [d1, d2] }
  | _ => none }
def fnExactSpanOfRow : OpenClaim := { program := "ytojbchihdnbdkaa", sum := "2dcf75a2aba9eca82fd97424101f854652a52d5817e28ac0539ed26a42fa2d00", func := "loop.example/roundturns/laws.FnExactSpanOf", spec := "fnExactSpanOf", unfollowed := true, recurses := true, apart := false }
def FnExactSpanOfSaid : Prop := fnExactSpanOfRow.holds Try.pinned (OpenSpec.ofChange fnExactSpanOfSpec)

/-- ITS FALSE NEIGHBOUR: 'it returns false'. Refute it at one input. -/
def fnExactSpanOfWrong : ChangeSpec := { name := "fnExactSpanOf", fn := fun _ => fun
  | [d1, d2] => { results := [.lit (.bool false)], args := [d1, d2] }
  | _ => none }
def FnExactSpanOfWrongFalsely : Prop := fnExactSpanOfRow.holds Try.pinned (OpenSpec.ofChange fnExactSpanOfWrong)

/-- 'laws.FnExactExcessBy': WHATEVER THE INPUT: true; the input reads as it did. -/
def fnExactExcessBySpec : ChangeSpec := { name := "fnExactExcessBy", fn := fun _ => fun
  | [d1, d2, d3] => { results := [.lit (.bool true)], args := [d1, d2, d3] }
  | _ => none }
def fnExactExcessByRow : OpenClaim := { program := "ytojbchihdnbdkaa", sum := "2dcf75a2aba9eca82fd97424101f854652a52d5817e28ac0539ed26a42fa2d00", func := "loop.example/roundturns/laws.FnExactExcessBy", spec := "fnExactExcessBy", unfollowed := true, recurses := true, apart := false }
def FnExactExcessBySaid : Prop := fnExactExcessByRow.holds Try.pinned (OpenSpec.ofChange fnExactExcessBySpec)

/-- ITS FALSE NEIGHBOUR: 'it returns false'. Refute it at one input. -/
def fnExactExcessByWrong : ChangeSpec := { name := "fnExactExcessBy", fn := fun _ => fun
  | [d1, d2, d3] => { results := [.lit (.bool false)], args := [d1, d2, d3] }
  | _ => none }
def FnExactExcessByWrongFalsely : Prop := fnExactExcessByRow.holds Try.pinned (OpenSpec.ofChange fnExactExcessByWrong)

/- THE SECOND FORM. 'bulk': how many values and letters a reading holds, each counted each time it is reached (what is shared counts as often as it is met; a slice's spare places count too). A statement '..UptoSaid' is the law's where the arguments, and the package variables that the reading takes, are together of bulk at most 1048576: NARROWER than '..Said'. Prove '..Said' where nothing that the law and all that it calls make is longer than what came in: it says more and counts as full. Else prove '..UptoSaid'. A law counts once. -/
mutual
def uptoBulk {H : Type} : DataW H → Nat
  | .lit (.string bytes) => bytes.length + 1
  | .lit _ => 1
  | .nil => 1
  | .ptr d => uptoBulk d + 1
  | .slice elems spare => uptoBulkAll elems + uptoBulkAll spare + 1
  | .agg parts => uptoBulkAll parts + 1
  | .iface _ d => uptoBulk d + 1
  | .map entries => uptoBulkEntries entries + 1
  | .held _ => 1
def uptoBulkAll {H : Type} : List (DataW H) → Nat
  | [] => 0
  | d :: r => uptoBulk d + uptoBulkAll r
def uptoBulkEntries {H : Type} : List (Lit × DataW H) → Nat
  | [] => 0
  | x :: r => uptoBulkEntry x + uptoBulkEntries r
def uptoBulkEntry {H : Type} : Lit × DataW H → Nat
  | (.string bytes, d) => bytes.length + uptoBulk d + 1
  | (_, d) => uptoBulk d + 1
 end
def uptoSmall : (H : Type) → List (DataW H) → Bool := fun _ ds => decide (uptoBulkAll ds ≤ 1048576)
def OpenSpec.upto (s : _root_.Go.ChangeSpec) : _root_.Go.OpenSpec := { _root_.Go.OpenSpec.ofChange s with cond := some uptoSmall }

/-- 'laws.FnVisitsIn', WHERE WHAT IT READS IS OF BULK AT MOST 1048576: true; the input reads as it did. -/
def fnVisitsInUptoRow : OpenClaim := { program := "ytojbchihdnbdkaa", sum := "2dcf75a2aba9eca82fd97424101f854652a52d5817e28ac0539ed26a42fa2d00", func := "loop.example/roundturns/laws.FnVisitsIn", spec := "fnVisitsIn", unfollowed := true, recurses := true, apart := false, narrowed := true }
def FnVisitsInUptoSaid : Prop := fnVisitsInUptoRow.holds Try.pinned (OpenSpec.upto fnVisitsInSpec)

/-- 'laws.FnVisitsOf', WHERE WHAT IT READS IS OF BULK AT MOST 1048576: true; the input reads as it did. -/
def fnVisitsOfUptoRow : OpenClaim := { program := "ytojbchihdnbdkaa", sum := "2dcf75a2aba9eca82fd97424101f854652a52d5817e28ac0539ed26a42fa2d00", func := "loop.example/roundturns/laws.FnVisitsOf", spec := "fnVisitsOf", unfollowed := true, recurses := true, apart := false, narrowed := true }
def FnVisitsOfUptoSaid : Prop := fnVisitsOfUptoRow.holds Try.pinned (OpenSpec.upto fnVisitsOfSpec)

/-- 'laws.FnExcessOf', WHERE WHAT IT READS IS OF BULK AT MOST 1048576: true; the input reads as it did. -/
def fnExcessOfUptoRow : OpenClaim := { program := "ytojbchihdnbdkaa", sum := "2dcf75a2aba9eca82fd97424101f854652a52d5817e28ac0539ed26a42fa2d00", func := "loop.example/roundturns/laws.FnExcessOf", spec := "fnExcessOf", unfollowed := true, recurses := true, apart := false, narrowed := true }
def FnExcessOfUptoSaid : Prop := fnExcessOfUptoRow.holds Try.pinned (OpenSpec.upto fnExcessOfSpec)

/-- 'laws.FnSpanOf', WHERE WHAT IT READS IS OF BULK AT MOST 1048576: true; the input reads as it did. -/
def fnSpanOfUptoRow : OpenClaim := { program := "ytojbchihdnbdkaa", sum := "2dcf75a2aba9eca82fd97424101f854652a52d5817e28ac0539ed26a42fa2d00", func := "loop.example/roundturns/laws.FnSpanOf", spec := "fnSpanOf", unfollowed := true, recurses := true, apart := false, narrowed := true }
def FnSpanOfUptoSaid : Prop := fnSpanOfUptoRow.holds Try.pinned (OpenSpec.upto fnSpanOfSpec)

/-- 'laws.FnExcessBy', WHERE WHAT IT READS IS OF BULK AT MOST 1048576: true; the input reads as it did. -/
def fnExcessByUptoRow : OpenClaim := { program := "ytojbchihdnbdkaa", sum := "2dcf75a2aba9eca82fd97424101f854652a52d5817e28ac0539ed26a42fa2d00", func := "loop.example/roundturns/laws.FnExcessBy", spec := "fnExcessBy", unfollowed := true, recurses := true, apart := false, narrowed := true }
def FnExcessByUptoSaid : Prop := fnExcessByUptoRow.holds Try.pinned (OpenSpec.upto fnExcessBySpec)

/-- 'laws.FnExactVisitsIn', WHERE WHAT IT READS IS OF BULK AT MOST 1048576: true; the input reads as it did. -/
def fnExactVisitsInUptoRow : OpenClaim := { program := "ytojbchihdnbdkaa", sum := "2dcf75a2aba9eca82fd97424101f854652a52d5817e28ac0539ed26a42fa2d00", func := "loop.example/roundturns/laws.FnExactVisitsIn", spec := "fnExactVisitsIn", unfollowed := true, recurses := true, apart := false, narrowed := true }
def FnExactVisitsInUptoSaid : Prop := fnExactVisitsInUptoRow.holds Try.pinned (OpenSpec.upto fnExactVisitsInSpec)

/-- 'laws.FnExactVisitsOf', WHERE WHAT IT READS IS OF BULK AT MOST 1048576: true; the input reads as it did. -/
def fnExactVisitsOfUptoRow : OpenClaim := { program := "ytojbchihdnbdkaa", sum := "2dcf75a2aba9eca82fd97424101f854652a52d5817e28ac0539ed26a42fa2d00", func := "loop.example/roundturns/laws.FnExactVisitsOf", spec := "fnExactVisitsOf", unfollowed := true, recurses := true, apart := false, narrowed := true }
def FnExactVisitsOfUptoSaid : Prop := fnExactVisitsOfUptoRow.holds Try.pinned (OpenSpec.upto fnExactVisitsOfSpec)

/-- 'laws.FnExactExcessOf', WHERE WHAT IT READS IS OF BULK AT MOST 1048576: true; the input reads as it did. -/
def fnExactExcessOfUptoRow : OpenClaim := { program := "ytojbchihdnbdkaa", sum := "2dcf75a2aba9eca82fd97424101f854652a52d5817e28ac0539ed26a42fa2d00", func := "loop.example/roundturns/laws.FnExactExcessOf", spec := "fnExactExcessOf", unfollowed := true, recurses := true, apart := false, narrowed := true }
def FnExactExcessOfUptoSaid : Prop := fnExactExcessOfUptoRow.holds Try.pinned (OpenSpec.upto fnExactExcessOfSpec)

/-- 'laws.FnExactSpanOf', WHERE WHAT IT READS IS OF BULK AT MOST 1048576: true; the input reads as it did. -/
def fnExactSpanOfUptoRow : OpenClaim := { program := "ytojbchihdnbdkaa", sum := "2dcf75a2aba9eca82fd97424101f854652a52d5817e28ac0539ed26a42fa2d00", func := "loop.example/roundturns/laws.FnExactSpanOf", spec := "fnExactSpanOf", unfollowed := true, recurses := true, apart := false, narrowed := true }
def FnExactSpanOfUptoSaid : Prop := fnExactSpanOfUptoRow.holds Try.pinned (OpenSpec.upto fnExactSpanOfSpec)

/-- 'laws.FnExactExcessBy', WHERE WHAT IT READS IS OF BULK AT MOST 1048576: true; the input reads as it did. -/
def fnExactExcessByUptoRow : OpenClaim := { program := "ytojbchihdnbdkaa", sum := "2dcf75a2aba9eca82fd97424101f854652a52d5817e28ac0539ed26a42fa2d00", func := "loop.example/roundturns/laws.FnExactExcessBy", spec := "fnExactExcessBy", unfollowed := true, recurses := true, apart := false, narrowed := true }
def FnExactExcessByUptoSaid : Prop := fnExactExcessByUptoRow.holds Try.pinned (OpenSpec.upto fnExactExcessBySpec)

end Rows
end Go.Proofs.Ytojbchihdnbdkaa
