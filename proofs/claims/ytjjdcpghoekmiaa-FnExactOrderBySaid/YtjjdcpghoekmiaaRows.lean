/-
  No cell of these rows narrows 'for every input' (looked for: loops, veiled, ifaces, maps, wideKeys, modest, calm, conditions, laid).
  DERIVED. THE GIVEN ROWS OF THIS SEAT. 9 by the template 'for every input the law returns true; each argument reads behind the call as it read before'; 0 by the template 'total and deterministic' (their statements: YtjjdcpghoekmiaaTotals.lean).
  GIVEN WITH THE SEED: the statements are not yours to turn. If you find one false, say at which input.
  Laid BY PROGRAM, IN A SANDBOX (cutbox-rows.mjs): the forced cells as the released guide's own fill.sh prints them over the translation 63a8bc8cb482927c… (all of the seat's roots in one cut). By AI agents, Wed Nov 11 2026. No macro, syntax, notation, axiom, sorry.
-/
import Derived.Test.YtjjdcpghoekmiaaChecked
import GoSem.Claim
import GoSem.ClaimJoined
import GoSem.ClaimMapViews
import Derived.JoinedTies
import Derived.KernelRfl
namespace Go.Proofs.Ytjjdcpghoekmiaa
/- THE CELL 'sum', in the pinned program and in every row, IS THE sha256 OF THE DUMP (.gsa) THAT YtjjdcpghoekmiaaProg.lean LOADS. Nothing in Lean hashes anything: it is a label: what it is worth is what the hold of that sum in a sandbox is worth. -/
noncomputable def Try.pinned : Pinned := { name := "ytjjdcpghoekmiaa", sum := "63a8bc8cb482927c69e39f703cc00e1296acd3f1abab1aad84a65026109b6ef0", checked := Try.checked }
namespace Rows
def none {H : Type} : Left H := { results := [], args := [] }

/-- 'laws.FnOrderOf': WHATEVER THE INPUT: true; the input reads as it did. -/
def fnOrderOfSpec : ChangeSpec := { name := "fnOrderOf", fn := fun _ => fun
  | [d] => { results := [.lit (.bool true)], args := [d] }
  | _ => none }
def fnOrderOfRow : OpenClaim := { program := "ytjjdcpghoekmiaa", sum := "63a8bc8cb482927c69e39f703cc00e1296acd3f1abab1aad84a65026109b6ef0", func := "loop.example/roundturns/laws.FnOrderOf", spec := "fnOrderOf", unfollowed := true, recurses := true, apart := false }
def FnOrderOfSaid : Prop := fnOrderOfRow.holds Try.pinned (OpenSpec.ofChange fnOrderOfSpec)

/-- ITS FALSE NEIGHBOUR: 'it returns false'. Refute it at one input. -/
def fnOrderOfWrong : ChangeSpec := { name := "fnOrderOf", fn := fun _ => fun
  | [d] => { results := [.lit (.bool false)], args := [d] }
  | _ => none }
def FnOrderOfWrongFalsely : Prop := fnOrderOfRow.holds Try.pinned (OpenSpec.ofChange fnOrderOfWrong)

/-- 'laws.FnOrderBy': WHATEVER THE INPUT: true; the input reads as it did. -/
def fnOrderBySpec : ChangeSpec := { name := "fnOrderBy", fn := fun _ => fun
  | [d] => { results := [.lit (.bool true)], args := [d] }
  | _ => none }
def fnOrderByRow : OpenClaim := { program := "ytjjdcpghoekmiaa", sum := "63a8bc8cb482927c69e39f703cc00e1296acd3f1abab1aad84a65026109b6ef0", func := "loop.example/roundturns/laws.FnOrderBy", spec := "fnOrderBy", unfollowed := true, recurses := true, apart := false }
def FnOrderBySaid : Prop := fnOrderByRow.holds Try.pinned (OpenSpec.ofChange fnOrderBySpec)

/-- ITS FALSE NEIGHBOUR: 'it returns false'. Refute it at one input. -/
def fnOrderByWrong : ChangeSpec := { name := "fnOrderBy", fn := fun _ => fun
  | [d] => { results := [.lit (.bool false)], args := [d] }
  | _ => none }
def FnOrderByWrongFalsely : Prop := fnOrderByRow.holds Try.pinned (OpenSpec.ofChange fnOrderByWrong)

/-- 'laws.FnPlaceIn': WHATEVER THE INPUT: true; the input reads as it did. -/
def fnPlaceInSpec : ChangeSpec := { name := "fnPlaceIn", fn := fun _ => fun
  | [d] => { results := [.lit (.bool true)], args := [d] }
  | _ => none }
def fnPlaceInRow : OpenClaim := { program := "ytjjdcpghoekmiaa", sum := "63a8bc8cb482927c69e39f703cc00e1296acd3f1abab1aad84a65026109b6ef0", func := "loop.example/roundturns/laws.FnPlaceIn", spec := "fnPlaceIn", apart := false }
def FnPlaceInSaid : Prop := fnPlaceInRow.holds Try.pinned (OpenSpec.ofChange fnPlaceInSpec)

/-- ITS FALSE NEIGHBOUR: 'it returns false'. Refute it at one input. -/
def fnPlaceInWrong : ChangeSpec := { name := "fnPlaceIn", fn := fun _ => fun
  | [d] => { results := [.lit (.bool false)], args := [d] }
  | _ => none }
def FnPlaceInWrongFalsely : Prop := fnPlaceInRow.holds Try.pinned (OpenSpec.ofChange fnPlaceInWrong)

/-- 'laws.FnTurnedPairs': WHATEVER THE INPUT: true; the input reads as it did. -/
def fnTurnedPairsSpec : ChangeSpec := { name := "fnTurnedPairs", fn := fun _ => fun
  | [d1, d2] => { results := [.lit (.bool true)], args := [d1, d2] }
  | _ => none }
def fnTurnedPairsRow : OpenClaim := { program := "ytjjdcpghoekmiaa", sum := "63a8bc8cb482927c69e39f703cc00e1296acd3f1abab1aad84a65026109b6ef0", func := "loop.example/roundturns/laws.FnTurnedPairs", spec := "fnTurnedPairs", apart := false }
def FnTurnedPairsSaid : Prop := fnTurnedPairsRow.holds Try.pinned (OpenSpec.ofChange fnTurnedPairsSpec)

/-- ITS FALSE NEIGHBOUR: 'it returns false'. Refute it at one input. -/
def fnTurnedPairsWrong : ChangeSpec := { name := "fnTurnedPairs", fn := fun _ => fun
  | [d1, d2] => { results := [.lit (.bool false)], args := [d1, d2] }
  | _ => none }
def FnTurnedPairsWrongFalsely : Prop := fnTurnedPairsRow.holds Try.pinned (OpenSpec.ofChange fnTurnedPairsWrong)

/-- 'laws.FnOrderGrows': WHATEVER THE INPUT: true; the input reads as it did. -/
def fnOrderGrowsSpec : ChangeSpec := { name := "fnOrderGrows", fn := fun _ => fun
  | [d] => { results := [.lit (.bool true)], args := [d] }
  | _ => none }
def fnOrderGrowsRow : OpenClaim := { program := "ytjjdcpghoekmiaa", sum := "63a8bc8cb482927c69e39f703cc00e1296acd3f1abab1aad84a65026109b6ef0", func := "loop.example/roundturns/laws.FnOrderGrows", spec := "fnOrderGrows", apart := false }
def FnOrderGrowsSaid : Prop := fnOrderGrowsRow.holds Try.pinned (OpenSpec.ofChange fnOrderGrowsSpec)

/-- ITS FALSE NEIGHBOUR: 'it returns false'. Refute it at one input. -/
def fnOrderGrowsWrong : ChangeSpec := { name := "fnOrderGrows", fn := fun _ => fun
  | [d] => { results := [.lit (.bool false)], args := [d] }
  | _ => none }
def FnOrderGrowsWrongFalsely : Prop := fnOrderGrowsRow.holds Try.pinned (OpenSpec.ofChange fnOrderGrowsWrong)

/-- 'laws.FnExactOrderOf': WHATEVER THE INPUT: true; the input reads as it did. -/
def fnExactOrderOfSpec : ChangeSpec := { name := "fnExactOrderOf", fn := fun _ => fun
  | [d1, d2] => { results := [.lit (.bool true)], args := [d1, d2] }
  | _ => none }
def fnExactOrderOfRow : OpenClaim := { program := "ytjjdcpghoekmiaa", sum := "63a8bc8cb482927c69e39f703cc00e1296acd3f1abab1aad84a65026109b6ef0", func := "loop.example/roundturns/laws.FnExactOrderOf", spec := "fnExactOrderOf", apart := false }
def FnExactOrderOfSaid : Prop := fnExactOrderOfRow.holds Try.pinned (OpenSpec.ofChange fnExactOrderOfSpec)

/-- ITS FALSE NEIGHBOUR: 'it returns false'. Refute it at one input. -/
def fnExactOrderOfWrong : ChangeSpec := { name := "fnExactOrderOf", fn := fun _ => fun
  | [d1, d2] => { results := [.lit (.bool false)], args := [d1, d2] }
  | _ => none }
def FnExactOrderOfWrongFalsely : Prop := fnExactOrderOfRow.holds Try.pinned (OpenSpec.ofChange fnExactOrderOfWrong)

/-- 'laws.FnExactOrderBy': WHATEVER THE INPUT: true; the input reads as it did. -/
def fnExactOrderBySpec : ChangeSpec := { name := "fnExactOrderBy", fn := fun _ => fun
  | [d1, d2, d3] => { results := [.lit (.bool true)], args := [d1, d2, d3] }
  | _ => none }
def fnExactOrderByRow : OpenClaim := { program := "ytjjdcpghoekmiaa", sum := "63a8bc8cb482927c69e39f703cc00e1296acd3f1abab1aad84a65026109b6ef0", func := "loop.example/roundturns/laws.FnExactOrderBy", spec := "fnExactOrderBy", unfollowed := true, recurses := true, apart := false }
def FnExactOrderBySaid : Prop := fnExactOrderByRow.holds Try.pinned (OpenSpec.ofChange fnExactOrderBySpec)

/-- ITS FALSE NEIGHBOUR: 'it returns false'. Refute it at one input. -/
def fnExactOrderByWrong : ChangeSpec := { name := "fnExactOrderBy", fn := fun _ => fun
  | [d1, d2, d3] => { results := [.lit (.bool false)], args := [d1, d2, d3] }
  | _ => none }
def FnExactOrderByWrongFalsely : Prop := fnExactOrderByRow.holds Try.pinned (OpenSpec.ofChange fnExactOrderByWrong)

/-- 'laws.FnExactPlaceIn': WHATEVER THE INPUT: true; the input reads as it did. -/
def fnExactPlaceInSpec : ChangeSpec := { name := "fnExactPlaceIn", fn := fun _ => fun
  | [d1, d2, d3] => { results := [.lit (.bool true)], args := [d1, d2, d3] }
  | _ => none }
def fnExactPlaceInRow : OpenClaim := { program := "ytjjdcpghoekmiaa", sum := "63a8bc8cb482927c69e39f703cc00e1296acd3f1abab1aad84a65026109b6ef0", func := "loop.example/roundturns/laws.FnExactPlaceIn", spec := "fnExactPlaceIn", apart := false }
def FnExactPlaceInSaid : Prop := fnExactPlaceInRow.holds Try.pinned (OpenSpec.ofChange fnExactPlaceInSpec)

/-- ITS FALSE NEIGHBOUR: 'it returns false'. Refute it at one input. -/
def fnExactPlaceInWrong : ChangeSpec := { name := "fnExactPlaceIn", fn := fun _ => fun
  | [d1, d2, d3] => { results := [.lit (.bool false)], args := [d1, d2, d3] }
  | _ => none }
def FnExactPlaceInWrongFalsely : Prop := fnExactPlaceInRow.holds Try.pinned (OpenSpec.ofChange fnExactPlaceInWrong)

/-- 'laws.FnExactTurnedPairs': WHATEVER THE INPUT: true; the input reads as it did. -/
def fnExactTurnedPairsSpec : ChangeSpec := { name := "fnExactTurnedPairs", fn := fun _ => fun
  | [d] => { results := [.lit (.bool true)], args := [d] }
  | _ => none }
def fnExactTurnedPairsRow : OpenClaim := { program := "ytjjdcpghoekmiaa", sum := "63a8bc8cb482927c69e39f703cc00e1296acd3f1abab1aad84a65026109b6ef0", func := "loop.example/roundturns/laws.FnExactTurnedPairs", spec := "fnExactTurnedPairs", apart := false }
def FnExactTurnedPairsSaid : Prop := fnExactTurnedPairsRow.holds Try.pinned (OpenSpec.ofChange fnExactTurnedPairsSpec)

/-- ITS FALSE NEIGHBOUR: 'it returns false'. Refute it at one input. -/
def fnExactTurnedPairsWrong : ChangeSpec := { name := "fnExactTurnedPairs", fn := fun _ => fun
  | [d] => { results := [.lit (.bool false)], args := [d] }
  | _ => none }
def FnExactTurnedPairsWrongFalsely : Prop := fnExactTurnedPairsRow.holds Try.pinned (OpenSpec.ofChange fnExactTurnedPairsWrong)

/- THE SECOND FORM. 'bulk': how many values and letters a reading holds, each counted each time it is reached (what is shared counts as often as it is met; a slice's spare places count too). A statement '..UptoSaid' is the law's where the arguments, and the package variables that the reading takes, are together of bulk at most 1048576: NARROWER than '..Said'. Prove '..Said' where nothing that the law and all that it calls make is longer than what came in: it says more and counts as full. Else prove '..UptoSaid'. A law counts once. -/
mutual
def uptoBulk {H : Type} : DataW H → Nat
  | .lit (.string bytes) => bytes.length + 1
  | .lit _ => 1
  | .nil => 1
  | .ptr d => uptoBulk d + 1
  | .slice elems spare => uptoBulkAll elems + uptoBulkAll spare + 1
  | .agg parts => uptoBulkAll parts + 1
  | .iface _ d => uptoBulk d + 1
  | .map entries => uptoBulkEntries entries + 1
  | .held _ => 1
def uptoBulkAll {H : Type} : List (DataW H) → Nat
  | [] => 0
  | d :: r => uptoBulk d + uptoBulkAll r
def uptoBulkEntries {H : Type} : List (Lit × DataW H) → Nat
  | [] => 0
  | x :: r => uptoBulkEntry x + uptoBulkEntries r
def uptoBulkEntry {H : Type} : Lit × DataW H → Nat
  | (.string bytes, d) => bytes.length + uptoBulk d + 1
  | (_, d) => uptoBulk d + 1
 end
def uptoSmall : (H : Type) → List (DataW H) → Bool := fun _ ds => decide (uptoBulkAll ds ≤ 1048576)
def OpenSpec.upto (s : _root_.Go.ChangeSpec) : _root_.Go.OpenSpec := { _root_.Go.OpenSpec.ofChange s with cond := some uptoSmall }

/-- 'laws.FnOrderOf', WHERE WHAT IT READS IS OF BULK AT MOST 1048576: true; the input reads as it did. -/
def fnOrderOfUptoRow : OpenClaim := { program := "ytjjdcpghoekmiaa", sum := "63a8bc8cb482927c69e39f703cc00e1296acd3f1abab1aad84a65026109b6ef0", func := "loop.example/roundturns/laws.FnOrderOf", spec := "fnOrderOf", unfollowed := true, recurses := true, apart := false, narrowed := true }
def FnOrderOfUptoSaid : Prop := fnOrderOfUptoRow.holds Try.pinned (OpenSpec.upto fnOrderOfSpec)

/-- 'laws.FnOrderBy', WHERE WHAT IT READS IS OF BULK AT MOST 1048576: true; the input reads as it did. -/
def fnOrderByUptoRow : OpenClaim := { program := "ytjjdcpghoekmiaa", sum := "63a8bc8cb482927c69e39f703cc00e1296acd3f1abab1aad84a65026109b6ef0", func := "loop.example/roundturns/laws.FnOrderBy", spec := "fnOrderBy", unfollowed := true, recurses := true, apart := false, narrowed := true }
def FnOrderByUptoSaid : Prop := fnOrderByUptoRow.holds Try.pinned (OpenSpec.upto fnOrderBySpec)

/-- 'laws.FnPlaceIn', WHERE WHAT IT READS IS OF BULK AT MOST 1048576: true; the input reads as it did. -/
def fnPlaceInUptoRow : OpenClaim := { program := "ytjjdcpghoekmiaa", sum := "63a8bc8cb482927c69e39f703cc00e1296acd3f1abab1aad84a65026109b6ef0", func := "loop.example/roundturns/laws.FnPlaceIn", spec := "fnPlaceIn", apart := false, narrowed := true }
def FnPlaceInUptoSaid : Prop := fnPlaceInUptoRow.holds Try.pinned (OpenSpec.upto fnPlaceInSpec)

/-- 'laws.FnTurnedPairs', WHERE WHAT IT READS IS OF BULK AT MOST 1048576: true; the input reads as it did. -/
def fnTurnedPairsUptoRow : OpenClaim := { program := "ytjjdcpghoekmiaa", sum := "63a8bc8cb482927c69e39f703cc00e1296acd3f1abab1aad84a65026109b6ef0", func := "loop.example/roundturns/laws.FnTurnedPairs", spec := "fnTurnedPairs", apart := false, narrowed := true }
def FnTurnedPairsUptoSaid : Prop := fnTurnedPairsUptoRow.holds Try.pinned (OpenSpec.upto fnTurnedPairsSpec)

/-- 'laws.FnOrderGrows', WHERE WHAT IT READS IS OF BULK AT MOST 1048576: true; the input reads as it did. -/
def fnOrderGrowsUptoRow : OpenClaim := { program := "ytjjdcpghoekmiaa", sum := "63a8bc8cb482927c69e39f703cc00e1296acd3f1abab1aad84a65026109b6ef0", func := "loop.example/roundturns/laws.FnOrderGrows", spec := "fnOrderGrows", apart := false, narrowed := true }
def FnOrderGrowsUptoSaid : Prop := fnOrderGrowsUptoRow.holds Try.pinned (OpenSpec.upto fnOrderGrowsSpec)

/-- 'laws.FnExactOrderOf', WHERE WHAT IT READS IS OF BULK AT MOST 1048576: true; the input reads as it did. -/
def fnExactOrderOfUptoRow : OpenClaim := { program := "ytjjdcpghoekmiaa", sum := "63a8bc8cb482927c69e39f703cc00e1296acd3f1abab1aad84a65026109b6ef0", func := "loop.example/roundturns/laws.FnExactOrderOf", spec := "fnExactOrderOf", apart := false, narrowed := true }
def FnExactOrderOfUptoSaid : Prop := fnExactOrderOfUptoRow.holds Try.pinned (OpenSpec.upto fnExactOrderOfSpec)

/-- 'laws.FnExactOrderBy', WHERE WHAT IT READS IS OF BULK AT MOST 1048576: true; the input reads as it did. -/
def fnExactOrderByUptoRow : OpenClaim := { program := "ytjjdcpghoekmiaa", sum := "63a8bc8cb482927c69e39f703cc00e1296acd3f1abab1aad84a65026109b6ef0", func := "loop.example/roundturns/laws.FnExactOrderBy", spec := "fnExactOrderBy", unfollowed := true, recurses := true, apart := false, narrowed := true }
def FnExactOrderByUptoSaid : Prop := fnExactOrderByUptoRow.holds Try.pinned (OpenSpec.upto fnExactOrderBySpec)

/-- 'laws.FnExactPlaceIn', WHERE WHAT IT READS IS OF BULK AT MOST 1048576: true; the input reads as it did. -/
def fnExactPlaceInUptoRow : OpenClaim := { program := "ytjjdcpghoekmiaa", sum := "63a8bc8cb482927c69e39f703cc00e1296acd3f1abab1aad84a65026109b6ef0", func := "loop.example/roundturns/laws.FnExactPlaceIn", spec := "fnExactPlaceIn", apart := false, narrowed := true }
def FnExactPlaceInUptoSaid : Prop := fnExactPlaceInUptoRow.holds Try.pinned (OpenSpec.upto fnExactPlaceInSpec)

/-- 'laws.FnExactTurnedPairs', WHERE WHAT IT READS IS OF BULK AT MOST 1048576: true; the input reads as it did. -/
def fnExactTurnedPairsUptoRow : OpenClaim := { program := "ytjjdcpghoekmiaa", sum := "63a8bc8cb482927c69e39f703cc00e1296acd3f1abab1aad84a65026109b6ef0", func := "loop.example/roundturns/laws.FnExactTurnedPairs", spec := "fnExactTurnedPairs", apart := false, narrowed := true }
def FnExactTurnedPairsUptoSaid : Prop := fnExactTurnedPairsUptoRow.holds Try.pinned (OpenSpec.upto fnExactTurnedPairsSpec)

end Rows
end Go.Proofs.Ytjjdcpghoekmiaa
