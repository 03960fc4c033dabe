/-
  No cell of these rows narrows 'for every input' (looked for: loops, veiled, ifaces, maps, wideKeys, modest, calm, conditions, laid).
  DERIVED. THE GIVEN ROWS OF THIS SEAT. 12 by the template 'for every input the law returns true; each argument reads behind the call as it read before'; 0 by the template 'total and deterministic' (their statements: YtdkcodinlegheaaTotals.lean).
  GIVEN WITH THE SEED: the statements are not yours to turn. If you find one false, say at which input.
  Laid BY PROGRAM, IN A SANDBOX (cutbox-rows.mjs): the forced cells as the released guide's own fill.sh prints them over the translation c484afd6efcc61dc… (all of the seat's roots in one cut). By AI agents, Wed Nov 11 2026. No macro, syntax, notation, axiom, sorry.
-/
import Derived.Test.YtdkcodinlegheaaChecked
import GoSem.Claim
import GoSem.ClaimJoined
import GoSem.ClaimMapViews
import Derived.JoinedTies
import Derived.KernelRfl
namespace Go.Proofs.Ytdkcodinlegheaa
/- THE CELL 'sum', in the pinned program and in every row, IS THE sha256 OF THE DUMP (.gsa) THAT YtdkcodinlegheaaProg.lean LOADS. Nothing in Lean hashes anything: it is a label: what it is worth is what the hold of that sum in a sandbox is worth. -/
noncomputable def Try.pinned : Pinned := { name := "ytdkcodinlegheaa", sum := "c484afd6efcc61dcf2dbb62c619397fac2484df9477b13e63db5b2189cc9f483", checked := Try.checked }
namespace Rows
def none {H : Type} : Left H := { results := [], args := [] }

/-- 'laws.FnSumOneByOne': WHATEVER THE INPUT: true; the input reads as it did. -/
def fnSumOneByOneSpec : ChangeSpec := { name := "fnSumOneByOne", fn := fun _ => fun
  | [d] => { results := [.lit (.bool true)], args := [d] }
  | _ => none }
def fnSumOneByOneRow : OpenClaim := { program := "ytdkcodinlegheaa", sum := "c484afd6efcc61dcf2dbb62c619397fac2484df9477b13e63db5b2189cc9f483", func := "loop.example/roundturns/laws.FnSumOneByOne", spec := "fnSumOneByOne", unfollowed := true, recurses := true, apart := false }
def FnSumOneByOneSaid : Prop := fnSumOneByOneRow.holds Try.pinned (OpenSpec.ofChange fnSumOneByOneSpec)

/-- ITS FALSE NEIGHBOUR: 'it returns false'. Refute it at one input. -/
def fnSumOneByOneWrong : ChangeSpec := { name := "fnSumOneByOne", fn := fun _ => fun
  | [d] => { results := [.lit (.bool false)], args := [d] }
  | _ => none }
def FnSumOneByOneWrongFalsely : Prop := fnSumOneByOneRow.holds Try.pinned (OpenSpec.ofChange fnSumOneByOneWrong)

/-- 'laws.FnSumByRule': WHATEVER THE INPUT: true; the input reads as it did. -/
def fnSumByRuleSpec : ChangeSpec := { name := "fnSumByRule", fn := fun _ => fun
  | [d] => { results := [.lit (.bool true)], args := [d] }
  | _ => none }
def fnSumByRuleRow : OpenClaim := { program := "ytdkcodinlegheaa", sum := "c484afd6efcc61dcf2dbb62c619397fac2484df9477b13e63db5b2189cc9f483", func := "loop.example/roundturns/laws.FnSumByRule", spec := "fnSumByRule", apart := false }
def FnSumByRuleSaid : Prop := fnSumByRuleRow.holds Try.pinned (OpenSpec.ofChange fnSumByRuleSpec)

/-- ITS FALSE NEIGHBOUR: 'it returns false'. Refute it at one input. -/
def fnSumByRuleWrong : ChangeSpec := { name := "fnSumByRule", fn := fun _ => fun
  | [d] => { results := [.lit (.bool false)], args := [d] }
  | _ => none }
def FnSumByRuleWrongFalsely : Prop := fnSumByRuleRow.holds Try.pinned (OpenSpec.ofChange fnSumByRuleWrong)

/-- 'laws.FnPointsUnder': WHATEVER THE INPUT: true; the input reads as it did. -/
def fnPointsUnderSpec : ChangeSpec := { name := "fnPointsUnder", fn := fun _ => fun
  | [d] => { results := [.lit (.bool true)], args := [d] }
  | _ => none }
def fnPointsUnderRow : OpenClaim := { program := "ytdkcodinlegheaa", sum := "c484afd6efcc61dcf2dbb62c619397fac2484df9477b13e63db5b2189cc9f483", func := "loop.example/roundturns/laws.FnPointsUnder", spec := "fnPointsUnder", apart := false }
def FnPointsUnderSaid : Prop := fnPointsUnderRow.holds Try.pinned (OpenSpec.ofChange fnPointsUnderSpec)

/-- ITS FALSE NEIGHBOUR: 'it returns false'. Refute it at one input. -/
def fnPointsUnderWrong : ChangeSpec := { name := "fnPointsUnder", fn := fun _ => fun
  | [d] => { results := [.lit (.bool false)], args := [d] }
  | _ => none }
def FnPointsUnderWrongFalsely : Prop := fnPointsUnderRow.holds Try.pinned (OpenSpec.ofChange fnPointsUnderWrong)

/-- 'laws.FnSawOf': WHATEVER THE INPUT: true; the input reads as it did. -/
def fnSawOfSpec : ChangeSpec := { name := "fnSawOf", fn := fun _ => fun
  | [d] => { results := [.lit (.bool true)], args := [d] }
  | _ => none }
def fnSawOfRow : OpenClaim := { program := "ytdkcodinlegheaa", sum := "c484afd6efcc61dcf2dbb62c619397fac2484df9477b13e63db5b2189cc9f483", func := "loop.example/roundturns/laws.FnSawOf", spec := "fnSawOf", inPlace := ["internal/bytealg.CountString", "internal/bytealg.IndexByteString", "internal/bytealg.IndexString"], unfollowed := true, recurses := true, named := ["internal/bytealg.MaxLen"], apart := false }
def FnSawOfSaid : Prop := fnSawOfRow.holds Try.pinned (OpenSpec.ofChange fnSawOfSpec)

/-- ITS FALSE NEIGHBOUR: 'it returns false'. Refute it at one input. -/
def fnSawOfWrong : ChangeSpec := { name := "fnSawOf", fn := fun _ => fun
  | [d] => { results := [.lit (.bool false)], args := [d] }
  | _ => none }
def FnSawOfWrongFalsely : Prop := fnSawOfRow.holds Try.pinned (OpenSpec.ofChange fnSawOfWrong)

/-- 'laws.FnSawBy': WHATEVER THE INPUT: true; the input reads as it did. -/
def fnSawBySpec : ChangeSpec := { name := "fnSawBy", fn := fun _ => fun
  | [d] => { results := [.lit (.bool true)], args := [d] }
  | _ => none }
def fnSawByRow : OpenClaim := { program := "ytdkcodinlegheaa", sum := "c484afd6efcc61dcf2dbb62c619397fac2484df9477b13e63db5b2189cc9f483", func := "loop.example/roundturns/laws.FnSawBy", spec := "fnSawBy", inPlace := ["internal/bytealg.CountString", "internal/bytealg.IndexByteString", "internal/bytealg.IndexString"], unfollowed := true, recurses := true, named := ["internal/bytealg.MaxLen"], apart := false }
def FnSawBySaid : Prop := fnSawByRow.holds Try.pinned (OpenSpec.ofChange fnSawBySpec)

/-- ITS FALSE NEIGHBOUR: 'it returns false'. Refute it at one input. -/
def fnSawByWrong : ChangeSpec := { name := "fnSawBy", fn := fun _ => fun
  | [d] => { results := [.lit (.bool false)], args := [d] }
  | _ => none }
def FnSawByWrongFalsely : Prop := fnSawByRow.holds Try.pinned (OpenSpec.ofChange fnSawByWrong)

/-- 'laws.FnSawPairs': WHATEVER THE INPUT: true; the input reads as it did. -/
def fnSawPairsSpec : ChangeSpec := { name := "fnSawPairs", fn := fun _ => fun
  | [d] => { results := [.lit (.bool true)], args := [d] }
  | _ => none }
def fnSawPairsRow : OpenClaim := { program := "ytdkcodinlegheaa", sum := "c484afd6efcc61dcf2dbb62c619397fac2484df9477b13e63db5b2189cc9f483", func := "loop.example/roundturns/laws.FnSawPairs", spec := "fnSawPairs", unfollowed := true, recurses := true, apart := false }
def FnSawPairsSaid : Prop := fnSawPairsRow.holds Try.pinned (OpenSpec.ofChange fnSawPairsSpec)

/-- ITS FALSE NEIGHBOUR: 'it returns false'. Refute it at one input. -/
def fnSawPairsWrong : ChangeSpec := { name := "fnSawPairs", fn := fun _ => fun
  | [d] => { results := [.lit (.bool false)], args := [d] }
  | _ => none }
def FnSawPairsWrongFalsely : Prop := fnSawPairsRow.holds Try.pinned (OpenSpec.ofChange fnSawPairsWrong)

/-- 'laws.FnSumOnes': WHATEVER THE INPUT: true; the input reads as it did. -/
def fnSumOnesSpec : ChangeSpec := { name := "fnSumOnes", fn := fun _ => fun
  | [d] => { results := [.lit (.bool true)], args := [d] }
  | _ => none }
def fnSumOnesRow : OpenClaim := { program := "ytdkcodinlegheaa", sum := "c484afd6efcc61dcf2dbb62c619397fac2484df9477b13e63db5b2189cc9f483", func := "loop.example/roundturns/laws.FnSumOnes", spec := "fnSumOnes", inPlace := ["internal/bytealg.CountString", "internal/bytealg.IndexByteString", "internal/bytealg.IndexString"], named := ["internal/bytealg.MaxLen"], apart := false }
def FnSumOnesSaid : Prop := fnSumOnesRow.holds Try.pinned (OpenSpec.ofChange fnSumOnesSpec)

/-- ITS FALSE NEIGHBOUR: 'it returns false'. Refute it at one input. -/
def fnSumOnesWrong : ChangeSpec := { name := "fnSumOnes", fn := fun _ => fun
  | [d] => { results := [.lit (.bool false)], args := [d] }
  | _ => none }
def FnSumOnesWrongFalsely : Prop := fnSumOnesRow.holds Try.pinned (OpenSpec.ofChange fnSumOnesWrong)

/-- 'laws.FnExactSumOneByOne': WHATEVER THE INPUT: true; the input reads as it did. -/
def fnExactSumOneByOneSpec : ChangeSpec := { name := "fnExactSumOneByOne", fn := fun _ => fun
  | [d1, d2, d3, d4] => { results := [.lit (.bool true)], args := [d1, d2, d3, d4] }
  | _ => none }
def fnExactSumOneByOneRow : OpenClaim := { program := "ytdkcodinlegheaa", sum := "c484afd6efcc61dcf2dbb62c619397fac2484df9477b13e63db5b2189cc9f483", func := "loop.example/roundturns/laws.FnExactSumOneByOne", spec := "fnExactSumOneByOne", unfollowed := true, recurses := true, apart := false }
def FnExactSumOneByOneSaid : Prop := fnExactSumOneByOneRow.holds Try.pinned (OpenSpec.ofChange fnExactSumOneByOneSpec)

/-- ITS FALSE NEIGHBOUR: 'it returns false'. Refute it at one input. -/
def fnExactSumOneByOneWrong : ChangeSpec := { name := "fnExactSumOneByOne", fn := fun _ => fun
  | [d1, d2, d3, d4] => { results := [.lit (.bool false)], args := [d1, d2, d3, d4] }
  | _ => none }
def FnExactSumOneByOneWrongFalsely : Prop := fnExactSumOneByOneRow.holds Try.pinned (OpenSpec.ofChange fnExactSumOneByOneWrong)

/-- 'laws.FnExactSumByRule': WHATEVER THE INPUT: true; the input reads as it did. -/
def fnExactSumByRuleSpec : ChangeSpec := { name := "fnExactSumByRule", fn := fun _ => fun
  | [d1, d2, d3, d4] => { results := [.lit (.bool true)], args := [d1, d2, d3, d4] }
  | _ => none }
def fnExactSumByRuleRow : OpenClaim := { program := "ytdkcodinlegheaa", sum := "c484afd6efcc61dcf2dbb62c619397fac2484df9477b13e63db5b2189cc9f483", func := "loop.example/roundturns/laws.FnExactSumByRule", spec := "fnExactSumByRule", apart := false }
def FnExactSumByRuleSaid : Prop := fnExactSumByRuleRow.holds Try.pinned (OpenSpec.ofChange fnExactSumByRuleSpec)

/-- ITS FALSE NEIGHBOUR: 'it returns false'. Refute it at one input. -/
def fnExactSumByRuleWrong : ChangeSpec := { name := "fnExactSumByRule", fn := fun _ => fun
  | [d1, d2, d3, d4] => { results := [.lit (.bool false)], args := [d1, d2, d3, d4] }
  | _ => none }
def FnExactSumByRuleWrongFalsely : Prop := fnExactSumByRuleRow.holds Try.pinned (OpenSpec.ofChange fnExactSumByRuleWrong)

/-- 'laws.FnExactPointsUnder': WHATEVER THE INPUT: true; the input reads as it did. -/
def fnExactPointsUnderSpec : ChangeSpec := { name := "fnExactPointsUnder", fn := fun _ => fun
  | [d1, d2, d3, d4] => { results := [.lit (.bool true)], args := [d1, d2, d3, d4] }
  | _ => none }
def fnExactPointsUnderRow : OpenClaim := { program := "ytdkcodinlegheaa", sum := "c484afd6efcc61dcf2dbb62c619397fac2484df9477b13e63db5b2189cc9f483", func := "loop.example/roundturns/laws.FnExactPointsUnder", spec := "fnExactPointsUnder", apart := false }
def FnExactPointsUnderSaid : Prop := fnExactPointsUnderRow.holds Try.pinned (OpenSpec.ofChange fnExactPointsUnderSpec)

/-- ITS FALSE NEIGHBOUR: 'it returns false'. Refute it at one input. -/
def fnExactPointsUnderWrong : ChangeSpec := { name := "fnExactPointsUnder", fn := fun _ => fun
  | [d1, d2, d3, d4] => { results := [.lit (.bool false)], args := [d1, d2, d3, d4] }
  | _ => none }
def FnExactPointsUnderWrongFalsely : Prop := fnExactPointsUnderRow.holds Try.pinned (OpenSpec.ofChange fnExactPointsUnderWrong)

/-- 'laws.FnExactSawOf': WHATEVER THE INPUT: true; the input reads as it did. -/
def fnExactSawOfSpec : ChangeSpec := { name := "fnExactSawOf", fn := fun _ => fun
  | [d] => { results := [.lit (.bool true)], args := [d] }
  | _ => none }
def fnExactSawOfRow : OpenClaim := { program := "ytdkcodinlegheaa", sum := "c484afd6efcc61dcf2dbb62c619397fac2484df9477b13e63db5b2189cc9f483", func := "loop.example/roundturns/laws.FnExactSawOf", spec := "fnExactSawOf", unfollowed := true, recurses := true, apart := false }
def FnExactSawOfSaid : Prop := fnExactSawOfRow.holds Try.pinned (OpenSpec.ofChange fnExactSawOfSpec)

/-- ITS FALSE NEIGHBOUR: 'it returns false'. Refute it at one input. -/
def fnExactSawOfWrong : ChangeSpec := { name := "fnExactSawOf", fn := fun _ => fun
  | [d] => { results := [.lit (.bool false)], args := [d] }
  | _ => none }
def FnExactSawOfWrongFalsely : Prop := fnExactSawOfRow.holds Try.pinned (OpenSpec.ofChange fnExactSawOfWrong)

/-- 'laws.FnExactSawBy': WHATEVER THE INPUT: true; the input reads as it did. -/
def fnExactSawBySpec : ChangeSpec := { name := "fnExactSawBy", fn := fun _ => fun
  | [d] => { results := [.lit (.bool true)], args := [d] }
  | _ => none }
def fnExactSawByRow : OpenClaim := { program := "ytdkcodinlegheaa", sum := "c484afd6efcc61dcf2dbb62c619397fac2484df9477b13e63db5b2189cc9f483", func := "loop.example/roundturns/laws.FnExactSawBy", spec := "fnExactSawBy", inPlace := ["internal/bytealg.CountString", "internal/bytealg.IndexByteString", "internal/bytealg.IndexString"], unfollowed := true, recurses := true, named := ["internal/bytealg.MaxLen"], apart := false }
def FnExactSawBySaid : Prop := fnExactSawByRow.holds Try.pinned (OpenSpec.ofChange fnExactSawBySpec)

/-- ITS FALSE NEIGHBOUR: 'it returns false'. Refute it at one input. -/
def fnExactSawByWrong : ChangeSpec := { name := "fnExactSawBy", fn := fun _ => fun
  | [d] => { results := [.lit (.bool false)], args := [d] }
  | _ => none }
def FnExactSawByWrongFalsely : Prop := fnExactSawByRow.holds Try.pinned (OpenSpec.ofChange fnExactSawByWrong)

/- THE SECOND FORM. 'bulk': how many values and letters a reading holds, each counted each time it is reached (what is shared counts as often as it is met; a slice's spare places count too). A statement '..UptoSaid' is the law's where the arguments, and the package variables that the reading takes, are together of bulk at most 1048576: NARROWER than '..Said'. Prove '..Said' where nothing that the law and all that it calls make is longer than what came in: it says more and counts as full. Else prove '..UptoSaid'. A law counts once. -/
mutual
def uptoBulk {H : Type} : DataW H → Nat
  | .lit (.string bytes) => bytes.length + 1
  | .lit _ => 1
  | .nil => 1
  | .ptr d => uptoBulk d + 1
  | .slice elems spare => uptoBulkAll elems + uptoBulkAll spare + 1
  | .agg parts => uptoBulkAll parts + 1
  | .iface _ d => uptoBulk d + 1
  | .map entries => uptoBulkEntries entries + 1
  | .held _ => 1
def uptoBulkAll {H : Type} : List (DataW H) → Nat
  | [] => 0
  | d :: r => uptoBulk d + uptoBulkAll r
def uptoBulkEntries {H : Type} : List (Lit × DataW H) → Nat
  | [] => 0
  | x :: r => uptoBulkEntry x + uptoBulkEntries r
def uptoBulkEntry {H : Type} : Lit × DataW H → Nat
  | (.string bytes, d) => bytes.length + uptoBulk d + 1
  | (_, d) => uptoBulk d + 1
 end
def uptoSmall : (H : Type) → List (DataW H) → Bool := fun _ ds => decide (uptoBulkAll ds ≤ 1048576)
def OpenSpec.upto (s : _root_.Go.ChangeSpec) : _root_.Go.OpenSpec := { _root_.Go.OpenSpec.ofChange s with cond := some uptoSmall }

/-- 'laws.FnSumOneByOne', WHERE WHAT IT READS IS OF BULK AT MOST 1048576: true; the input reads as it did. -/
def fnSumOneByOneUptoRow : OpenClaim := { program := "ytdkcodinlegheaa", sum := "c484afd6efcc61dcf2dbb62c619397fac2484df9477b13e63db5b2189cc9f483", func := "loop.example/roundturns/laws.FnSumOneByOne", spec := "fnSumOneByOne", unfollowed := true, recurses := true, apart := false, narrowed := true }
def FnSumOneByOneUptoSaid : Prop := fnSumOneByOneUptoRow.holds Try.pinned (OpenSpec.upto fnSumOneByOneSpec)

/-- 'laws.FnSumByRule', WHERE WHAT IT READS IS OF BULK AT MOST 1048576: true; the input reads as it did. -/
def fnSumByRuleUptoRow : OpenClaim := { program := "ytdkcodinlegheaa", sum := "c484afd6efcc61dcf2dbb62c619397fac2484df9477b13e63db5b2189cc9f483", func := "loop.example/roundturns/laws.FnSumByRule", spec := "fnSumByRule", apart := false, narrowed := true }
def FnSumByRuleUptoSaid : Prop := fnSumByRuleUptoRow.holds Try.pinned (OpenSpec.upto fnSumByRuleSpec)

/-- 'laws.FnPointsUnder', WHERE WHAT IT READS IS OF BULK AT MOST 1048576: true; the input reads as it did. -/
def fnPointsUnderUptoRow : OpenClaim := { program := "ytdkcodinlegheaa", sum := "c484afd6efcc61dcf2dbb62c619397fac2484df9477b13e63db5b2189cc9f483", func := "loop.example/roundturns/laws.FnPointsUnder", spec := "fnPointsUnder", apart := false, narrowed := true }
def FnPointsUnderUptoSaid : Prop := fnPointsUnderUptoRow.holds Try.pinned (OpenSpec.upto fnPointsUnderSpec)

/-- 'laws.FnSawOf', WHERE WHAT IT READS IS OF BULK AT MOST 1048576: true; the input reads as it did. -/
def fnSawOfUptoRow : OpenClaim := { program := "ytdkcodinlegheaa", sum := "c484afd6efcc61dcf2dbb62c619397fac2484df9477b13e63db5b2189cc9f483", func := "loop.example/roundturns/laws.FnSawOf", spec := "fnSawOf", inPlace := ["internal/bytealg.CountString", "internal/bytealg.IndexByteString", "internal/bytealg.IndexString"], unfollowed := true, recurses := true, named := ["internal/bytealg.MaxLen"], apart := false, narrowed := true }
def FnSawOfUptoSaid : Prop := fnSawOfUptoRow.holds Try.pinned (OpenSpec.upto fnSawOfSpec)

/-- 'laws.FnSawBy', WHERE WHAT IT READS IS OF BULK AT MOST 1048576: true; the input reads as it did. -/
def fnSawByUptoRow : OpenClaim := { program := "ytdkcodinlegheaa", sum := "c484afd6efcc61dcf2dbb62c619397fac2484df9477b13e63db5b2189cc9f483", func := "loop.example/roundturns/laws.FnSawBy", spec := "fnSawBy", inPlace := ["internal/bytealg.CountString", "internal/bytealg.IndexByteString", "internal/bytealg.IndexString"], unfollowed := true, recurses := true, named := ["internal/bytealg.MaxLen"], apart := false, narrowed := true }
def FnSawByUptoSaid : Prop := fnSawByUptoRow.holds Try.pinned (OpenSpec.upto fnSawBySpec)

/-- 'laws.FnSawPairs', WHERE WHAT IT READS IS OF BULK AT MOST 1048576: true; the input reads as it did. -/
def fnSawPairsUptoRow : OpenClaim := { program := "ytdkcodinlegheaa", sum := "c484afd6efcc61dcf2dbb62c619397fac2484df9477b13e63db5b2189cc9f483", func := "loop.example/roundturns/laws.FnSawPairs", spec := "fnSawPairs", unfollowed := true, recurses := true, apart := false, narrowed := true }
def FnSawPairsUptoSaid : Prop := fnSawPairsUptoRow.holds Try.pinned (OpenSpec.upto fnSawPairsSpec)

/-- 'laws.FnSumOnes', WHERE WHAT IT READS IS OF BULK AT MOST 1048576: true; the input reads as it did. -/
def fnSumOnesUptoRow : OpenClaim := { program := "ytdkcodinlegheaa", sum := "c484afd6efcc61dcf2dbb62c619397fac2484df9477b13e63db5b2189cc9f483", func := "loop.example/roundturns/laws.FnSumOnes", spec := "fnSumOnes", inPlace := ["internal/bytealg.CountString", "internal/bytealg.IndexByteString", "internal/bytealg.IndexString"], named := ["internal/bytealg.MaxLen"], apart := false, narrowed := true }
def FnSumOnesUptoSaid : Prop := fnSumOnesUptoRow.holds Try.pinned (OpenSpec.upto fnSumOnesSpec)

/-- 'laws.FnExactSumOneByOne', WHERE WHAT IT READS IS OF BULK AT MOST 1048576: true; the input reads as it did. -/
def fnExactSumOneByOneUptoRow : OpenClaim := { program := "ytdkcodinlegheaa", sum := "c484afd6efcc61dcf2dbb62c619397fac2484df9477b13e63db5b2189cc9f483", func := "loop.example/roundturns/laws.FnExactSumOneByOne", spec := "fnExactSumOneByOne", unfollowed := true, recurses := true, apart := false, narrowed := true }
def FnExactSumOneByOneUptoSaid : Prop := fnExactSumOneByOneUptoRow.holds Try.pinned (OpenSpec.upto fnExactSumOneByOneSpec)

/-- 'laws.FnExactSumByRule', WHERE WHAT IT READS IS OF BULK AT MOST 1048576: true; the input reads as it did. -/
def fnExactSumByRuleUptoRow : OpenClaim := { program := "ytdkcodinlegheaa", sum := "c484afd6efcc61dcf2dbb62c619397fac2484df9477b13e63db5b2189cc9f483", func := "loop.example/roundturns/laws.FnExactSumByRule", spec := "fnExactSumByRule", apart := false, narrowed := true }
def FnExactSumByRuleUptoSaid : Prop := fnExactSumByRuleUptoRow.holds Try.pinned (OpenSpec.upto fnExactSumByRuleSpec)

/-- 'laws.FnExactPointsUnder', WHERE WHAT IT READS IS OF BULK AT MOST 1048576: true; the input reads as it did. -/
def fnExactPointsUnderUptoRow : OpenClaim := { program := "ytdkcodinlegheaa", sum := "c484afd6efcc61dcf2dbb62c619397fac2484df9477b13e63db5b2189cc9f483", func := "loop.example/roundturns/laws.FnExactPointsUnder", spec := "fnExactPointsUnder", apart := false, narrowed := true }
def FnExactPointsUnderUptoSaid : Prop := fnExactPointsUnderUptoRow.holds Try.pinned (OpenSpec.upto fnExactPointsUnderSpec)

/-- 'laws.FnExactSawOf', WHERE WHAT IT READS IS OF BULK AT MOST 1048576: true; the input reads as it did. -/
def fnExactSawOfUptoRow : OpenClaim := { program := "ytdkcodinlegheaa", sum := "c484afd6efcc61dcf2dbb62c619397fac2484df9477b13e63db5b2189cc9f483", func := "loop.example/roundturns/laws.FnExactSawOf", spec := "fnExactSawOf", unfollowed := true, recurses := true, apart := false, narrowed := true }
def FnExactSawOfUptoSaid : Prop := fnExactSawOfUptoRow.holds Try.pinned (OpenSpec.upto fnExactSawOfSpec)

/-- 'laws.FnExactSawBy', WHERE WHAT IT READS IS OF BULK AT MOST 1048576: true; the input reads as it did. -/
def fnExactSawByUptoRow : OpenClaim := { program := "ytdkcodinlegheaa", sum := "c484afd6efcc61dcf2dbb62c619397fac2484df9477b13e63db5b2189cc9f483", func := "loop.example/roundturns/laws.FnExactSawBy", spec := "fnExactSawBy", inPlace := ["internal/bytealg.CountString", "internal/bytealg.IndexByteString", "internal/bytealg.IndexString"], unfollowed := true, recurses := true, named := ["internal/bytealg.MaxLen"], apart := false, narrowed := true }
def FnExactSawByUptoSaid : Prop := fnExactSawByUptoRow.holds Try.pinned (OpenSpec.upto fnExactSawBySpec)

end Rows
end Go.Proofs.Ytdkcodinlegheaa
