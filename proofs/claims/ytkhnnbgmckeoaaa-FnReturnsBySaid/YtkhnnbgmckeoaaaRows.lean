/-
  No cell of these rows narrows 'for every input' (looked for: loops, veiled, ifaces, maps, wideKeys, modest, calm, conditions, laid).
  DERIVED. THE GIVEN ROWS OF THIS SEAT. 17 by the template 'for every input the law returns true; each argument reads behind the call as it read before'; 0 by the template 'total and deterministic' (their statements: YtkhnnbgmckeoaaaTotals.lean).
  GIVEN WITH THE SEED: the statements are not yours to turn. If you find one false, say at which input.
  Laid BY PROGRAM, IN A SANDBOX (cutbox-rows.mjs): the forced cells as the released guide's own fill.sh prints them over the translation 1c0ea6c0ef532035… (all of the seat's roots in one cut). By AI agents, Wed Nov 11 2026. No macro, syntax, notation, axiom, sorry.
-/
import Derived.Test.YtkhnnbgmckeoaaaChecked
import GoSem.Claim
import GoSem.ClaimJoined
import GoSem.ClaimMapViews
import Derived.JoinedTies
import Derived.KernelRfl
namespace Go.Proofs.Ytkhnnbgmckeoaaa
/- THE CELL 'sum', in the pinned program and in every row, IS THE sha256 OF THE DUMP (.gsa) THAT YtkhnnbgmckeoaaaProg.lean LOADS. Nothing in Lean hashes anything: it is a label: what it is worth is what the hold of that sum in a sandbox is worth. -/
noncomputable def Try.pinned : Pinned := { name := "ytkhnnbgmckeoaaa", sum := "1c0ea6c0ef532035a2b16da88813cbe661d740e3de118b1eca717a8440e449f4", checked := Try.checked }
namespace Rows
def none {H : Type} : Left H := { results := [], args := [] }

/-- 'laws.FnReturnOf': WHATEVER THE INPUT: true; the input reads as it did. -/
def fnReturnOfSpec : ChangeSpec := { name := "fnReturnOf", fn := fun _ => fun
  | [d] => { results := [.lit (.bool true)], args := [d] }
  | _ => none }
def fnReturnOfRow : OpenClaim := { program := "ytkhnnbgmckeoaaa", sum := "1c0ea6c0ef532035a2b16da88813cbe661d740e3de118b1eca717a8440e449f4", func := "loop.example/roundturns/laws.FnReturnOf", spec := "fnReturnOf", unfollowed := true, recurses := true, apart := false }
def FnReturnOfSaid : Prop := fnReturnOfRow.holds Try.pinned (OpenSpec.ofChange fnReturnOfSpec)

/-- ITS FALSE NEIGHBOUR: 'it returns false'. Refute it at one input. -/
def fnReturnOfWrong : ChangeSpec := { name := "fnReturnOf", fn := fun _ => fun
  | [d] => { results := [.lit (.bool false)], args := [d] }
  | _ => none }
def FnReturnOfWrongFalsely : Prop := fnReturnOfRow.holds Try.pinned (OpenSpec.ofChange fnReturnOfWrong)

/-- 'laws.FnLandsAt': WHATEVER THE INPUT: true; the input reads as it did. -/
def fnLandsAtSpec : ChangeSpec := { name := "fnLandsAt", fn := fun _ => fun
  | [d] => { results := [.lit (.bool true)], args := [d] }
  | _ => none }
def fnLandsAtRow : OpenClaim := { program := "ytkhnnbgmckeoaaa", sum := "1c0ea6c0ef532035a2b16da88813cbe661d740e3de118b1eca717a8440e449f4", func := "loop.example/roundturns/laws.FnLandsAt", spec := "fnLandsAt", unfollowed := true, recurses := true, apart := false }
def FnLandsAtSaid : Prop := fnLandsAtRow.holds Try.pinned (OpenSpec.ofChange fnLandsAtSpec)

/-- ITS FALSE NEIGHBOUR: 'it returns false'. Refute it at one input. -/
def fnLandsAtWrong : ChangeSpec := { name := "fnLandsAt", fn := fun _ => fun
  | [d] => { results := [.lit (.bool false)], args := [d] }
  | _ => none }
def FnLandsAtWrongFalsely : Prop := fnLandsAtRow.holds Try.pinned (OpenSpec.ofChange fnLandsAtWrong)

/-- 'laws.FnReturnTimes': WHATEVER THE INPUT: true; the input reads as it did. -/
def fnReturnTimesSpec : ChangeSpec := { name := "fnReturnTimes", fn := fun _ => fun
  | [d] => { results := [.lit (.bool true)], args := [d] }
  | _ => none }
def fnReturnTimesRow : OpenClaim := { program := "ytkhnnbgmckeoaaa", sum := "1c0ea6c0ef532035a2b16da88813cbe661d740e3de118b1eca717a8440e449f4", func := "loop.example/roundturns/laws.FnReturnTimes", spec := "fnReturnTimes", unfollowed := true, recurses := true, apart := false }
def FnReturnTimesSaid : Prop := fnReturnTimesRow.holds Try.pinned (OpenSpec.ofChange fnReturnTimesSpec)

/-- ITS FALSE NEIGHBOUR: 'it returns false'. Refute it at one input. -/
def fnReturnTimesWrong : ChangeSpec := { name := "fnReturnTimes", fn := fun _ => fun
  | [d] => { results := [.lit (.bool false)], args := [d] }
  | _ => none }
def FnReturnTimesWrongFalsely : Prop := fnReturnTimesRow.holds Try.pinned (OpenSpec.ofChange fnReturnTimesWrong)

/-- 'laws.FnReturnsLong': WHATEVER THE INPUT: true; the input reads as it did. -/
def fnReturnsLongSpec : ChangeSpec := { name := "fnReturnsLong", fn := fun _ => fun
  | [d] => { results := [.lit (.bool true)], args := [d] }
  | _ => none }
def fnReturnsLongRow : OpenClaim := { program := "ytkhnnbgmckeoaaa", sum := "1c0ea6c0ef532035a2b16da88813cbe661d740e3de118b1eca717a8440e449f4", func := "loop.example/roundturns/laws.FnReturnsLong", spec := "fnReturnsLong", unfollowed := true, recurses := true, apart := false }
def FnReturnsLongSaid : Prop := fnReturnsLongRow.holds Try.pinned (OpenSpec.ofChange fnReturnsLongSpec)

/-- ITS FALSE NEIGHBOUR: 'it returns false'. Refute it at one input. -/
def fnReturnsLongWrong : ChangeSpec := { name := "fnReturnsLong", fn := fun _ => fun
  | [d] => { results := [.lit (.bool false)], args := [d] }
  | _ => none }
def FnReturnsLongWrongFalsely : Prop := fnReturnsLongRow.holds Try.pinned (OpenSpec.ofChange fnReturnsLongWrong)

/-- 'laws.FnArcUp': WHATEVER THE INPUT: true; the input reads as it did. -/
def fnArcUpSpec : ChangeSpec := { name := "fnArcUp", fn := fun _ => fun
  | [d] => { results := [.lit (.bool true)], args := [d] }
  | _ => none }
def fnArcUpRow : OpenClaim := { program := "ytkhnnbgmckeoaaa", sum := "1c0ea6c0ef532035a2b16da88813cbe661d740e3de118b1eca717a8440e449f4", func := "loop.example/roundturns/laws.FnArcUp", spec := "fnArcUp", unfollowed := true, recurses := true, apart := false }
def FnArcUpSaid : Prop := fnArcUpRow.holds Try.pinned (OpenSpec.ofChange fnArcUpSpec)

/-- ITS FALSE NEIGHBOUR: 'it returns false'. Refute it at one input. -/
def fnArcUpWrong : ChangeSpec := { name := "fnArcUp", fn := fun _ => fun
  | [d] => { results := [.lit (.bool false)], args := [d] }
  | _ => none }
def FnArcUpWrongFalsely : Prop := fnArcUpRow.holds Try.pinned (OpenSpec.ofChange fnArcUpWrong)

/-- 'laws.FnArcDown': WHATEVER THE INPUT: true; the input reads as it did. -/
def fnArcDownSpec : ChangeSpec := { name := "fnArcDown", fn := fun _ => fun
  | [d] => { results := [.lit (.bool true)], args := [d] }
  | _ => none }
def fnArcDownRow : OpenClaim := { program := "ytkhnnbgmckeoaaa", sum := "1c0ea6c0ef532035a2b16da88813cbe661d740e3de118b1eca717a8440e449f4", func := "loop.example/roundturns/laws.FnArcDown", spec := "fnArcDown", unfollowed := true, recurses := true, apart := false }
def FnArcDownSaid : Prop := fnArcDownRow.holds Try.pinned (OpenSpec.ofChange fnArcDownSpec)

/-- ITS FALSE NEIGHBOUR: 'it returns false'. Refute it at one input. -/
def fnArcDownWrong : ChangeSpec := { name := "fnArcDown", fn := fun _ => fun
  | [d] => { results := [.lit (.bool false)], args := [d] }
  | _ => none }
def FnArcDownWrongFalsely : Prop := fnArcDownRow.holds Try.pinned (OpenSpec.ofChange fnArcDownWrong)

/-- 'laws.FnReturnsBy': WHATEVER THE INPUT: true; the input reads as it did. -/
def fnReturnsBySpec : ChangeSpec := { name := "fnReturnsBy", fn := fun _ => fun
  | [d] => { results := [.lit (.bool true)], args := [d] }
  | _ => none }
def fnReturnsByRow : OpenClaim := { program := "ytkhnnbgmckeoaaa", sum := "1c0ea6c0ef532035a2b16da88813cbe661d740e3de118b1eca717a8440e449f4", func := "loop.example/roundturns/laws.FnReturnsBy", spec := "fnReturnsBy", unfollowed := true, recurses := true, apart := false }
def FnReturnsBySaid : Prop := fnReturnsByRow.holds Try.pinned (OpenSpec.ofChange fnReturnsBySpec)

/-- ITS FALSE NEIGHBOUR: 'it returns false'. Refute it at one input. -/
def fnReturnsByWrong : ChangeSpec := { name := "fnReturnsBy", fn := fun _ => fun
  | [d] => { results := [.lit (.bool false)], args := [d] }
  | _ => none }
def FnReturnsByWrongFalsely : Prop := fnReturnsByRow.holds Try.pinned (OpenSpec.ofChange fnReturnsByWrong)

/-- 'laws.FnReturnsAdd': WHATEVER THE INPUT: true; the input reads as it did. -/
def fnReturnsAddSpec : ChangeSpec := { name := "fnReturnsAdd", fn := fun _ => fun
  | [d] => { results := [.lit (.bool true)], args := [d] }
  | _ => none }
def fnReturnsAddRow : OpenClaim := { program := "ytkhnnbgmckeoaaa", sum := "1c0ea6c0ef532035a2b16da88813cbe661d740e3de118b1eca717a8440e449f4", func := "loop.example/roundturns/laws.FnReturnsAdd", spec := "fnReturnsAdd", unfollowed := true, recurses := true, apart := false }
def FnReturnsAddSaid : Prop := fnReturnsAddRow.holds Try.pinned (OpenSpec.ofChange fnReturnsAddSpec)

/-- ITS FALSE NEIGHBOUR: 'it returns false'. Refute it at one input. -/
def fnReturnsAddWrong : ChangeSpec := { name := "fnReturnsAdd", fn := fun _ => fun
  | [d] => { results := [.lit (.bool false)], args := [d] }
  | _ => none }
def FnReturnsAddWrongFalsely : Prop := fnReturnsAddRow.holds Try.pinned (OpenSpec.ofChange fnReturnsAddWrong)

/-- 'laws.FnExactReturnOf': WHATEVER THE INPUT: true; the input reads as it did. -/
def fnExactReturnOfSpec : ChangeSpec := { name := "fnExactReturnOf", fn := fun _ => fun
  | [d1, d2, d3] => { results := [.lit (.bool true)], args := [d1, d2, d3] }
  | _ => none }
def fnExactReturnOfRow : OpenClaim := { program := "ytkhnnbgmckeoaaa", sum := "1c0ea6c0ef532035a2b16da88813cbe661d740e3de118b1eca717a8440e449f4", func := "loop.example/roundturns/laws.FnExactReturnOf", spec := "fnExactReturnOf", unfollowed := true, recurses := true, apart := false }
def FnExactReturnOfSaid : Prop := fnExactReturnOfRow.holds Try.pinned (OpenSpec.ofChange fnExactReturnOfSpec)

/-- ITS FALSE NEIGHBOUR: 'it returns false'. Refute it at one input. -/
def fnExactReturnOfWrong : ChangeSpec := { name := "fnExactReturnOf", fn := fun _ => fun
  | [d1, d2, d3] => { results := [.lit (.bool false)], args := [d1, d2, d3] }
  | _ => none }
def FnExactReturnOfWrongFalsely : Prop := fnExactReturnOfRow.holds Try.pinned (OpenSpec.ofChange fnExactReturnOfWrong)

/-- 'laws.FnExactLandsAt': WHATEVER THE INPUT: true; the input reads as it did. -/
def fnExactLandsAtSpec : ChangeSpec := { name := "fnExactLandsAt", fn := fun _ => fun
  | [d1, d2, d3] => { results := [.lit (.bool true)], args := [d1, d2, d3] }
  | _ => none }
def fnExactLandsAtRow : OpenClaim := { program := "ytkhnnbgmckeoaaa", sum := "1c0ea6c0ef532035a2b16da88813cbe661d740e3de118b1eca717a8440e449f4", func := "loop.example/roundturns/laws.FnExactLandsAt", spec := "fnExactLandsAt", unfollowed := true, recurses := true, apart := false }
def FnExactLandsAtSaid : Prop := fnExactLandsAtRow.holds Try.pinned (OpenSpec.ofChange fnExactLandsAtSpec)

/-- ITS FALSE NEIGHBOUR: 'it returns false'. Refute it at one input. -/
def fnExactLandsAtWrong : ChangeSpec := { name := "fnExactLandsAt", fn := fun _ => fun
  | [d1, d2, d3] => { results := [.lit (.bool false)], args := [d1, d2, d3] }
  | _ => none }
def FnExactLandsAtWrongFalsely : Prop := fnExactLandsAtRow.holds Try.pinned (OpenSpec.ofChange fnExactLandsAtWrong)

/-- 'laws.FnExactReturnTimes': WHATEVER THE INPUT: true; the input reads as it did. -/
def fnExactReturnTimesSpec : ChangeSpec := { name := "fnExactReturnTimes", fn := fun _ => fun
  | [d1, d2] => { results := [.lit (.bool true)], args := [d1, d2] }
  | _ => none }
def fnExactReturnTimesRow : OpenClaim := { program := "ytkhnnbgmckeoaaa", sum := "1c0ea6c0ef532035a2b16da88813cbe661d740e3de118b1eca717a8440e449f4", func := "loop.example/roundturns/laws.FnExactReturnTimes", spec := "fnExactReturnTimes", unfollowed := true, recurses := true, apart := false }
def FnExactReturnTimesSaid : Prop := fnExactReturnTimesRow.holds Try.pinned (OpenSpec.ofChange fnExactReturnTimesSpec)

/-- ITS FALSE NEIGHBOUR: 'it returns false'. Refute it at one input. -/
def fnExactReturnTimesWrong : ChangeSpec := { name := "fnExactReturnTimes", fn := fun _ => fun
  | [d1, d2] => { results := [.lit (.bool false)], args := [d1, d2] }
  | _ => none }
def FnExactReturnTimesWrongFalsely : Prop := fnExactReturnTimesRow.holds Try.pinned (OpenSpec.ofChange fnExactReturnTimesWrong)

/-- 'laws.FnExactReturnsLong': WHATEVER THE INPUT: true; the input reads as it did. -/
def fnExactReturnsLongSpec : ChangeSpec := { name := "fnExactReturnsLong", fn := fun _ => fun
  | [d1, d2, d3] => { results := [.lit (.bool true)], args := [d1, d2, d3] }
  | _ => none }
def fnExactReturnsLongRow : OpenClaim := { program := "ytkhnnbgmckeoaaa", sum := "1c0ea6c0ef532035a2b16da88813cbe661d740e3de118b1eca717a8440e449f4", func := "loop.example/roundturns/laws.FnExactReturnsLong", spec := "fnExactReturnsLong", unfollowed := true, recurses := true, apart := false }
def FnExactReturnsLongSaid : Prop := fnExactReturnsLongRow.holds Try.pinned (OpenSpec.ofChange fnExactReturnsLongSpec)

/-- ITS FALSE NEIGHBOUR: 'it returns false'. Refute it at one input. -/
def fnExactReturnsLongWrong : ChangeSpec := { name := "fnExactReturnsLong", fn := fun _ => fun
  | [d1, d2, d3] => { results := [.lit (.bool false)], args := [d1, d2, d3] }
  | _ => none }
def FnExactReturnsLongWrongFalsely : Prop := fnExactReturnsLongRow.holds Try.pinned (OpenSpec.ofChange fnExactReturnsLongWrong)

/-- 'laws.FnExactArcUp': WHATEVER THE INPUT: true; the input reads as it did. -/
def fnExactArcUpSpec : ChangeSpec := { name := "fnExactArcUp", fn := fun _ => fun
  | [d1, d2] => { results := [.lit (.bool true)], args := [d1, d2] }
  | _ => none }
def fnExactArcUpRow : OpenClaim := { program := "ytkhnnbgmckeoaaa", sum := "1c0ea6c0ef532035a2b16da88813cbe661d740e3de118b1eca717a8440e449f4", func := "loop.example/roundturns/laws.FnExactArcUp", spec := "fnExactArcUp", unfollowed := true, recurses := true, apart := false }
def FnExactArcUpSaid : Prop := fnExactArcUpRow.holds Try.pinned (OpenSpec.ofChange fnExactArcUpSpec)

/-- ITS FALSE NEIGHBOUR: 'it returns false'. Refute it at one input. -/
def fnExactArcUpWrong : ChangeSpec := { name := "fnExactArcUp", fn := fun _ => fun
  | [d1, d2] => { results := [.lit (.bool false)], args := [d1, d2] }
  | _ => none }
def FnExactArcUpWrongFalsely : Prop := fnExactArcUpRow.holds Try.pinned (OpenSpec.ofChange fnExactArcUpWrong)

/-- 'laws.FnExactArcDown': WHATEVER THE INPUT: true; the input reads as it did. -/
def fnExactArcDownSpec : ChangeSpec := { name := "fnExactArcDown", fn := fun _ => fun
  | [d1, d2] => { results := [.lit (.bool true)], args := [d1, d2] }
  | _ => none }
def fnExactArcDownRow : OpenClaim := { program := "ytkhnnbgmckeoaaa", sum := "1c0ea6c0ef532035a2b16da88813cbe661d740e3de118b1eca717a8440e449f4", func := "loop.example/roundturns/laws.FnExactArcDown", spec := "fnExactArcDown", unfollowed := true, recurses := true, apart := false }
def FnExactArcDownSaid : Prop := fnExactArcDownRow.holds Try.pinned (OpenSpec.ofChange fnExactArcDownSpec)

/-- ITS FALSE NEIGHBOUR: 'it returns false'. Refute it at one input. -/
def fnExactArcDownWrong : ChangeSpec := { name := "fnExactArcDown", fn := fun _ => fun
  | [d1, d2] => { results := [.lit (.bool false)], args := [d1, d2] }
  | _ => none }
def FnExactArcDownWrongFalsely : Prop := fnExactArcDownRow.holds Try.pinned (OpenSpec.ofChange fnExactArcDownWrong)

/-- 'laws.FnExactReturnsBy': WHATEVER THE INPUT: true; the input reads as it did. -/
def fnExactReturnsBySpec : ChangeSpec := { name := "fnExactReturnsBy", fn := fun _ => fun
  | [d1, d2] => { results := [.lit (.bool true)], args := [d1, d2] }
  | _ => none }
def fnExactReturnsByRow : OpenClaim := { program := "ytkhnnbgmckeoaaa", sum := "1c0ea6c0ef532035a2b16da88813cbe661d740e3de118b1eca717a8440e449f4", func := "loop.example/roundturns/laws.FnExactReturnsBy", spec := "fnExactReturnsBy", unfollowed := true, recurses := true, apart := false }
def FnExactReturnsBySaid : Prop := fnExactReturnsByRow.holds Try.pinned (OpenSpec.ofChange fnExactReturnsBySpec)

/-- ITS FALSE NEIGHBOUR: 'it returns false'. Refute it at one input. -/
def fnExactReturnsByWrong : ChangeSpec := { name := "fnExactReturnsBy", fn := fun _ => fun
  | [d1, d2] => { results := [.lit (.bool false)], args := [d1, d2] }
  | _ => none }
def FnExactReturnsByWrongFalsely : Prop := fnExactReturnsByRow.holds Try.pinned (OpenSpec.ofChange fnExactReturnsByWrong)

/-- 'laws.FnGapsLong': WHATEVER THE INPUT: true; the input reads as it did. -/
def fnGapsLongSpec : ChangeSpec := { name := "fnGapsLong", fn := fun _ => fun
  | [d] => { results := [.lit (.bool true)], args := [d] }
  | _ => none }
def fnGapsLongRow : OpenClaim := { program := "ytkhnnbgmckeoaaa", sum := "1c0ea6c0ef532035a2b16da88813cbe661d740e3de118b1eca717a8440e449f4", func := "loop.example/roundturns/laws.FnGapsLong", spec := "fnGapsLong", apart := false }
def FnGapsLongSaid : Prop := fnGapsLongRow.holds Try.pinned (OpenSpec.ofChange fnGapsLongSpec)

/-- ITS FALSE NEIGHBOUR: 'it returns false'. Refute it at one input. -/
def fnGapsLongWrong : ChangeSpec := { name := "fnGapsLong", fn := fun _ => fun
  | [d] => { results := [.lit (.bool false)], args := [d] }
  | _ => none }
def FnGapsLongWrongFalsely : Prop := fnGapsLongRow.holds Try.pinned (OpenSpec.ofChange fnGapsLongWrong)

/-- 'laws.FnExactGapsLong': WHATEVER THE INPUT: true; the input reads as it did. -/
def fnExactGapsLongSpec : ChangeSpec := { name := "fnExactGapsLong", fn := fun _ => fun
  | [d1, d2, d3] => { results := [.lit (.bool true)], args := [d1, d2, d3] }
  | _ => none }
def fnExactGapsLongRow : OpenClaim := { program := "ytkhnnbgmckeoaaa", sum := "1c0ea6c0ef532035a2b16da88813cbe661d740e3de118b1eca717a8440e449f4", func := "loop.example/roundturns/laws.FnExactGapsLong", spec := "fnExactGapsLong", apart := false }
def FnExactGapsLongSaid : Prop := fnExactGapsLongRow.holds Try.pinned (OpenSpec.ofChange fnExactGapsLongSpec)

/-- ITS FALSE NEIGHBOUR: 'it returns false'. Refute it at one input. -/
def fnExactGapsLongWrong : ChangeSpec := { name := "fnExactGapsLong", fn := fun _ => fun
  | [d1, d2, d3] => { results := [.lit (.bool false)], args := [d1, d2, d3] }
  | _ => none }
def FnExactGapsLongWrongFalsely : Prop := fnExactGapsLongRow.holds Try.pinned (OpenSpec.ofChange fnExactGapsLongWrong)

/- THE SECOND FORM. 'bulk': how many values and letters a reading holds, each counted each time it is reached (what is shared counts as often as it is met; a slice's spare places count too). A statement '..UptoSaid' is the law's where the arguments, and the package variables that the reading takes, are together of bulk at most 1048576: NARROWER than '..Said'. Prove '..Said' where nothing that the law and all that it calls make is longer than what came in: it says more and counts as full. Else prove '..UptoSaid'. A law counts once. -/
mutual
def uptoBulk {H : Type} : DataW H → Nat
  | .lit (.string bytes) => bytes.length + 1
  | .lit _ => 1
  | .nil => 1
  | .ptr d => uptoBulk d + 1
  | .slice elems spare => uptoBulkAll elems + uptoBulkAll spare + 1
  | .agg parts => uptoBulkAll parts + 1
  | .iface _ d => uptoBulk d + 1
  | .map entries => uptoBulkEntries entries + 1
  | .held _ => 1
def uptoBulkAll {H : Type} : List (DataW H) → Nat
  | [] => 0
  | d :: r => uptoBulk d + uptoBulkAll r
def uptoBulkEntries {H : Type} : List (Lit × DataW H) → Nat
  | [] => 0
  | x :: r => uptoBulkEntry x + uptoBulkEntries r
def uptoBulkEntry {H : Type} : Lit × DataW H → Nat
  | (.string bytes, d) => bytes.length + uptoBulk d + 1
  | (_, d) => uptoBulk d + 1
 end
def uptoSmall : (H : Type) → List (DataW H) → Bool := fun _ ds => decide (uptoBulkAll ds ≤ 1048576)
def OpenSpec.upto (s : _root_.Go.ChangeSpec) : _root_.Go.OpenSpec := { _root_.Go.OpenSpec.ofChange s with cond := some uptoSmall }

/-- 'laws.FnReturnOf', WHERE WHAT IT READS IS OF BULK AT MOST 1048576: true; the input reads as it did. -/
def fnReturnOfUptoRow : OpenClaim := { program := "ytkhnnbgmckeoaaa", sum := "1c0ea6c0ef532035a2b16da88813cbe661d740e3de118b1eca717a8440e449f4", func := "loop.example/roundturns/laws.FnReturnOf", spec := "fnReturnOf", unfollowed := true, recurses := true, apart := false, narrowed := true }
def FnReturnOfUptoSaid : Prop := fnReturnOfUptoRow.holds Try.pinned (OpenSpec.upto fnReturnOfSpec)

/-- 'laws.FnLandsAt', WHERE WHAT IT READS IS OF BULK AT MOST 1048576: true; the input reads as it did. -/
def fnLandsAtUptoRow : OpenClaim := { program := "ytkhnnbgmckeoaaa", sum := "1c0ea6c0ef532035a2b16da88813cbe661d740e3de118b1eca717a8440e449f4", func := "loop.example/roundturns/laws.FnLandsAt", spec := "fnLandsAt", unfollowed := true, recurses := true, apart := false, narrowed := true }
def FnLandsAtUptoSaid : Prop := fnLandsAtUptoRow.holds Try.pinned (OpenSpec.upto fnLandsAtSpec)

/-- 'laws.FnReturnTimes', WHERE WHAT IT READS IS OF BULK AT MOST 1048576: true; the input reads as it did. -/
def fnReturnTimesUptoRow : OpenClaim := { program := "ytkhnnbgmckeoaaa", sum := "1c0ea6c0ef532035a2b16da88813cbe661d740e3de118b1eca717a8440e449f4", func := "loop.example/roundturns/laws.FnReturnTimes", spec := "fnReturnTimes", unfollowed := true, recurses := true, apart := false, narrowed := true }
def FnReturnTimesUptoSaid : Prop := fnReturnTimesUptoRow.holds Try.pinned (OpenSpec.upto fnReturnTimesSpec)

/-- 'laws.FnReturnsLong', WHERE WHAT IT READS IS OF BULK AT MOST 1048576: true; the input reads as it did. -/
def fnReturnsLongUptoRow : OpenClaim := { program := "ytkhnnbgmckeoaaa", sum := "1c0ea6c0ef532035a2b16da88813cbe661d740e3de118b1eca717a8440e449f4", func := "loop.example/roundturns/laws.FnReturnsLong", spec := "fnReturnsLong", unfollowed := true, recurses := true, apart := false, narrowed := true }
def FnReturnsLongUptoSaid : Prop := fnReturnsLongUptoRow.holds Try.pinned (OpenSpec.upto fnReturnsLongSpec)

/-- 'laws.FnArcUp', WHERE WHAT IT READS IS OF BULK AT MOST 1048576: true; the input reads as it did. -/
def fnArcUpUptoRow : OpenClaim := { program := "ytkhnnbgmckeoaaa", sum := "1c0ea6c0ef532035a2b16da88813cbe661d740e3de118b1eca717a8440e449f4", func := "loop.example/roundturns/laws.FnArcUp", spec := "fnArcUp", unfollowed := true, recurses := true, apart := false, narrowed := true }
def FnArcUpUptoSaid : Prop := fnArcUpUptoRow.holds Try.pinned (OpenSpec.upto fnArcUpSpec)

/-- 'laws.FnArcDown', WHERE WHAT IT READS IS OF BULK AT MOST 1048576: true; the input reads as it did. -/
def fnArcDownUptoRow : OpenClaim := { program := "ytkhnnbgmckeoaaa", sum := "1c0ea6c0ef532035a2b16da88813cbe661d740e3de118b1eca717a8440e449f4", func := "loop.example/roundturns/laws.FnArcDown", spec := "fnArcDown", unfollowed := true, recurses := true, apart := false, narrowed := true }
def FnArcDownUptoSaid : Prop := fnArcDownUptoRow.holds Try.pinned (OpenSpec.upto fnArcDownSpec)

/-- 'laws.FnReturnsBy', WHERE WHAT IT READS IS OF BULK AT MOST 1048576: true; the input reads as it did. -/
def fnReturnsByUptoRow : OpenClaim := { program := "ytkhnnbgmckeoaaa", sum := "1c0ea6c0ef532035a2b16da88813cbe661d740e3de118b1eca717a8440e449f4", func := "loop.example/roundturns/laws.FnReturnsBy", spec := "fnReturnsBy", unfollowed := true, recurses := true, apart := false, narrowed := true }
def FnReturnsByUptoSaid : Prop := fnReturnsByUptoRow.holds Try.pinned (OpenSpec.upto fnReturnsBySpec)

/-- 'laws.FnReturnsAdd', WHERE WHAT IT READS IS OF BULK AT MOST 1048576: true; the input reads as it did. -/
def fnReturnsAddUptoRow : OpenClaim := { program := "ytkhnnbgmckeoaaa", sum := "1c0ea6c0ef532035a2b16da88813cbe661d740e3de118b1eca717a8440e449f4", func := "loop.example/roundturns/laws.FnReturnsAdd", spec := "fnReturnsAdd", unfollowed := true, recurses := true, apart := false, narrowed := true }
def FnReturnsAddUptoSaid : Prop := fnReturnsAddUptoRow.holds Try.pinned (OpenSpec.upto fnReturnsAddSpec)

/-- 'laws.FnExactReturnOf', WHERE WHAT IT READS IS OF BULK AT MOST 1048576: true; the input reads as it did. -/
def fnExactReturnOfUptoRow : OpenClaim := { program := "ytkhnnbgmckeoaaa", sum := "1c0ea6c0ef532035a2b16da88813cbe661d740e3de118b1eca717a8440e449f4", func := "loop.example/roundturns/laws.FnExactReturnOf", spec := "fnExactReturnOf", unfollowed := true, recurses := true, apart := false, narrowed := true }
def FnExactReturnOfUptoSaid : Prop := fnExactReturnOfUptoRow.holds Try.pinned (OpenSpec.upto fnExactReturnOfSpec)

/-- 'laws.FnExactLandsAt', WHERE WHAT IT READS IS OF BULK AT MOST 1048576: true; the input reads as it did. -/
def fnExactLandsAtUptoRow : OpenClaim := { program := "ytkhnnbgmckeoaaa", sum := "1c0ea6c0ef532035a2b16da88813cbe661d740e3de118b1eca717a8440e449f4", func := "loop.example/roundturns/laws.FnExactLandsAt", spec := "fnExactLandsAt", unfollowed := true, recurses := true, apart := false, narrowed := true }
def FnExactLandsAtUptoSaid : Prop := fnExactLandsAtUptoRow.holds Try.pinned (OpenSpec.upto fnExactLandsAtSpec)

/-- 'laws.FnExactReturnTimes', WHERE WHAT IT READS IS OF BULK AT MOST 1048576: true; the input reads as it did. -/
def fnExactReturnTimesUptoRow : OpenClaim := { program := "ytkhnnbgmckeoaaa", sum := "1c0ea6c0ef532035a2b16da88813cbe661d740e3de118b1eca717a8440e449f4", func := "loop.example/roundturns/laws.FnExactReturnTimes", spec := "fnExactReturnTimes", unfollowed := true, recurses := true, apart := false, narrowed := true }
def FnExactReturnTimesUptoSaid : Prop := fnExactReturnTimesUptoRow.holds Try.pinned (OpenSpec.upto fnExactReturnTimesSpec)

/-- 'laws.FnExactReturnsLong', WHERE WHAT IT READS IS OF BULK AT MOST 1048576: true; the input reads as it did. -/
def fnExactReturnsLongUptoRow : OpenClaim := { program := "ytkhnnbgmckeoaaa", sum := "1c0ea6c0ef532035a2b16da88813cbe661d740e3de118b1eca717a8440e449f4", func := "loop.example/roundturns/laws.FnExactReturnsLong", spec := "fnExactReturnsLong", unfollowed := true, recurses := true, apart := false, narrowed := true }
def FnExactReturnsLongUptoSaid : Prop := fnExactReturnsLongUptoRow.holds Try.pinned (OpenSpec.upto fnExactReturnsLongSpec)

/-- 'laws.FnExactArcUp', WHERE WHAT IT READS IS OF BULK AT MOST 1048576: true; the input reads as it did. -/
def fnExactArcUpUptoRow : OpenClaim := { program := "ytkhnnbgmckeoaaa", sum := "1c0ea6c0ef532035a2b16da88813cbe661d740e3de118b1eca717a8440e449f4", func := "loop.example/roundturns/laws.FnExactArcUp", spec := "fnExactArcUp", unfollowed := true, recurses := true, apart := false, narrowed := true }
def FnExactArcUpUptoSaid : Prop := fnExactArcUpUptoRow.holds Try.pinned (OpenSpec.upto fnExactArcUpSpec)

/-- 'laws.FnExactArcDown', WHERE WHAT IT READS IS OF BULK AT MOST 1048576: true; the input reads as it did. -/
def fnExactArcDownUptoRow : OpenClaim := { program := "ytkhnnbgmckeoaaa", sum := "1c0ea6c0ef532035a2b16da88813cbe661d740e3de118b1eca717a8440e449f4", func := "loop.example/roundturns/laws.FnExactArcDown", spec := "fnExactArcDown", unfollowed := true, recurses := true, apart := false, narrowed := true }
def FnExactArcDownUptoSaid : Prop := fnExactArcDownUptoRow.holds Try.pinned (OpenSpec.upto fnExactArcDownSpec)

/-- 'laws.FnExactReturnsBy', WHERE WHAT IT READS IS OF BULK AT MOST 1048576: true; the input reads as it did. -/
def fnExactReturnsByUptoRow : OpenClaim := { program := "ytkhnnbgmckeoaaa", sum := "1c0ea6c0ef532035a2b16da88813cbe661d740e3de118b1eca717a8440e449f4", func := "loop.example/roundturns/laws.FnExactReturnsBy", spec := "fnExactReturnsBy", unfollowed := true, recurses := true, apart := false, narrowed := true }
def FnExactReturnsByUptoSaid : Prop := fnExactReturnsByUptoRow.holds Try.pinned (OpenSpec.upto fnExactReturnsBySpec)

/-- 'laws.FnGapsLong', WHERE WHAT IT READS IS OF BULK AT MOST 1048576: true; the input reads as it did. -/
def fnGapsLongUptoRow : OpenClaim := { program := "ytkhnnbgmckeoaaa", sum := "1c0ea6c0ef532035a2b16da88813cbe661d740e3de118b1eca717a8440e449f4", func := "loop.example/roundturns/laws.FnGapsLong", spec := "fnGapsLong", apart := false, narrowed := true }
def FnGapsLongUptoSaid : Prop := fnGapsLongUptoRow.holds Try.pinned (OpenSpec.upto fnGapsLongSpec)

/-- 'laws.FnExactGapsLong', WHERE WHAT IT READS IS OF BULK AT MOST 1048576: true; the input reads as it did. -/
def fnExactGapsLongUptoRow : OpenClaim := { program := "ytkhnnbgmckeoaaa", sum := "1c0ea6c0ef532035a2b16da88813cbe661d740e3de118b1eca717a8440e449f4", func := "loop.example/roundturns/laws.FnExactGapsLong", spec := "fnExactGapsLong", apart := false, narrowed := true }
def FnExactGapsLongUptoSaid : Prop := fnExactGapsLongUptoRow.holds Try.pinned (OpenSpec.upto fnExactGapsLongSpec)

end Rows
end Go.Proofs.Ytkhnnbgmckeoaaa
