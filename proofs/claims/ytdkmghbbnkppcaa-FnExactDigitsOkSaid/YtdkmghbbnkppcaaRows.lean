/-
  No cell of these rows narrows 'for every input' (looked for: loops, veiled, ifaces, maps, wideKeys, modest, calm, conditions, laid).
  DERIVED. THE GIVEN ROWS OF THIS SEAT. 15 by the template 'for every input the law returns true; each argument reads behind the call as it read before'; 0 by the template 'total and deterministic' (their statements: YtdkmghbbnkppcaaTotals.lean).
  GIVEN WITH THE SEED: the statements are not yours to turn. If you find one false, say at which input.
  Laid BY PROGRAM, IN A SANDBOX (cutbox-rows.mjs): the forced cells as the released guide's own fill.sh prints them over the translation c1a6ac02348fbd93… (all of the seat's roots in one cut). By AI agents, Wed Nov 11 2026. No macro, syntax, notation, axiom, sorry.
-/
import Derived.Test.YtdkmghbbnkppcaaChecked
import GoSem.Claim
import GoSem.ClaimJoined
import GoSem.ClaimMapViews
import Derived.JoinedTies
import Derived.KernelRfl
namespace Go.Proofs.Ytdkmghbbnkppcaa
/- THE CELL 'sum', in the pinned program and in every row, IS THE sha256 OF THE DUMP (.gsa) THAT YtdkmghbbnkppcaaProg.lean LOADS. Nothing in Lean hashes anything: it is a label: what it is worth is what the hold of that sum in a sandbox is worth. -/
noncomputable def Try.pinned : Pinned := { name := "ytdkmghbbnkppcaa", sum := "c1a6ac02348fbd93c796196d377a339df8a0dfb8482a3c89f4fc60b48e5edc98", checked := Try.checked }
namespace Rows
def none {H : Type} : Left H := { results := [], args := [] }

/-- 'laws.FnBasisOf': WHATEVER THE INPUT: true; the input reads as it did. -/
def fnBasisOfSpec : ChangeSpec := { name := "fnBasisOf", fn := fun _ => fun
  | [d] => { results := [.lit (.bool true)], args := [d] }
  | _ => none }
def fnBasisOfRow : OpenClaim := { program := "ytdkmghbbnkppcaa", sum := "c1a6ac02348fbd93c796196d377a339df8a0dfb8482a3c89f4fc60b48e5edc98", func := "loop.example/roundturns/laws.FnBasisOf", spec := "fnBasisOf", unfollowed := true, recurses := true, apart := false }
def FnBasisOfSaid : Prop := fnBasisOfRow.holds Try.pinned (OpenSpec.ofChange fnBasisOfSpec)

/-- ITS FALSE NEIGHBOUR: 'it returns false'. Refute it at one input. -/
def fnBasisOfWrong : ChangeSpec := { name := "fnBasisOf", fn := fun _ => fun
  | [d] => { results := [.lit (.bool false)], args := [d] }
  | _ => none }
def FnBasisOfWrongFalsely : Prop := fnBasisOfRow.holds Try.pinned (OpenSpec.ofChange fnBasisOfWrong)

/-- 'laws.FnMostDigits': WHATEVER THE INPUT: true; the input reads as it did. -/
def fnMostDigitsSpec : ChangeSpec := { name := "fnMostDigits", fn := fun _ => fun
  | [d] => { results := [.lit (.bool true)], args := [d] }
  | _ => none }
def fnMostDigitsRow : OpenClaim := { program := "ytdkmghbbnkppcaa", sum := "c1a6ac02348fbd93c796196d377a339df8a0dfb8482a3c89f4fc60b48e5edc98", func := "loop.example/roundturns/laws.FnMostDigits", spec := "fnMostDigits", apart := false }
def FnMostDigitsSaid : Prop := fnMostDigitsRow.holds Try.pinned (OpenSpec.ofChange fnMostDigitsSpec)

/-- ITS FALSE NEIGHBOUR: 'it returns false'. Refute it at one input. -/
def fnMostDigitsWrong : ChangeSpec := { name := "fnMostDigits", fn := fun _ => fun
  | [d] => { results := [.lit (.bool false)], args := [d] }
  | _ => none }
def FnMostDigitsWrongFalsely : Prop := fnMostDigitsRow.holds Try.pinned (OpenSpec.ofChange fnMostDigitsWrong)

/-- 'laws.FnDigitsOf': WHATEVER THE INPUT: true; the input reads as it did. -/
def fnDigitsOfSpec : ChangeSpec := { name := "fnDigitsOf", fn := fun _ => fun
  | [d] => { results := [.lit (.bool true)], args := [d] }
  | _ => none }
def fnDigitsOfRow : OpenClaim := { program := "ytdkmghbbnkppcaa", sum := "c1a6ac02348fbd93c796196d377a339df8a0dfb8482a3c89f4fc60b48e5edc98", func := "loop.example/roundturns/laws.FnDigitsOf", spec := "fnDigitsOf", unfollowed := true, recurses := true, apart := false }
def FnDigitsOfSaid : Prop := fnDigitsOfRow.holds Try.pinned (OpenSpec.ofChange fnDigitsOfSpec)

/-- ITS FALSE NEIGHBOUR: 'it returns false'. Refute it at one input. -/
def fnDigitsOfWrong : ChangeSpec := { name := "fnDigitsOf", fn := fun _ => fun
  | [d] => { results := [.lit (.bool false)], args := [d] }
  | _ => none }
def FnDigitsOfWrongFalsely : Prop := fnDigitsOfRow.holds Try.pinned (OpenSpec.ofChange fnDigitsOfWrong)

/-- 'laws.FnDigitsOk': WHATEVER THE INPUT: true; the input reads as it did. -/
def fnDigitsOkSpec : ChangeSpec := { name := "fnDigitsOk", fn := fun _ => fun
  | [d] => { results := [.lit (.bool true)], args := [d] }
  | _ => none }
def fnDigitsOkRow : OpenClaim := { program := "ytdkmghbbnkppcaa", sum := "c1a6ac02348fbd93c796196d377a339df8a0dfb8482a3c89f4fc60b48e5edc98", func := "loop.example/roundturns/laws.FnDigitsOk", spec := "fnDigitsOk", unfollowed := true, recurses := true, apart := false }
def FnDigitsOkSaid : Prop := fnDigitsOkRow.holds Try.pinned (OpenSpec.ofChange fnDigitsOkSpec)

/-- ITS FALSE NEIGHBOUR: 'it returns false'. Refute it at one input. -/
def fnDigitsOkWrong : ChangeSpec := { name := "fnDigitsOk", fn := fun _ => fun
  | [d] => { results := [.lit (.bool false)], args := [d] }
  | _ => none }
def FnDigitsOkWrongFalsely : Prop := fnDigitsOkRow.holds Try.pinned (OpenSpec.ofChange fnDigitsOkWrong)

/-- 'laws.FnNumberOf': WHATEVER THE INPUT: true; the input reads as it did. -/
def fnNumberOfSpec : ChangeSpec := { name := "fnNumberOf", fn := fun _ => fun
  | [d] => { results := [.lit (.bool true)], args := [d] }
  | _ => none }
def fnNumberOfRow : OpenClaim := { program := "ytdkmghbbnkppcaa", sum := "c1a6ac02348fbd93c796196d377a339df8a0dfb8482a3c89f4fc60b48e5edc98", func := "loop.example/roundturns/laws.FnNumberOf", spec := "fnNumberOf", unfollowed := true, recurses := true, apart := false }
def FnNumberOfSaid : Prop := fnNumberOfRow.holds Try.pinned (OpenSpec.ofChange fnNumberOfSpec)

/-- ITS FALSE NEIGHBOUR: 'it returns false'. Refute it at one input. -/
def fnNumberOfWrong : ChangeSpec := { name := "fnNumberOf", fn := fun _ => fun
  | [d] => { results := [.lit (.bool false)], args := [d] }
  | _ => none }
def FnNumberOfWrongFalsely : Prop := fnNumberOfRow.holds Try.pinned (OpenSpec.ofChange fnNumberOfWrong)

/-- 'laws.FnNextDigits': WHATEVER THE INPUT: true; the input reads as it did. -/
def fnNextDigitsSpec : ChangeSpec := { name := "fnNextDigits", fn := fun _ => fun
  | [d] => { results := [.lit (.bool true)], args := [d] }
  | _ => none }
def fnNextDigitsRow : OpenClaim := { program := "ytdkmghbbnkppcaa", sum := "c1a6ac02348fbd93c796196d377a339df8a0dfb8482a3c89f4fc60b48e5edc98", func := "loop.example/roundturns/laws.FnNextDigits", spec := "fnNextDigits", unfollowed := true, recurses := true, apart := false }
def FnNextDigitsSaid : Prop := fnNextDigitsRow.holds Try.pinned (OpenSpec.ofChange fnNextDigitsSpec)

/-- ITS FALSE NEIGHBOUR: 'it returns false'. Refute it at one input. -/
def fnNextDigitsWrong : ChangeSpec := { name := "fnNextDigits", fn := fun _ => fun
  | [d] => { results := [.lit (.bool false)], args := [d] }
  | _ => none }
def FnNextDigitsWrongFalsely : Prop := fnNextDigitsRow.holds Try.pinned (OpenSpec.ofChange fnNextDigitsWrong)

/-- 'laws.FnDigitSum': WHATEVER THE INPUT: true; the input reads as it did. -/
def fnDigitSumSpec : ChangeSpec := { name := "fnDigitSum", fn := fun _ => fun
  | [d] => { results := [.lit (.bool true)], args := [d] }
  | _ => none }
def fnDigitSumRow : OpenClaim := { program := "ytdkmghbbnkppcaa", sum := "c1a6ac02348fbd93c796196d377a339df8a0dfb8482a3c89f4fc60b48e5edc98", func := "loop.example/roundturns/laws.FnDigitSum", spec := "fnDigitSum", unfollowed := true, recurses := true, apart := false }
def FnDigitSumSaid : Prop := fnDigitSumRow.holds Try.pinned (OpenSpec.ofChange fnDigitSumSpec)

/-- ITS FALSE NEIGHBOUR: 'it returns false'. Refute it at one input. -/
def fnDigitSumWrong : ChangeSpec := { name := "fnDigitSum", fn := fun _ => fun
  | [d] => { results := [.lit (.bool false)], args := [d] }
  | _ => none }
def FnDigitSumWrongFalsely : Prop := fnDigitSumRow.holds Try.pinned (OpenSpec.ofChange fnDigitSumWrong)

/-- 'laws.FnDigitsOrder': WHATEVER THE INPUT: true; the input reads as it did. -/
def fnDigitsOrderSpec : ChangeSpec := { name := "fnDigitsOrder", fn := fun _ => fun
  | [d1, d2] => { results := [.lit (.bool true)], args := [d1, d2] }
  | _ => none }
def fnDigitsOrderRow : OpenClaim := { program := "ytdkmghbbnkppcaa", sum := "c1a6ac02348fbd93c796196d377a339df8a0dfb8482a3c89f4fc60b48e5edc98", func := "loop.example/roundturns/laws.FnDigitsOrder", spec := "fnDigitsOrder", unfollowed := true, recurses := true, apart := false }
def FnDigitsOrderSaid : Prop := fnDigitsOrderRow.holds Try.pinned (OpenSpec.ofChange fnDigitsOrderSpec)

/-- ITS FALSE NEIGHBOUR: 'it returns false'. Refute it at one input. -/
def fnDigitsOrderWrong : ChangeSpec := { name := "fnDigitsOrder", fn := fun _ => fun
  | [d1, d2] => { results := [.lit (.bool false)], args := [d1, d2] }
  | _ => none }
def FnDigitsOrderWrongFalsely : Prop := fnDigitsOrderRow.holds Try.pinned (OpenSpec.ofChange fnDigitsOrderWrong)

/-- 'laws.FnExactBasisOf': WHATEVER THE INPUT: true; the input reads as it did. -/
def fnExactBasisOfSpec : ChangeSpec := { name := "fnExactBasisOf", fn := fun _ => fun
  | [d] => { results := [.lit (.bool true)], args := [d] }
  | _ => none }
def fnExactBasisOfRow : OpenClaim := { program := "ytdkmghbbnkppcaa", sum := "c1a6ac02348fbd93c796196d377a339df8a0dfb8482a3c89f4fc60b48e5edc98", func := "loop.example/roundturns/laws.FnExactBasisOf", spec := "fnExactBasisOf", apart := false }
def FnExactBasisOfSaid : Prop := fnExactBasisOfRow.holds Try.pinned (OpenSpec.ofChange fnExactBasisOfSpec)

/-- ITS FALSE NEIGHBOUR: 'it returns false'. Refute it at one input. -/
def fnExactBasisOfWrong : ChangeSpec := { name := "fnExactBasisOf", fn := fun _ => fun
  | [d] => { results := [.lit (.bool false)], args := [d] }
  | _ => none }
def FnExactBasisOfWrongFalsely : Prop := fnExactBasisOfRow.holds Try.pinned (OpenSpec.ofChange fnExactBasisOfWrong)

/-- 'laws.FnExactMostDigits': WHATEVER THE INPUT: true; the input reads as it did. -/
def fnExactMostDigitsSpec : ChangeSpec := { name := "fnExactMostDigits", fn := fun _ => fun
  | [d] => { results := [.lit (.bool true)], args := [d] }
  | _ => none }
def fnExactMostDigitsRow : OpenClaim := { program := "ytdkmghbbnkppcaa", sum := "c1a6ac02348fbd93c796196d377a339df8a0dfb8482a3c89f4fc60b48e5edc98", func := "loop.example/roundturns/laws.FnExactMostDigits", spec := "fnExactMostDigits", apart := false }
def FnExactMostDigitsSaid : Prop := fnExactMostDigitsRow.holds Try.pinned (OpenSpec.ofChange fnExactMostDigitsSpec)

/-- ITS FALSE NEIGHBOUR: 'it returns false'. Refute it at one input. -/
def fnExactMostDigitsWrong : ChangeSpec := { name := "fnExactMostDigits", fn := fun _ => fun
  | [d] => { results := [.lit (.bool false)], args := [d] }
  | _ => none }
def FnExactMostDigitsWrongFalsely : Prop := fnExactMostDigitsRow.holds Try.pinned (OpenSpec.ofChange fnExactMostDigitsWrong)

/-- 'laws.FnExactDigitsOf': WHATEVER THE INPUT: true; the input reads as it did. -/
def fnExactDigitsOfSpec : ChangeSpec := { name := "fnExactDigitsOf", fn := fun _ => fun
  | [d1, d2] => { results := [.lit (.bool true)], args := [d1, d2] }
  | _ => none }
def fnExactDigitsOfRow : OpenClaim := { program := "ytdkmghbbnkppcaa", sum := "c1a6ac02348fbd93c796196d377a339df8a0dfb8482a3c89f4fc60b48e5edc98", func := "loop.example/roundturns/laws.FnExactDigitsOf", spec := "fnExactDigitsOf", unfollowed := true, recurses := true, apart := false }
def FnExactDigitsOfSaid : Prop := fnExactDigitsOfRow.holds Try.pinned (OpenSpec.ofChange fnExactDigitsOfSpec)

/-- ITS FALSE NEIGHBOUR: 'it returns false'. Refute it at one input. -/
def fnExactDigitsOfWrong : ChangeSpec := { name := "fnExactDigitsOf", fn := fun _ => fun
  | [d1, d2] => { results := [.lit (.bool false)], args := [d1, d2] }
  | _ => none }
def FnExactDigitsOfWrongFalsely : Prop := fnExactDigitsOfRow.holds Try.pinned (OpenSpec.ofChange fnExactDigitsOfWrong)

/-- 'laws.FnExactDigitsOk': WHATEVER THE INPUT: true; the input reads as it did. -/
def fnExactDigitsOkSpec : ChangeSpec := { name := "fnExactDigitsOk", fn := fun _ => fun
  | [d1, d2] => { results := [.lit (.bool true)], args := [d1, d2] }
  | _ => none }
def fnExactDigitsOkRow : OpenClaim := { program := "ytdkmghbbnkppcaa", sum := "c1a6ac02348fbd93c796196d377a339df8a0dfb8482a3c89f4fc60b48e5edc98", func := "loop.example/roundturns/laws.FnExactDigitsOk", spec := "fnExactDigitsOk", apart := false }
def FnExactDigitsOkSaid : Prop := fnExactDigitsOkRow.holds Try.pinned (OpenSpec.ofChange fnExactDigitsOkSpec)

/-- ITS FALSE NEIGHBOUR: 'it returns false'. Refute it at one input. -/
def fnExactDigitsOkWrong : ChangeSpec := { name := "fnExactDigitsOk", fn := fun _ => fun
  | [d1, d2] => { results := [.lit (.bool false)], args := [d1, d2] }
  | _ => none }
def FnExactDigitsOkWrongFalsely : Prop := fnExactDigitsOkRow.holds Try.pinned (OpenSpec.ofChange fnExactDigitsOkWrong)

/-- 'laws.FnExactNumberOf': WHATEVER THE INPUT: true; the input reads as it did. -/
def fnExactNumberOfSpec : ChangeSpec := { name := "fnExactNumberOf", fn := fun _ => fun
  | [d1, d2] => { results := [.lit (.bool true)], args := [d1, d2] }
  | _ => none }
def fnExactNumberOfRow : OpenClaim := { program := "ytdkmghbbnkppcaa", sum := "c1a6ac02348fbd93c796196d377a339df8a0dfb8482a3c89f4fc60b48e5edc98", func := "loop.example/roundturns/laws.FnExactNumberOf", spec := "fnExactNumberOf", unfollowed := true, recurses := true, apart := false }
def FnExactNumberOfSaid : Prop := fnExactNumberOfRow.holds Try.pinned (OpenSpec.ofChange fnExactNumberOfSpec)

/-- ITS FALSE NEIGHBOUR: 'it returns false'. Refute it at one input. -/
def fnExactNumberOfWrong : ChangeSpec := { name := "fnExactNumberOf", fn := fun _ => fun
  | [d1, d2] => { results := [.lit (.bool false)], args := [d1, d2] }
  | _ => none }
def FnExactNumberOfWrongFalsely : Prop := fnExactNumberOfRow.holds Try.pinned (OpenSpec.ofChange fnExactNumberOfWrong)

/-- 'laws.FnExactNextDigits': WHATEVER THE INPUT: true; the input reads as it did. -/
def fnExactNextDigitsSpec : ChangeSpec := { name := "fnExactNextDigits", fn := fun _ => fun
  | [d1, d2] => { results := [.lit (.bool true)], args := [d1, d2] }
  | _ => none }
def fnExactNextDigitsRow : OpenClaim := { program := "ytdkmghbbnkppcaa", sum := "c1a6ac02348fbd93c796196d377a339df8a0dfb8482a3c89f4fc60b48e5edc98", func := "loop.example/roundturns/laws.FnExactNextDigits", spec := "fnExactNextDigits", apart := false }
def FnExactNextDigitsSaid : Prop := fnExactNextDigitsRow.holds Try.pinned (OpenSpec.ofChange fnExactNextDigitsSpec)

/-- ITS FALSE NEIGHBOUR: 'it returns false'. Refute it at one input. -/
def fnExactNextDigitsWrong : ChangeSpec := { name := "fnExactNextDigits", fn := fun _ => fun
  | [d1, d2] => { results := [.lit (.bool false)], args := [d1, d2] }
  | _ => none }
def FnExactNextDigitsWrongFalsely : Prop := fnExactNextDigitsRow.holds Try.pinned (OpenSpec.ofChange fnExactNextDigitsWrong)

/-- 'laws.FnExactDigitSum': WHATEVER THE INPUT: true; the input reads as it did. -/
def fnExactDigitSumSpec : ChangeSpec := { name := "fnExactDigitSum", fn := fun _ => fun
  | [d1, d2] => { results := [.lit (.bool true)], args := [d1, d2] }
  | _ => none }
def fnExactDigitSumRow : OpenClaim := { program := "ytdkmghbbnkppcaa", sum := "c1a6ac02348fbd93c796196d377a339df8a0dfb8482a3c89f4fc60b48e5edc98", func := "loop.example/roundturns/laws.FnExactDigitSum", spec := "fnExactDigitSum", unfollowed := true, recurses := true, apart := false }
def FnExactDigitSumSaid : Prop := fnExactDigitSumRow.holds Try.pinned (OpenSpec.ofChange fnExactDigitSumSpec)

/-- ITS FALSE NEIGHBOUR: 'it returns false'. Refute it at one input. -/
def fnExactDigitSumWrong : ChangeSpec := { name := "fnExactDigitSum", fn := fun _ => fun
  | [d1, d2] => { results := [.lit (.bool false)], args := [d1, d2] }
  | _ => none }
def FnExactDigitSumWrongFalsely : Prop := fnExactDigitSumRow.holds Try.pinned (OpenSpec.ofChange fnExactDigitSumWrong)

/- THE SECOND FORM. 'bulk': how many values and letters a reading holds, each counted each time it is reached (what is shared counts as often as it is met; a slice's spare places count too). A statement '..UptoSaid' is the law's where the arguments, and the package variables that the reading takes, are together of bulk at most 1048576: NARROWER than '..Said'. Prove '..Said' where nothing that the law and all that it calls make is longer than what came in: it says more and counts as full. Else prove '..UptoSaid'. A law counts once. -/
mutual
def uptoBulk {H : Type} : DataW H → Nat
  | .lit (.string bytes) => bytes.length + 1
  | .lit _ => 1
  | .nil => 1
  | .ptr d => uptoBulk d + 1
  | .slice elems spare => uptoBulkAll elems + uptoBulkAll spare + 1
  | .agg parts => uptoBulkAll parts + 1
  | .iface _ d => uptoBulk d + 1
  | .map entries => uptoBulkEntries entries + 1
  | .held _ => 1
def uptoBulkAll {H : Type} : List (DataW H) → Nat
  | [] => 0
  | d :: r => uptoBulk d + uptoBulkAll r
def uptoBulkEntries {H : Type} : List (Lit × DataW H) → Nat
  | [] => 0
  | x :: r => uptoBulkEntry x + uptoBulkEntries r
def uptoBulkEntry {H : Type} : Lit × DataW H → Nat
  | (.string bytes, d) => bytes.length + uptoBulk d + 1
  | (_, d) => uptoBulk d + 1
 end
def uptoSmall : (H : Type) → List (DataW H) → Bool := fun _ ds => decide (uptoBulkAll ds ≤ 1048576)
def OpenSpec.upto (s : _root_.Go.ChangeSpec) : _root_.Go.OpenSpec := { _root_.Go.OpenSpec.ofChange s with cond := some uptoSmall }

/-- 'laws.FnBasisOf', WHERE WHAT IT READS IS OF BULK AT MOST 1048576: true; the input reads as it did. -/
def fnBasisOfUptoRow : OpenClaim := { program := "ytdkmghbbnkppcaa", sum := "c1a6ac02348fbd93c796196d377a339df8a0dfb8482a3c89f4fc60b48e5edc98", func := "loop.example/roundturns/laws.FnBasisOf", spec := "fnBasisOf", unfollowed := true, recurses := true, apart := false, narrowed := true }
def FnBasisOfUptoSaid : Prop := fnBasisOfUptoRow.holds Try.pinned (OpenSpec.upto fnBasisOfSpec)

/-- 'laws.FnMostDigits', WHERE WHAT IT READS IS OF BULK AT MOST 1048576: true; the input reads as it did. -/
def fnMostDigitsUptoRow : OpenClaim := { program := "ytdkmghbbnkppcaa", sum := "c1a6ac02348fbd93c796196d377a339df8a0dfb8482a3c89f4fc60b48e5edc98", func := "loop.example/roundturns/laws.FnMostDigits", spec := "fnMostDigits", apart := false, narrowed := true }
def FnMostDigitsUptoSaid : Prop := fnMostDigitsUptoRow.holds Try.pinned (OpenSpec.upto fnMostDigitsSpec)

/-- 'laws.FnDigitsOf', WHERE WHAT IT READS IS OF BULK AT MOST 1048576: true; the input reads as it did. -/
def fnDigitsOfUptoRow : OpenClaim := { program := "ytdkmghbbnkppcaa", sum := "c1a6ac02348fbd93c796196d377a339df8a0dfb8482a3c89f4fc60b48e5edc98", func := "loop.example/roundturns/laws.FnDigitsOf", spec := "fnDigitsOf", unfollowed := true, recurses := true, apart := false, narrowed := true }
def FnDigitsOfUptoSaid : Prop := fnDigitsOfUptoRow.holds Try.pinned (OpenSpec.upto fnDigitsOfSpec)

/-- 'laws.FnDigitsOk', WHERE WHAT IT READS IS OF BULK AT MOST 1048576: true; the input reads as it did. -/
def fnDigitsOkUptoRow : OpenClaim := { program := "ytdkmghbbnkppcaa", sum := "c1a6ac02348fbd93c796196d377a339df8a0dfb8482a3c89f4fc60b48e5edc98", func := "loop.example/roundturns/laws.FnDigitsOk", spec := "fnDigitsOk", unfollowed := true, recurses := true, apart := false, narrowed := true }
def FnDigitsOkUptoSaid : Prop := fnDigitsOkUptoRow.holds Try.pinned (OpenSpec.upto fnDigitsOkSpec)

/-- 'laws.FnNumberOf', WHERE WHAT IT READS IS OF BULK AT MOST 1048576: true; the input reads as it did. -/
def fnNumberOfUptoRow : OpenClaim := { program := "ytdkmghbbnkppcaa", sum := "c1a6ac02348fbd93c796196d377a339df8a0dfb8482a3c89f4fc60b48e5edc98", func := "loop.example/roundturns/laws.FnNumberOf", spec := "fnNumberOf", unfollowed := true, recurses := true, apart := false, narrowed := true }
def FnNumberOfUptoSaid : Prop := fnNumberOfUptoRow.holds Try.pinned (OpenSpec.upto fnNumberOfSpec)

/-- 'laws.FnNextDigits', WHERE WHAT IT READS IS OF BULK AT MOST 1048576: true; the input reads as it did. -/
def fnNextDigitsUptoRow : OpenClaim := { program := "ytdkmghbbnkppcaa", sum := "c1a6ac02348fbd93c796196d377a339df8a0dfb8482a3c89f4fc60b48e5edc98", func := "loop.example/roundturns/laws.FnNextDigits", spec := "fnNextDigits", unfollowed := true, recurses := true, apart := false, narrowed := true }
def FnNextDigitsUptoSaid : Prop := fnNextDigitsUptoRow.holds Try.pinned (OpenSpec.upto fnNextDigitsSpec)

/-- 'laws.FnDigitSum', WHERE WHAT IT READS IS OF BULK AT MOST 1048576: true; the input reads as it did. -/
def fnDigitSumUptoRow : OpenClaim := { program := "ytdkmghbbnkppcaa", sum := "c1a6ac02348fbd93c796196d377a339df8a0dfb8482a3c89f4fc60b48e5edc98", func := "loop.example/roundturns/laws.FnDigitSum", spec := "fnDigitSum", unfollowed := true, recurses := true, apart := false, narrowed := true }
def FnDigitSumUptoSaid : Prop := fnDigitSumUptoRow.holds Try.pinned (OpenSpec.upto fnDigitSumSpec)

/-- 'laws.FnDigitsOrder', WHERE WHAT IT READS IS OF BULK AT MOST 1048576: true; the input reads as it did. -/
def fnDigitsOrderUptoRow : OpenClaim := { program := "ytdkmghbbnkppcaa", sum := "c1a6ac02348fbd93c796196d377a339df8a0dfb8482a3c89f4fc60b48e5edc98", func := "loop.example/roundturns/laws.FnDigitsOrder", spec := "fnDigitsOrder", unfollowed := true, recurses := true, apart := false, narrowed := true }
def FnDigitsOrderUptoSaid : Prop := fnDigitsOrderUptoRow.holds Try.pinned (OpenSpec.upto fnDigitsOrderSpec)

/-- 'laws.FnExactBasisOf', WHERE WHAT IT READS IS OF BULK AT MOST 1048576: true; the input reads as it did. -/
def fnExactBasisOfUptoRow : OpenClaim := { program := "ytdkmghbbnkppcaa", sum := "c1a6ac02348fbd93c796196d377a339df8a0dfb8482a3c89f4fc60b48e5edc98", func := "loop.example/roundturns/laws.FnExactBasisOf", spec := "fnExactBasisOf", apart := false, narrowed := true }
def FnExactBasisOfUptoSaid : Prop := fnExactBasisOfUptoRow.holds Try.pinned (OpenSpec.upto fnExactBasisOfSpec)

/-- 'laws.FnExactMostDigits', WHERE WHAT IT READS IS OF BULK AT MOST 1048576: true; the input reads as it did. -/
def fnExactMostDigitsUptoRow : OpenClaim := { program := "ytdkmghbbnkppcaa", sum := "c1a6ac02348fbd93c796196d377a339df8a0dfb8482a3c89f4fc60b48e5edc98", func := "loop.example/roundturns/laws.FnExactMostDigits", spec := "fnExactMostDigits", apart := false, narrowed := true }
def FnExactMostDigitsUptoSaid : Prop := fnExactMostDigitsUptoRow.holds Try.pinned (OpenSpec.upto fnExactMostDigitsSpec)

/-- 'laws.FnExactDigitsOf', WHERE WHAT IT READS IS OF BULK AT MOST 1048576: true; the input reads as it did. -/
def fnExactDigitsOfUptoRow : OpenClaim := { program := "ytdkmghbbnkppcaa", sum := "c1a6ac02348fbd93c796196d377a339df8a0dfb8482a3c89f4fc60b48e5edc98", func := "loop.example/roundturns/laws.FnExactDigitsOf", spec := "fnExactDigitsOf", unfollowed := true, recurses := true, apart := false, narrowed := true }
def FnExactDigitsOfUptoSaid : Prop := fnExactDigitsOfUptoRow.holds Try.pinned (OpenSpec.upto fnExactDigitsOfSpec)

/-- 'laws.FnExactDigitsOk', WHERE WHAT IT READS IS OF BULK AT MOST 1048576: true; the input reads as it did. -/
def fnExactDigitsOkUptoRow : OpenClaim := { program := "ytdkmghbbnkppcaa", sum := "c1a6ac02348fbd93c796196d377a339df8a0dfb8482a3c89f4fc60b48e5edc98", func := "loop.example/roundturns/laws.FnExactDigitsOk", spec := "fnExactDigitsOk", apart := false, narrowed := true }
def FnExactDigitsOkUptoSaid : Prop := fnExactDigitsOkUptoRow.holds Try.pinned (OpenSpec.upto fnExactDigitsOkSpec)

/-- 'laws.FnExactNumberOf', WHERE WHAT IT READS IS OF BULK AT MOST 1048576: true; the input reads as it did. -/
def fnExactNumberOfUptoRow : OpenClaim := { program := "ytdkmghbbnkppcaa", sum := "c1a6ac02348fbd93c796196d377a339df8a0dfb8482a3c89f4fc60b48e5edc98", func := "loop.example/roundturns/laws.FnExactNumberOf", spec := "fnExactNumberOf", unfollowed := true, recurses := true, apart := false, narrowed := true }
def FnExactNumberOfUptoSaid : Prop := fnExactNumberOfUptoRow.holds Try.pinned (OpenSpec.upto fnExactNumberOfSpec)

/-- 'laws.FnExactNextDigits', WHERE WHAT IT READS IS OF BULK AT MOST 1048576: true; the input reads as it did. -/
def fnExactNextDigitsUptoRow : OpenClaim := { program := "ytdkmghbbnkppcaa", sum := "c1a6ac02348fbd93c796196d377a339df8a0dfb8482a3c89f4fc60b48e5edc98", func := "loop.example/roundturns/laws.FnExactNextDigits", spec := "fnExactNextDigits", apart := false, narrowed := true }
def FnExactNextDigitsUptoSaid : Prop := fnExactNextDigitsUptoRow.holds Try.pinned (OpenSpec.upto fnExactNextDigitsSpec)

/-- 'laws.FnExactDigitSum', WHERE WHAT IT READS IS OF BULK AT MOST 1048576: true; the input reads as it did. -/
def fnExactDigitSumUptoRow : OpenClaim := { program := "ytdkmghbbnkppcaa", sum := "c1a6ac02348fbd93c796196d377a339df8a0dfb8482a3c89f4fc60b48e5edc98", func := "loop.example/roundturns/laws.FnExactDigitSum", spec := "fnExactDigitSum", unfollowed := true, recurses := true, apart := false, narrowed := true }
def FnExactDigitSumUptoSaid : Prop := fnExactDigitSumUptoRow.holds Try.pinned (OpenSpec.upto fnExactDigitSumSpec)

end Rows
end Go.Proofs.Ytdkmghbbnkppcaa
