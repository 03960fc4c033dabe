/-
  No cell of these rows narrows 'for every input' (looked for: loops, veiled, ifaces, maps, wideKeys, modest, calm, conditions, laid).
  DERIVED. THE GIVEN ROWS OF THIS SEAT. 11 by the template 'for every input the law returns true; each argument reads behind the call as it read before'; 0 by the template 'total and deterministic' (their statements: YtppahekbgbbidacTotals.lean).
  GIVEN WITH THE SEED: the statements are not yours to turn. If you find one false, say at which input.
  Laid BY PROGRAM, IN A SANDBOX (cutbox-rows.mjs): the forced cells as the released guide's own fill.sh prints them over the translation 321b1888968d52b1… (all of the seat's roots in one cut). By AI agents, Wed Nov 11 2026. No macro, syntax, notation, axiom, sorry.
-/
import Derived.Test.YtppahekbgbbidacChecked
import GoSem.Claim
import GoSem.ClaimJoined
import GoSem.ClaimMapViews
import Derived.JoinedTies
import Derived.KernelRfl
namespace Go.Proofs.Ytppahekbgbbidac
/- THE CELL 'sum', in the pinned program and in every row, IS THE sha256 OF THE DUMP (.gsa) THAT YtppahekbgbbidacProg.lean LOADS. Nothing in Lean hashes anything: it is a label: what it is worth is what the hold of that sum in a sandbox is worth. -/
noncomputable def Try.pinned : Pinned := { name := "ytppahekbgbbidac", sum := "321b1888968d52b1f067099eccfa0d451590998f8d79d743616f159a0cd3f8a5", checked := Try.checked }
namespace Rows
def none {H : Type} : Left H := { results := [], args := [] }

/-- 'laws.FnExcessBy': WHATEVER THE INPUT: true; the input reads as it did. -/
def fnExcessBySpec : ChangeSpec := { name := "fnExcessBy", fn := fun _ => fun
  | [d] => { results := [.lit (.bool true)], args := [d] }
  | _ => none }
def fnExcessByRow : OpenClaim := { program := "ytppahekbgbbidac", sum := "321b1888968d52b1f067099eccfa0d451590998f8d79d743616f159a0cd3f8a5", func := "loop.example/roundturns/laws.FnExcessBy", spec := "fnExcessBy", unfollowed := true, recurses := true, apart := false }
def FnExcessBySaid : Prop := fnExcessByRow.holds Try.pinned (OpenSpec.ofChange fnExcessBySpec)

/-- ITS FALSE NEIGHBOUR: 'it returns false'. Refute it at one input. -/
def fnExcessByWrong : ChangeSpec := { name := "fnExcessBy", fn := fun _ => fun
  | [d] => { results := [.lit (.bool false)], args := [d] }
  | _ => none }
def FnExcessByWrongFalsely : Prop := fnExcessByRow.holds Try.pinned (OpenSpec.ofChange fnExcessByWrong)

/-- 'laws.FnExcessOf': WHATEVER THE INPUT: true; the input reads as it did. -/
def fnExcessOfSpec : ChangeSpec := { name := "fnExcessOf", fn := fun _ => fun
  | [d] => { results := [.lit (.bool true)], args := [d] }
  | _ => none }
def fnExcessOfRow : OpenClaim := { program := "ytppahekbgbbidac", sum := "321b1888968d52b1f067099eccfa0d451590998f8d79d743616f159a0cd3f8a5", func := "loop.example/roundturns/laws.FnExcessOf", spec := "fnExcessOf", unfollowed := true, recurses := true, apart := false }
def FnExcessOfSaid : Prop := fnExcessOfRow.holds Try.pinned (OpenSpec.ofChange fnExcessOfSpec)

/-- ITS FALSE NEIGHBOUR: 'it returns false'. Refute it at one input. -/
def fnExcessOfWrong : ChangeSpec := { name := "fnExcessOf", fn := fun _ => fun
  | [d] => { results := [.lit (.bool false)], args := [d] }
  | _ => none }
def FnExcessOfWrongFalsely : Prop := fnExcessOfRow.holds Try.pinned (OpenSpec.ofChange fnExcessOfWrong)

/-- 'laws.FnSpanOf': WHATEVER THE INPUT: true; the input reads as it did. -/
def fnSpanOfSpec : ChangeSpec := { name := "fnSpanOf", fn := fun _ => fun
  | [d] => { results := [.lit (.bool true)], args := [d] }
  | _ => none }
def fnSpanOfRow : OpenClaim := { program := "ytppahekbgbbidac", sum := "321b1888968d52b1f067099eccfa0d451590998f8d79d743616f159a0cd3f8a5", func := "loop.example/roundturns/laws.FnSpanOf", spec := "fnSpanOf", unfollowed := true, recurses := true, apart := false }
def FnSpanOfSaid : Prop := fnSpanOfRow.holds Try.pinned (OpenSpec.ofChange fnSpanOfSpec)

/-- ITS FALSE NEIGHBOUR: 'it returns false'. Refute it at one input. -/
def fnSpanOfWrong : ChangeSpec := { name := "fnSpanOf", fn := fun _ => fun
  | [d] => { results := [.lit (.bool false)], args := [d] }
  | _ => none }
def FnSpanOfWrongFalsely : Prop := fnSpanOfRow.holds Try.pinned (OpenSpec.ofChange fnSpanOfWrong)

/-- 'laws.FnExactReturnsBy': WHATEVER THE INPUT: true; the input reads as it did. -/
def fnExactReturnsBySpec : ChangeSpec := { name := "fnExactReturnsBy", fn := fun _ => fun
  | [d1, d2] => { results := [.lit (.bool true)], args := [d1, d2] }
  | _ => none }
def fnExactReturnsByRow : OpenClaim := { program := "ytppahekbgbbidac", sum := "321b1888968d52b1f067099eccfa0d451590998f8d79d743616f159a0cd3f8a5", func := "loop.example/roundturns/laws.FnExactReturnsBy", spec := "fnExactReturnsBy", unfollowed := true, recurses := true, apart := false }
def FnExactReturnsBySaid : Prop := fnExactReturnsByRow.holds Try.pinned (OpenSpec.ofChange fnExactReturnsBySpec)

/-- ITS FALSE NEIGHBOUR: 'it returns false'. Refute it at one input. -/
def fnExactReturnsByWrong : ChangeSpec := { name := "fnExactReturnsBy", fn := fun _ => fun
  | [d1, d2] => { results := [.lit (.bool false)], args := [d1, d2] }
  | _ => none }
def FnExactReturnsByWrongFalsely : Prop := fnExactReturnsByRow.holds Try.pinned (OpenSpec.ofChange fnExactReturnsByWrong)

/-- 'laws.FnReturnsBy': WHATEVER THE INPUT: true; the input reads as it did. -/
def fnReturnsBySpec : ChangeSpec := { name := "fnReturnsBy", fn := fun _ => fun
  | [d] => { results := [.lit (.bool true)], args := [d] }
  | _ => none }
def fnReturnsByRow : OpenClaim := { program := "ytppahekbgbbidac", sum := "321b1888968d52b1f067099eccfa0d451590998f8d79d743616f159a0cd3f8a5", func := "loop.example/roundturns/laws.FnReturnsBy", spec := "fnReturnsBy", unfollowed := true, recurses := true, apart := false }
def FnReturnsBySaid : Prop := fnReturnsByRow.holds Try.pinned (OpenSpec.ofChange fnReturnsBySpec)

/-- ITS FALSE NEIGHBOUR: 'it returns false'. Refute it at one input. -/
def fnReturnsByWrong : ChangeSpec := { name := "fnReturnsBy", fn := fun _ => fun
  | [d] => { results := [.lit (.bool false)], args := [d] }
  | _ => none }
def FnReturnsByWrongFalsely : Prop := fnReturnsByRow.holds Try.pinned (OpenSpec.ofChange fnReturnsByWrong)

/-- 'laws.FnReturnsLong': WHATEVER THE INPUT: true; the input reads as it did. -/
def fnReturnsLongSpec : ChangeSpec := { name := "fnReturnsLong", fn := fun _ => fun
  | [d] => { results := [.lit (.bool true)], args := [d] }
  | _ => none }
def fnReturnsLongRow : OpenClaim := { program := "ytppahekbgbbidac", sum := "321b1888968d52b1f067099eccfa0d451590998f8d79d743616f159a0cd3f8a5", func := "loop.example/roundturns/laws.FnReturnsLong", spec := "fnReturnsLong", unfollowed := true, recurses := true, apart := false }
def FnReturnsLongSaid : Prop := fnReturnsLongRow.holds Try.pinned (OpenSpec.ofChange fnReturnsLongSpec)

/-- ITS FALSE NEIGHBOUR: 'it returns false'. Refute it at one input. -/
def fnReturnsLongWrong : ChangeSpec := { name := "fnReturnsLong", fn := fun _ => fun
  | [d] => { results := [.lit (.bool false)], args := [d] }
  | _ => none }
def FnReturnsLongWrongFalsely : Prop := fnReturnsLongRow.holds Try.pinned (OpenSpec.ofChange fnReturnsLongWrong)

/-- 'laws.FnExactInnerTurn': WHATEVER THE INPUT: true; the input reads as it did. -/
def fnExactInnerTurnSpec : ChangeSpec := { name := "fnExactInnerTurn", fn := fun _ => fun
  | [d] => { results := [.lit (.bool true)], args := [d] }
  | _ => none }
def fnExactInnerTurnRow : OpenClaim := { program := "ytppahekbgbbidac", sum := "321b1888968d52b1f067099eccfa0d451590998f8d79d743616f159a0cd3f8a5", func := "loop.example/roundturns/laws.FnExactInnerTurn", spec := "fnExactInnerTurn", inPlace := ["internal/bytealg.CountString", "internal/bytealg.IndexByteString", "internal/bytealg.IndexString"], unfollowed := true, recurses := true, named := ["internal/bytealg.MaxLen"], apart := false }
def FnExactInnerTurnSaid : Prop := fnExactInnerTurnRow.holds Try.pinned (OpenSpec.ofChange fnExactInnerTurnSpec)

/-- ITS FALSE NEIGHBOUR: 'it returns false'. Refute it at one input. -/
def fnExactInnerTurnWrong : ChangeSpec := { name := "fnExactInnerTurn", fn := fun _ => fun
  | [d] => { results := [.lit (.bool false)], args := [d] }
  | _ => none }
def FnExactInnerTurnWrongFalsely : Prop := fnExactInnerTurnRow.holds Try.pinned (OpenSpec.ofChange fnExactInnerTurnWrong)

/-- 'laws.FnExactInnerTurns': WHATEVER THE INPUT: true; the input reads as it did. -/
def fnExactInnerTurnsSpec : ChangeSpec := { name := "fnExactInnerTurns", fn := fun _ => fun
  | [d] => { results := [.lit (.bool true)], args := [d] }
  | _ => none }
def fnExactInnerTurnsRow : OpenClaim := { program := "ytppahekbgbbidac", sum := "321b1888968d52b1f067099eccfa0d451590998f8d79d743616f159a0cd3f8a5", func := "loop.example/roundturns/laws.FnExactInnerTurns", spec := "fnExactInnerTurns", inPlace := ["internal/bytealg.CountString", "internal/bytealg.IndexByteString", "internal/bytealg.IndexString"], unfollowed := true, recurses := true, named := ["internal/bytealg.MaxLen"], apart := false }
def FnExactInnerTurnsSaid : Prop := fnExactInnerTurnsRow.holds Try.pinned (OpenSpec.ofChange fnExactInnerTurnsSpec)

/-- ITS FALSE NEIGHBOUR: 'it returns false'. Refute it at one input. -/
def fnExactInnerTurnsWrong : ChangeSpec := { name := "fnExactInnerTurns", fn := fun _ => fun
  | [d] => { results := [.lit (.bool false)], args := [d] }
  | _ => none }
def FnExactInnerTurnsWrongFalsely : Prop := fnExactInnerTurnsRow.holds Try.pinned (OpenSpec.ofChange fnExactInnerTurnsWrong)

/-- 'laws.FnInnerTurn': WHATEVER THE INPUT: true; the input reads as it did. -/
def fnInnerTurnSpec : ChangeSpec := { name := "fnInnerTurn", fn := fun _ => fun
  | [d] => { results := [.lit (.bool true)], args := [d] }
  | _ => none }
def fnInnerTurnRow : OpenClaim := { program := "ytppahekbgbbidac", sum := "321b1888968d52b1f067099eccfa0d451590998f8d79d743616f159a0cd3f8a5", func := "loop.example/roundturns/laws.FnInnerTurn", spec := "fnInnerTurn", inPlace := ["internal/bytealg.CountString", "internal/bytealg.IndexByteString", "internal/bytealg.IndexString"], unfollowed := true, recurses := true, named := ["internal/bytealg.MaxLen"], apart := false }
def FnInnerTurnSaid : Prop := fnInnerTurnRow.holds Try.pinned (OpenSpec.ofChange fnInnerTurnSpec)

/-- ITS FALSE NEIGHBOUR: 'it returns false'. Refute it at one input. -/
def fnInnerTurnWrong : ChangeSpec := { name := "fnInnerTurn", fn := fun _ => fun
  | [d] => { results := [.lit (.bool false)], args := [d] }
  | _ => none }
def FnInnerTurnWrongFalsely : Prop := fnInnerTurnRow.holds Try.pinned (OpenSpec.ofChange fnInnerTurnWrong)

/-- 'laws.FnInnerTurns': WHATEVER THE INPUT: true; the input reads as it did. -/
def fnInnerTurnsSpec : ChangeSpec := { name := "fnInnerTurns", fn := fun _ => fun
  | [d] => { results := [.lit (.bool true)], args := [d] }
  | _ => none }
def fnInnerTurnsRow : OpenClaim := { program := "ytppahekbgbbidac", sum := "321b1888968d52b1f067099eccfa0d451590998f8d79d743616f159a0cd3f8a5", func := "loop.example/roundturns/laws.FnInnerTurns", spec := "fnInnerTurns", inPlace := ["internal/bytealg.CountString", "internal/bytealg.IndexByteString", "internal/bytealg.IndexString"], unfollowed := true, recurses := true, named := ["internal/bytealg.MaxLen"], apart := false }
def FnInnerTurnsSaid : Prop := fnInnerTurnsRow.holds Try.pinned (OpenSpec.ofChange fnInnerTurnsSpec)

/-- ITS FALSE NEIGHBOUR: 'it returns false'. Refute it at one input. -/
def fnInnerTurnsWrong : ChangeSpec := { name := "fnInnerTurns", fn := fun _ => fun
  | [d] => { results := [.lit (.bool false)], args := [d] }
  | _ => none }
def FnInnerTurnsWrongFalsely : Prop := fnInnerTurnsRow.holds Try.pinned (OpenSpec.ofChange fnInnerTurnsWrong)

/-- 'laws.FnPlaceOfOne': WHATEVER THE INPUT: true; the input reads as it did. -/
def fnPlaceOfOneSpec : ChangeSpec := { name := "fnPlaceOfOne", fn := fun _ => fun
  | [d] => { results := [.lit (.bool true)], args := [d] }
  | _ => none }
def fnPlaceOfOneRow : OpenClaim := { program := "ytppahekbgbbidac", sum := "321b1888968d52b1f067099eccfa0d451590998f8d79d743616f159a0cd3f8a5", func := "loop.example/roundturns/laws.FnPlaceOfOne", spec := "fnPlaceOfOne", inPlace := ["internal/bytealg.CountString", "internal/bytealg.IndexByteString", "internal/bytealg.IndexString"], named := ["internal/bytealg.MaxLen"], apart := false }
def FnPlaceOfOneSaid : Prop := fnPlaceOfOneRow.holds Try.pinned (OpenSpec.ofChange fnPlaceOfOneSpec)

/-- ITS FALSE NEIGHBOUR: 'it returns false'. Refute it at one input. -/
def fnPlaceOfOneWrong : ChangeSpec := { name := "fnPlaceOfOne", fn := fun _ => fun
  | [d] => { results := [.lit (.bool false)], args := [d] }
  | _ => none }
def FnPlaceOfOneWrongFalsely : Prop := fnPlaceOfOneRow.holds Try.pinned (OpenSpec.ofChange fnPlaceOfOneWrong)

/- THE SECOND FORM. 'bulk': how many values and letters a reading holds, each counted each time it is reached (what is shared counts as often as it is met; a slice's spare places count too). A statement '..UptoSaid' is the law's where the arguments, and the package variables that the reading takes, are together of bulk at most 1048576: NARROWER than '..Said'. Prove '..Said' where nothing that the law and all that it calls make is longer than what came in: it says more and counts as full. Else prove '..UptoSaid'. A law counts once. -/
mutual
def uptoBulk {H : Type} : DataW H → Nat
  | .lit (.string bytes) => bytes.length + 1
  | .lit _ => 1
  | .nil => 1
  | .ptr d => uptoBulk d + 1
  | .slice elems spare => uptoBulkAll elems + uptoBulkAll spare + 1
  | .agg parts => uptoBulkAll parts + 1
  | .iface _ d => uptoBulk d + 1
  | .map entries => uptoBulkEntries entries + 1
  | .held _ => 1
def uptoBulkAll {H : Type} : List (DataW H) → Nat
  | [] => 0
  | d :: r => uptoBulk d + uptoBulkAll r
def uptoBulkEntries {H : Type} : List (Lit × DataW H) → Nat
  | [] => 0
  | x :: r => uptoBulkEntry x + uptoBulkEntries r
def uptoBulkEntry {H : Type} : Lit × DataW H → Nat
  | (.string bytes, d) => bytes.length + uptoBulk d + 1
  | (_, d) => uptoBulk d + 1
 end
def uptoSmall : (H : Type) → List (DataW H) → Bool := fun _ ds => decide (uptoBulkAll ds ≤ 1048576)
def OpenSpec.upto (s : _root_.Go.ChangeSpec) : _root_.Go.OpenSpec := { _root_.Go.OpenSpec.ofChange s with cond := some uptoSmall }

/-- 'laws.FnExcessBy', WHERE WHAT IT READS IS OF BULK AT MOST 1048576: true; the input reads as it did. -/
def fnExcessByUptoRow : OpenClaim := { program := "ytppahekbgbbidac", sum := "321b1888968d52b1f067099eccfa0d451590998f8d79d743616f159a0cd3f8a5", func := "loop.example/roundturns/laws.FnExcessBy", spec := "fnExcessBy", unfollowed := true, recurses := true, apart := false, narrowed := true }
def FnExcessByUptoSaid : Prop := fnExcessByUptoRow.holds Try.pinned (OpenSpec.upto fnExcessBySpec)

/-- 'laws.FnExcessOf', WHERE WHAT IT READS IS OF BULK AT MOST 1048576: true; the input reads as it did. -/
def fnExcessOfUptoRow : OpenClaim := { program := "ytppahekbgbbidac", sum := "321b1888968d52b1f067099eccfa0d451590998f8d79d743616f159a0cd3f8a5", func := "loop.example/roundturns/laws.FnExcessOf", spec := "fnExcessOf", unfollowed := true, recurses := true, apart := false, narrowed := true }
def FnExcessOfUptoSaid : Prop := fnExcessOfUptoRow.holds Try.pinned (OpenSpec.upto fnExcessOfSpec)

/-- 'laws.FnSpanOf', WHERE WHAT IT READS IS OF BULK AT MOST 1048576: true; the input reads as it did. -/
def fnSpanOfUptoRow : OpenClaim := { program := "ytppahekbgbbidac", sum := "321b1888968d52b1f067099eccfa0d451590998f8d79d743616f159a0cd3f8a5", func := "loop.example/roundturns/laws.FnSpanOf", spec := "fnSpanOf", unfollowed := true, recurses := true, apart := false, narrowed := true }
def FnSpanOfUptoSaid : Prop := fnSpanOfUptoRow.holds Try.pinned (OpenSpec.upto fnSpanOfSpec)

/-- 'laws.FnExactReturnsBy', WHERE WHAT IT READS IS OF BULK AT MOST 1048576: true; the input reads as it did. -/
def fnExactReturnsByUptoRow : OpenClaim := { program := "ytppahekbgbbidac", sum := "321b1888968d52b1f067099eccfa0d451590998f8d79d743616f159a0cd3f8a5", func := "loop.example/roundturns/laws.FnExactReturnsBy", spec := "fnExactReturnsBy", unfollowed := true, recurses := true, apart := false, narrowed := true }
def FnExactReturnsByUptoSaid : Prop := fnExactReturnsByUptoRow.holds Try.pinned (OpenSpec.upto fnExactReturnsBySpec)

/-- 'laws.FnReturnsBy', WHERE WHAT IT READS IS OF BULK AT MOST 1048576: true; the input reads as it did. -/
def fnReturnsByUptoRow : OpenClaim := { program := "ytppahekbgbbidac", sum := "321b1888968d52b1f067099eccfa0d451590998f8d79d743616f159a0cd3f8a5", func := "loop.example/roundturns/laws.FnReturnsBy", spec := "fnReturnsBy", unfollowed := true, recurses := true, apart := false, narrowed := true }
def FnReturnsByUptoSaid : Prop := fnReturnsByUptoRow.holds Try.pinned (OpenSpec.upto fnReturnsBySpec)

/-- 'laws.FnReturnsLong', WHERE WHAT IT READS IS OF BULK AT MOST 1048576: true; the input reads as it did. -/
def fnReturnsLongUptoRow : OpenClaim := { program := "ytppahekbgbbidac", sum := "321b1888968d52b1f067099eccfa0d451590998f8d79d743616f159a0cd3f8a5", func := "loop.example/roundturns/laws.FnReturnsLong", spec := "fnReturnsLong", unfollowed := true, recurses := true, apart := false, narrowed := true }
def FnReturnsLongUptoSaid : Prop := fnReturnsLongUptoRow.holds Try.pinned (OpenSpec.upto fnReturnsLongSpec)

/-- 'laws.FnExactInnerTurn', WHERE WHAT IT READS IS OF BULK AT MOST 1048576: true; the input reads as it did. -/
def fnExactInnerTurnUptoRow : OpenClaim := { program := "ytppahekbgbbidac", sum := "321b1888968d52b1f067099eccfa0d451590998f8d79d743616f159a0cd3f8a5", func := "loop.example/roundturns/laws.FnExactInnerTurn", spec := "fnExactInnerTurn", inPlace := ["internal/bytealg.CountString", "internal/bytealg.IndexByteString", "internal/bytealg.IndexString"], unfollowed := true, recurses := true, named := ["internal/bytealg.MaxLen"], apart := false, narrowed := true }
def FnExactInnerTurnUptoSaid : Prop := fnExactInnerTurnUptoRow.holds Try.pinned (OpenSpec.upto fnExactInnerTurnSpec)

/-- 'laws.FnExactInnerTurns', WHERE WHAT IT READS IS OF BULK AT MOST 1048576: true; the input reads as it did. -/
def fnExactInnerTurnsUptoRow : OpenClaim := { program := "ytppahekbgbbidac", sum := "321b1888968d52b1f067099eccfa0d451590998f8d79d743616f159a0cd3f8a5", func := "loop.example/roundturns/laws.FnExactInnerTurns", spec := "fnExactInnerTurns", inPlace := ["internal/bytealg.CountString", "internal/bytealg.IndexByteString", "internal/bytealg.IndexString"], unfollowed := true, recurses := true, named := ["internal/bytealg.MaxLen"], apart := false, narrowed := true }
def FnExactInnerTurnsUptoSaid : Prop := fnExactInnerTurnsUptoRow.holds Try.pinned (OpenSpec.upto fnExactInnerTurnsSpec)

/-- 'laws.FnInnerTurn', WHERE WHAT IT READS IS OF BULK AT MOST 1048576: true; the input reads as it did. -/
def fnInnerTurnUptoRow : OpenClaim := { program := "ytppahekbgbbidac", sum := "321b1888968d52b1f067099eccfa0d451590998f8d79d743616f159a0cd3f8a5", func := "loop.example/roundturns/laws.FnInnerTurn", spec := "fnInnerTurn", inPlace := ["internal/bytealg.CountString", "internal/bytealg.IndexByteString", "internal/bytealg.IndexString"], unfollowed := true, recurses := true, named := ["internal/bytealg.MaxLen"], apart := false, narrowed := true }
def FnInnerTurnUptoSaid : Prop := fnInnerTurnUptoRow.holds Try.pinned (OpenSpec.upto fnInnerTurnSpec)

/-- 'laws.FnInnerTurns', WHERE WHAT IT READS IS OF BULK AT MOST 1048576: true; the input reads as it did. -/
def fnInnerTurnsUptoRow : OpenClaim := { program := "ytppahekbgbbidac", sum := "321b1888968d52b1f067099eccfa0d451590998f8d79d743616f159a0cd3f8a5", func := "loop.example/roundturns/laws.FnInnerTurns", spec := "fnInnerTurns", inPlace := ["internal/bytealg.CountString", "internal/bytealg.IndexByteString", "internal/bytealg.IndexString"], unfollowed := true, recurses := true, named := ["internal/bytealg.MaxLen"], apart := false, narrowed := true }
def FnInnerTurnsUptoSaid : Prop := fnInnerTurnsUptoRow.holds Try.pinned (OpenSpec.upto fnInnerTurnsSpec)

/-- 'laws.FnPlaceOfOne', WHERE WHAT IT READS IS OF BULK AT MOST 1048576: true; the input reads as it did. -/
def fnPlaceOfOneUptoRow : OpenClaim := { program := "ytppahekbgbbidac", sum := "321b1888968d52b1f067099eccfa0d451590998f8d79d743616f159a0cd3f8a5", func := "loop.example/roundturns/laws.FnPlaceOfOne", spec := "fnPlaceOfOne", inPlace := ["internal/bytealg.CountString", "internal/bytealg.IndexByteString", "internal/bytealg.IndexString"], named := ["internal/bytealg.MaxLen"], apart := false, narrowed := true }
def FnPlaceOfOneUptoSaid : Prop := fnPlaceOfOneUptoRow.holds Try.pinned (OpenSpec.upto fnPlaceOfOneSpec)

end Rows
end Go.Proofs.Ytppahekbgbbidac
