/-
  No cell of these rows narrows 'for every input' (looked for: loops, veiled, ifaces, maps, wideKeys, modest, calm, conditions, laid).
  DERIVED. THE GIVEN ROWS OF THIS SEAT. 9 by the template 'for every input the law returns true; each argument reads behind the call as it read before'; 0 by the template 'total and deterministic' (their statements: YtpcceenhhdodiaaTotals.lean).
  GIVEN WITH THE SEED: the statements are not yours to turn. If you find one false, say at which input.
  Laid BY PROGRAM, IN A SANDBOX (cutbox-rows.mjs): the forced cells as the released guide's own fill.sh prints them over the translation bf237febd5a41b92… (all of the seat's roots in one cut). By AI agents, Wed Nov 11 2026. No macro, syntax, notation, axiom, sorry.
-/
import Derived.Test.YtpcceenhhdodiaaChecked
import GoSem.Claim
import GoSem.ClaimJoined
import GoSem.ClaimMapViews
import Derived.JoinedTies
import Derived.KernelRfl
namespace Go.Proofs.Ytpcceenhhdodiaa
/- THE CELL 'sum', in the pinned program and in every row, IS THE sha256 OF THE DUMP (.gsa) THAT YtpcceenhhdodiaaProg.lean LOADS. Nothing in Lean hashes anything: it is a label: what it is worth is what the hold of that sum in a sandbox is worth. -/
noncomputable def Try.pinned : Pinned := { name := "ytpcceenhhdodiaa", sum := "bf237febd5a41b92a939e9b8c2ea63e0a7123d31b575f5c11cca1559c12d8185", checked := Try.checked }
namespace Rows
def none {H : Type} : Left H := { results := [], args := [] }

/-- 'laws.FnPlaceOfOne': WHATEVER THE INPUT: true; the input reads as it did. -/
def fnPlaceOfOneSpec : ChangeSpec := { name := "fnPlaceOfOne", fn := fun _ => fun
  | [d] => { results := [.lit (.bool true)], args := [d] }
  | _ => none }
def fnPlaceOfOneRow : OpenClaim := { program := "ytpcceenhhdodiaa", sum := "bf237febd5a41b92a939e9b8c2ea63e0a7123d31b575f5c11cca1559c12d8185", func := "loop.example/roundturns/laws.FnPlaceOfOne", spec := "fnPlaceOfOne", inPlace := ["internal/bytealg.CountString", "internal/bytealg.IndexByteString", "internal/bytealg.IndexString"], named := ["internal/bytealg.MaxLen"], apart := false }
def FnPlaceOfOneSaid : Prop := fnPlaceOfOneRow.holds Try.pinned (OpenSpec.ofChange fnPlaceOfOneSpec)

/-- ITS FALSE NEIGHBOUR: 'it returns false'. Refute it at one input. -/
def fnPlaceOfOneWrong : ChangeSpec := { name := "fnPlaceOfOne", fn := fun _ => fun
  | [d] => { results := [.lit (.bool false)], args := [d] }
  | _ => none }
def FnPlaceOfOneWrongFalsely : Prop := fnPlaceOfOneRow.holds Try.pinned (OpenSpec.ofChange fnPlaceOfOneWrong)

/-- 'laws.FnPlaceOfNought': WHATEVER THE INPUT: true; the input reads as it did. -/
def fnPlaceOfNoughtSpec : ChangeSpec := { name := "fnPlaceOfNought", fn := fun _ => fun
  | [d] => { results := [.lit (.bool true)], args := [d] }
  | _ => none }
def fnPlaceOfNoughtRow : OpenClaim := { program := "ytpcceenhhdodiaa", sum := "bf237febd5a41b92a939e9b8c2ea63e0a7123d31b575f5c11cca1559c12d8185", func := "loop.example/roundturns/laws.FnPlaceOfNought", spec := "fnPlaceOfNought", apart := false }
def FnPlaceOfNoughtSaid : Prop := fnPlaceOfNoughtRow.holds Try.pinned (OpenSpec.ofChange fnPlaceOfNoughtSpec)

/-- ITS FALSE NEIGHBOUR: 'it returns false'. Refute it at one input. -/
def fnPlaceOfNoughtWrong : ChangeSpec := { name := "fnPlaceOfNought", fn := fun _ => fun
  | [d] => { results := [.lit (.bool false)], args := [d] }
  | _ => none }
def FnPlaceOfNoughtWrongFalsely : Prop := fnPlaceOfNoughtRow.holds Try.pinned (OpenSpec.ofChange fnPlaceOfNoughtWrong)

/-- 'laws.FnInnerTurn': WHATEVER THE INPUT: true; the input reads as it did. -/
def fnInnerTurnSpec : ChangeSpec := { name := "fnInnerTurn", fn := fun _ => fun
  | [d] => { results := [.lit (.bool true)], args := [d] }
  | _ => none }
def fnInnerTurnRow : OpenClaim := { program := "ytpcceenhhdodiaa", sum := "bf237febd5a41b92a939e9b8c2ea63e0a7123d31b575f5c11cca1559c12d8185", func := "loop.example/roundturns/laws.FnInnerTurn", spec := "fnInnerTurn", inPlace := ["internal/bytealg.CountString", "internal/bytealg.IndexByteString", "internal/bytealg.IndexString"], unfollowed := true, recurses := true, named := ["internal/bytealg.MaxLen"], apart := false }
def FnInnerTurnSaid : Prop := fnInnerTurnRow.holds Try.pinned (OpenSpec.ofChange fnInnerTurnSpec)

/-- ITS FALSE NEIGHBOUR: 'it returns false'. Refute it at one input. -/
def fnInnerTurnWrong : ChangeSpec := { name := "fnInnerTurn", fn := fun _ => fun
  | [d] => { results := [.lit (.bool false)], args := [d] }
  | _ => none }
def FnInnerTurnWrongFalsely : Prop := fnInnerTurnRow.holds Try.pinned (OpenSpec.ofChange fnInnerTurnWrong)

/-- 'laws.FnInnerTurns': WHATEVER THE INPUT: true; the input reads as it did. -/
def fnInnerTurnsSpec : ChangeSpec := { name := "fnInnerTurns", fn := fun _ => fun
  | [d] => { results := [.lit (.bool true)], args := [d] }
  | _ => none }
def fnInnerTurnsRow : OpenClaim := { program := "ytpcceenhhdodiaa", sum := "bf237febd5a41b92a939e9b8c2ea63e0a7123d31b575f5c11cca1559c12d8185", func := "loop.example/roundturns/laws.FnInnerTurns", spec := "fnInnerTurns", inPlace := ["internal/bytealg.CountString", "internal/bytealg.IndexByteString", "internal/bytealg.IndexString"], unfollowed := true, recurses := true, named := ["internal/bytealg.MaxLen"], apart := false }
def FnInnerTurnsSaid : Prop := fnInnerTurnsRow.holds Try.pinned (OpenSpec.ofChange fnInnerTurnsSpec)

/-- ITS FALSE NEIGHBOUR: 'it returns false'. Refute it at one input. -/
def fnInnerTurnsWrong : ChangeSpec := { name := "fnInnerTurns", fn := fun _ => fun
  | [d] => { results := [.lit (.bool false)], args := [d] }
  | _ => none }
def FnInnerTurnsWrongFalsely : Prop := fnInnerTurnsRow.holds Try.pinned (OpenSpec.ofChange fnInnerTurnsWrong)

/-- 'laws.FnExactPlaceOfOne': WHATEVER THE INPUT: true; the input reads as it did. -/
def fnExactPlaceOfOneSpec : ChangeSpec := { name := "fnExactPlaceOfOne", fn := fun _ => fun
  | [d1, d2] => { results := [.lit (.bool true)], args := [d1, d2] }
  | _ => none }
def fnExactPlaceOfOneRow : OpenClaim := { program := "ytpcceenhhdodiaa", sum := "bf237febd5a41b92a939e9b8c2ea63e0a7123d31b575f5c11cca1559c12d8185", func := "loop.example/roundturns/laws.FnExactPlaceOfOne", spec := "fnExactPlaceOfOne", apart := false }
def FnExactPlaceOfOneSaid : Prop := fnExactPlaceOfOneRow.holds Try.pinned (OpenSpec.ofChange fnExactPlaceOfOneSpec)

/-- ITS FALSE NEIGHBOUR: 'it returns false'. Refute it at one input. -/
def fnExactPlaceOfOneWrong : ChangeSpec := { name := "fnExactPlaceOfOne", fn := fun _ => fun
  | [d1, d2] => { results := [.lit (.bool false)], args := [d1, d2] }
  | _ => none }
def FnExactPlaceOfOneWrongFalsely : Prop := fnExactPlaceOfOneRow.holds Try.pinned (OpenSpec.ofChange fnExactPlaceOfOneWrong)

/-- 'laws.FnExactPlaceOfNought': WHATEVER THE INPUT: true; the input reads as it did. -/
def fnExactPlaceOfNoughtSpec : ChangeSpec := { name := "fnExactPlaceOfNought", fn := fun _ => fun
  | [d1, d2] => { results := [.lit (.bool true)], args := [d1, d2] }
  | _ => none }
def fnExactPlaceOfNoughtRow : OpenClaim := { program := "ytpcceenhhdodiaa", sum := "bf237febd5a41b92a939e9b8c2ea63e0a7123d31b575f5c11cca1559c12d8185", func := "loop.example/roundturns/laws.FnExactPlaceOfNought", spec := "fnExactPlaceOfNought", apart := false }
def FnExactPlaceOfNoughtSaid : Prop := fnExactPlaceOfNoughtRow.holds Try.pinned (OpenSpec.ofChange fnExactPlaceOfNoughtSpec)

/-- ITS FALSE NEIGHBOUR: 'it returns false'. Refute it at one input. -/
def fnExactPlaceOfNoughtWrong : ChangeSpec := { name := "fnExactPlaceOfNought", fn := fun _ => fun
  | [d1, d2] => { results := [.lit (.bool false)], args := [d1, d2] }
  | _ => none }
def FnExactPlaceOfNoughtWrongFalsely : Prop := fnExactPlaceOfNoughtRow.holds Try.pinned (OpenSpec.ofChange fnExactPlaceOfNoughtWrong)

/-- 'laws.FnExactSpacesOf': WHATEVER THE INPUT: true; the input reads as it did. -/
def fnExactSpacesOfSpec : ChangeSpec := { name := "fnExactSpacesOf", fn := fun _ => fun
  | [d] => { results := [.lit (.bool true)], args := [d] }
  | _ => none }
def fnExactSpacesOfRow : OpenClaim := { program := "ytpcceenhhdodiaa", sum := "bf237febd5a41b92a939e9b8c2ea63e0a7123d31b575f5c11cca1559c12d8185", func := "loop.example/roundturns/laws.FnExactSpacesOf", spec := "fnExactSpacesOf", apart := false }
def FnExactSpacesOfSaid : Prop := fnExactSpacesOfRow.holds Try.pinned (OpenSpec.ofChange fnExactSpacesOfSpec)

/-- ITS FALSE NEIGHBOUR: 'it returns false'. Refute it at one input. -/
def fnExactSpacesOfWrong : ChangeSpec := { name := "fnExactSpacesOf", fn := fun _ => fun
  | [d] => { results := [.lit (.bool false)], args := [d] }
  | _ => none }
def FnExactSpacesOfWrongFalsely : Prop := fnExactSpacesOfRow.holds Try.pinned (OpenSpec.ofChange fnExactSpacesOfWrong)

/-- 'laws.FnExactInnerTurn': WHATEVER THE INPUT: true; the input reads as it did. -/
def fnExactInnerTurnSpec : ChangeSpec := { name := "fnExactInnerTurn", fn := fun _ => fun
  | [d] => { results := [.lit (.bool true)], args := [d] }
  | _ => none }
def fnExactInnerTurnRow : OpenClaim := { program := "ytpcceenhhdodiaa", sum := "bf237febd5a41b92a939e9b8c2ea63e0a7123d31b575f5c11cca1559c12d8185", func := "loop.example/roundturns/laws.FnExactInnerTurn", spec := "fnExactInnerTurn", inPlace := ["internal/bytealg.CountString", "internal/bytealg.IndexByteString", "internal/bytealg.IndexString"], unfollowed := true, recurses := true, named := ["internal/bytealg.MaxLen"], apart := false }
def FnExactInnerTurnSaid : Prop := fnExactInnerTurnRow.holds Try.pinned (OpenSpec.ofChange fnExactInnerTurnSpec)

/-- ITS FALSE NEIGHBOUR: 'it returns false'. Refute it at one input. -/
def fnExactInnerTurnWrong : ChangeSpec := { name := "fnExactInnerTurn", fn := fun _ => fun
  | [d] => { results := [.lit (.bool false)], args := [d] }
  | _ => none }
def FnExactInnerTurnWrongFalsely : Prop := fnExactInnerTurnRow.holds Try.pinned (OpenSpec.ofChange fnExactInnerTurnWrong)

/-- 'laws.FnExactInnerTurns': WHATEVER THE INPUT: true; the input reads as it did. -/
def fnExactInnerTurnsSpec : ChangeSpec := { name := "fnExactInnerTurns", fn := fun _ => fun
  | [d] => { results := [.lit (.bool true)], args := [d] }
  | _ => none }
def fnExactInnerTurnsRow : OpenClaim := { program := "ytpcceenhhdodiaa", sum := "bf237febd5a41b92a939e9b8c2ea63e0a7123d31b575f5c11cca1559c12d8185", func := "loop.example/roundturns/laws.FnExactInnerTurns", spec := "fnExactInnerTurns", inPlace := ["internal/bytealg.CountString", "internal/bytealg.IndexByteString", "internal/bytealg.IndexString"], unfollowed := true, recurses := true, named := ["internal/bytealg.MaxLen"], apart := false }
def FnExactInnerTurnsSaid : Prop := fnExactInnerTurnsRow.holds Try.pinned (OpenSpec.ofChange fnExactInnerTurnsSpec)

/-- ITS FALSE NEIGHBOUR: 'it returns false'. Refute it at one input. -/
def fnExactInnerTurnsWrong : ChangeSpec := { name := "fnExactInnerTurns", fn := fun _ => fun
  | [d] => { results := [.lit (.bool false)], args := [d] }
  | _ => none }
def FnExactInnerTurnsWrongFalsely : Prop := fnExactInnerTurnsRow.holds Try.pinned (OpenSpec.ofChange fnExactInnerTurnsWrong)

/- THE SECOND FORM. 'bulk': how many values and letters a reading holds, each counted each time it is reached (what is shared counts as often as it is met; a slice's spare places count too). A statement '..UptoSaid' is the law's where the arguments, and the package variables that the reading takes, are together of bulk at most 1048576: NARROWER than '..Said'. Prove '..Said' where nothing that the law and all that it calls make is longer than what came in: it says more and counts as full. Else prove '..UptoSaid'. A law counts once. -/
mutual
def uptoBulk {H : Type} : DataW H → Nat
  | .lit (.string bytes) => bytes.length + 1
  | .lit _ => 1
  | .nil => 1
  | .ptr d => uptoBulk d + 1
  | .slice elems spare => uptoBulkAll elems + uptoBulkAll spare + 1
  | .agg parts => uptoBulkAll parts + 1
  | .iface _ d => uptoBulk d + 1
  | .map entries => uptoBulkEntries entries + 1
  | .held _ => 1
def uptoBulkAll {H : Type} : List (DataW H) → Nat
  | [] => 0
  | d :: r => uptoBulk d + uptoBulkAll r
def uptoBulkEntries {H : Type} : List (Lit × DataW H) → Nat
  | [] => 0
  | x :: r => uptoBulkEntry x + uptoBulkEntries r
def uptoBulkEntry {H : Type} : Lit × DataW H → Nat
  | (.string bytes, d) => bytes.length + uptoBulk d + 1
  | (_, d) => uptoBulk d + 1
 end
def uptoSmall : (H : Type) → List (DataW H) → Bool := fun _ ds => decide (uptoBulkAll ds ≤ 1048576)
def OpenSpec.upto (s : _root_.Go.ChangeSpec) : _root_.Go.OpenSpec := { _root_.Go.OpenSpec.ofChange s with cond := some uptoSmall }

/-- 'laws.FnPlaceOfOne', WHERE WHAT IT READS IS OF BULK AT MOST 1048576: true; the input reads as it did. -/
def fnPlaceOfOneUptoRow : OpenClaim := { program := "ytpcceenhhdodiaa", sum := "bf237febd5a41b92a939e9b8c2ea63e0a7123d31b575f5c11cca1559c12d8185", func := "loop.example/roundturns/laws.FnPlaceOfOne", spec := "fnPlaceOfOne", inPlace := ["internal/bytealg.CountString", "internal/bytealg.IndexByteString", "internal/bytealg.IndexString"], named := ["internal/bytealg.MaxLen"], apart := false, narrowed := true }
def FnPlaceOfOneUptoSaid : Prop := fnPlaceOfOneUptoRow.holds Try.pinned (OpenSpec.upto fnPlaceOfOneSpec)

/-- 'laws.FnPlaceOfNought', WHERE WHAT IT READS IS OF BULK AT MOST 1048576: true; the input reads as it did. -/
def fnPlaceOfNoughtUptoRow : OpenClaim := { program := "ytpcceenhhdodiaa", sum := "bf237febd5a41b92a939e9b8c2ea63e0a7123d31b575f5c11cca1559c12d8185", func := "loop.example/roundturns/laws.FnPlaceOfNought", spec := "fnPlaceOfNought", apart := false, narrowed := true }
def FnPlaceOfNoughtUptoSaid : Prop := fnPlaceOfNoughtUptoRow.holds Try.pinned (OpenSpec.upto fnPlaceOfNoughtSpec)

/-- 'laws.FnInnerTurn', WHERE WHAT IT READS IS OF BULK AT MOST 1048576: true; the input reads as it did. -/
def fnInnerTurnUptoRow : OpenClaim := { program := "ytpcceenhhdodiaa", sum := "bf237febd5a41b92a939e9b8c2ea63e0a7123d31b575f5c11cca1559c12d8185", func := "loop.example/roundturns/laws.FnInnerTurn", spec := "fnInnerTurn", inPlace := ["internal/bytealg.CountString", "internal/bytealg.IndexByteString", "internal/bytealg.IndexString"], unfollowed := true, recurses := true, named := ["internal/bytealg.MaxLen"], apart := false, narrowed := true }
def FnInnerTurnUptoSaid : Prop := fnInnerTurnUptoRow.holds Try.pinned (OpenSpec.upto fnInnerTurnSpec)

/-- 'laws.FnInnerTurns', WHERE WHAT IT READS IS OF BULK AT MOST 1048576: true; the input reads as it did. -/
def fnInnerTurnsUptoRow : OpenClaim := { program := "ytpcceenhhdodiaa", sum := "bf237febd5a41b92a939e9b8c2ea63e0a7123d31b575f5c11cca1559c12d8185", func := "loop.example/roundturns/laws.FnInnerTurns", spec := "fnInnerTurns", inPlace := ["internal/bytealg.CountString", "internal/bytealg.IndexByteString", "internal/bytealg.IndexString"], unfollowed := true, recurses := true, named := ["internal/bytealg.MaxLen"], apart := false, narrowed := true }
def FnInnerTurnsUptoSaid : Prop := fnInnerTurnsUptoRow.holds Try.pinned (OpenSpec.upto fnInnerTurnsSpec)

/-- 'laws.FnExactPlaceOfOne', WHERE WHAT IT READS IS OF BULK AT MOST 1048576: true; the input reads as it did. -/
def fnExactPlaceOfOneUptoRow : OpenClaim := { program := "ytpcceenhhdodiaa", sum := "bf237febd5a41b92a939e9b8c2ea63e0a7123d31b575f5c11cca1559c12d8185", func := "loop.example/roundturns/laws.FnExactPlaceOfOne", spec := "fnExactPlaceOfOne", apart := false, narrowed := true }
def FnExactPlaceOfOneUptoSaid : Prop := fnExactPlaceOfOneUptoRow.holds Try.pinned (OpenSpec.upto fnExactPlaceOfOneSpec)

/-- 'laws.FnExactPlaceOfNought', WHERE WHAT IT READS IS OF BULK AT MOST 1048576: true; the input reads as it did. -/
def fnExactPlaceOfNoughtUptoRow : OpenClaim := { program := "ytpcceenhhdodiaa", sum := "bf237febd5a41b92a939e9b8c2ea63e0a7123d31b575f5c11cca1559c12d8185", func := "loop.example/roundturns/laws.FnExactPlaceOfNought", spec := "fnExactPlaceOfNought", apart := false, narrowed := true }
def FnExactPlaceOfNoughtUptoSaid : Prop := fnExactPlaceOfNoughtUptoRow.holds Try.pinned (OpenSpec.upto fnExactPlaceOfNoughtSpec)

/-- 'laws.FnExactSpacesOf', WHERE WHAT IT READS IS OF BULK AT MOST 1048576: true; the input reads as it did. -/
def fnExactSpacesOfUptoRow : OpenClaim := { program := "ytpcceenhhdodiaa", sum := "bf237febd5a41b92a939e9b8c2ea63e0a7123d31b575f5c11cca1559c12d8185", func := "loop.example/roundturns/laws.FnExactSpacesOf", spec := "fnExactSpacesOf", apart := false, narrowed := true }
def FnExactSpacesOfUptoSaid : Prop := fnExactSpacesOfUptoRow.holds Try.pinned (OpenSpec.upto fnExactSpacesOfSpec)

/-- 'laws.FnExactInnerTurn', WHERE WHAT IT READS IS OF BULK AT MOST 1048576: true; the input reads as it did. -/
def fnExactInnerTurnUptoRow : OpenClaim := { program := "ytpcceenhhdodiaa", sum := "bf237febd5a41b92a939e9b8c2ea63e0a7123d31b575f5c11cca1559c12d8185", func := "loop.example/roundturns/laws.FnExactInnerTurn", spec := "fnExactInnerTurn", inPlace := ["internal/bytealg.CountString", "internal/bytealg.IndexByteString", "internal/bytealg.IndexString"], unfollowed := true, recurses := true, named := ["internal/bytealg.MaxLen"], apart := false, narrowed := true }
def FnExactInnerTurnUptoSaid : Prop := fnExactInnerTurnUptoRow.holds Try.pinned (OpenSpec.upto fnExactInnerTurnSpec)

/-- 'laws.FnExactInnerTurns', WHERE WHAT IT READS IS OF BULK AT MOST 1048576: true; the input reads as it did. -/
def fnExactInnerTurnsUptoRow : OpenClaim := { program := "ytpcceenhhdodiaa", sum := "bf237febd5a41b92a939e9b8c2ea63e0a7123d31b575f5c11cca1559c12d8185", func := "loop.example/roundturns/laws.FnExactInnerTurns", spec := "fnExactInnerTurns", inPlace := ["internal/bytealg.CountString", "internal/bytealg.IndexByteString", "internal/bytealg.IndexString"], unfollowed := true, recurses := true, named := ["internal/bytealg.MaxLen"], apart := false, narrowed := true }
def FnExactInnerTurnsUptoSaid : Prop := fnExactInnerTurnsUptoRow.holds Try.pinned (OpenSpec.upto fnExactInnerTurnsSpec)

end Rows
end Go.Proofs.Ytpcceenhhdodiaa
