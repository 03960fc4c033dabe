/-
  NARROWER THAN 'FOR EVERY INPUT', by the rows' own cells (each row's printed sentence says how): FnMovesOk: laid · FnMovesFor: laid · FnRunsText: laid · FnReadRuns: laid · FnMovesScales: laid · FnExactMovesOk: laid · FnExactMoveTurn: laid · FnExactBackMoves: laid · FnExactOtherMoves: laid · FnExactRunsText: laid.
  DERIVED. THE GIVEN ROWS OF THIS SEAT. 10 by the template 'for every input the law returns true; each argument reads behind the call as it read before'; 0 by the template 'total and deterministic' (their statements: YtckkgjgfjnfeoaaDoorTotals.lean).
  GIVEN WITH THE SEED: the statements are not yours to turn. If you find one false, say at which input.
  Laid BY PROGRAM, IN A SANDBOX (cutbox-rows.mjs): the forced cells as the released guide's own fill.sh prints them over the translation 55b1e6c029f96198… (all of the seat's roots in one cut). By AI agents, Wed Nov 11 2026. No macro, syntax, notation, axiom, sorry.
-/
import Derived.Test.YtckkgjgfjnfeoaaDoorChecked
import GoSem.PinnedTables
import GoSem.Claim
import GoSem.ClaimJoined
import GoSem.ClaimMapViews
import Derived.JoinedTies
import Derived.KernelRfl
namespace Go.Proofs.YtckkgjgfjnfeoaaDoor
/- THE CELL 'sum', in the pinned program and in every row, IS THE sha256 OF THE DUMP (.gsa) THAT YtckkgjgfjnfeoaaDoorProg.lean LOADS. Nothing in Lean hashes anything: it is a label: what it is worth is what the hold of that sum in a sandbox is worth. -/
noncomputable def Tryd.pinned : Pinned := { name := "ytckkgjgfjnfeoaadoor", sum := "55b1e6c029f9619854f1d1b4e8c3f1fe3636f0bed69f0d6377b65581865c10de", checked := Tryd.checked }
namespace Rows
def none {H : Type} : Left H := { results := [], args := [] }

/- WHAT THE LISTED PACKAGE-LEVEL VARIABLES READ AS WHEN THE CALL BEGINS. Each datum BY PROGRAM (the guide's laid-datum.mjs) off the statement by which the dump's own 'gosem.cut.vars' lays the variable. In a bare row this is a premise. The card (YtckkgjgfjnfeoaaDoorCards.lean) ties it to the program's text. -/
def laid_unicode_utf8_acceptRanges {H : Type} : DataW H := .agg [.agg [.lit (.int .u8 128), .lit (.int .u8 191)], .agg [.lit (.int .u8 160), .lit (.int .u8 191)], .agg [.lit (.int .u8 128), .lit (.int .u8 159)], .agg [.lit (.int .u8 144), .lit (.int .u8 191)], .agg [.lit (.int .u8 128), .lit (.int .u8 143)], .agg [.lit (.int .u8 0), .lit (.int .u8 0)], .agg [.lit (.int .u8 0), .lit (.int .u8 0)], .agg [.lit (.int .u8 0), .lit (.int .u8 0)], .agg [.lit (.int .u8 0), .lit (.int .u8 0)], .agg [.lit (.int .u8 0), .lit (.int .u8 0)], .agg [.lit (.int .u8 0), .lit (.int .u8 0)], .agg [.lit (.int .u8 0), .lit (.int .u8 0)], .agg [.lit (.int .u8 0), .lit (.int .u8 0)], .agg [.lit (.int .u8 0), .lit (.int .u8 0)], .agg [.lit (.int .u8 0), .lit (.int .u8 0)], .agg [.lit (.int .u8 0), .lit (.int .u8 0)]]
/-- One of Go's own tables, pinned by name: the form's constant. -/
def laid_unicode_utf8_first : DataW Unit := Go.Pinned.utf8First
def laid_math_bits_deBruijn32tab {H : Type} : DataW H := .agg [.lit (.int .u8 0), .lit (.int .u8 1), .lit (.int .u8 28), .lit (.int .u8 2), .lit (.int .u8 29), .lit (.int .u8 14), .lit (.int .u8 24), .lit (.int .u8 3), .lit (.int .u8 30), .lit (.int .u8 22), .lit (.int .u8 20), .lit (.int .u8 15), .lit (.int .u8 25), .lit (.int .u8 17), .lit (.int .u8 4), .lit (.int .u8 8), .lit (.int .u8 31), .lit (.int .u8 27), .lit (.int .u8 13), .lit (.int .u8 23), .lit (.int .u8 21), .lit (.int .u8 19), .lit (.int .u8 16), .lit (.int .u8 7), .lit (.int .u8 26), .lit (.int .u8 12), .lit (.int .u8 18), .lit (.int .u8 6), .lit (.int .u8 11), .lit (.int .u8 5), .lit (.int .u8 10), .lit (.int .u8 9)]
def laid_math_bits_deBruijn64tab {H : Type} : DataW H := .agg [.lit (.int .u8 0), .lit (.int .u8 1), .lit (.int .u8 56), .lit (.int .u8 2), .lit (.int .u8 57), .lit (.int .u8 49), .lit (.int .u8 28), .lit (.int .u8 3), .lit (.int .u8 61), .lit (.int .u8 58), .lit (.int .u8 42), .lit (.int .u8 50), .lit (.int .u8 38), .lit (.int .u8 29), .lit (.int .u8 17), .lit (.int .u8 4), .lit (.int .u8 62), .lit (.int .u8 47), .lit (.int .u8 59), .lit (.int .u8 36), .lit (.int .u8 45), .lit (.int .u8 43), .lit (.int .u8 51), .lit (.int .u8 22), .lit (.int .u8 53), .lit (.int .u8 39), .lit (.int .u8 33), .lit (.int .u8 30), .lit (.int .u8 24), .lit (.int .u8 18), .lit (.int .u8 12), .lit (.int .u8 5), .lit (.int .u8 63), .lit (.int .u8 55), .lit (.int .u8 48), .lit (.int .u8 27), .lit (.int .u8 60), .lit (.int .u8 41), .lit (.int .u8 37), .lit (.int .u8 16), .lit (.int .u8 46), .lit (.int .u8 35), .lit (.int .u8 44), .lit (.int .u8 21), .lit (.int .u8 52), .lit (.int .u8 32), .lit (.int .u8 23), .lit (.int .u8 11), .lit (.int .u8 54), .lit (.int .u8 26), .lit (.int .u8 40), .lit (.int .u8 15), .lit (.int .u8 34), .lit (.int .u8 20), .lit (.int .u8 31), .lit (.int .u8 10), .lit (.int .u8 25), .lit (.int .u8 14), .lit (.int .u8 19), .lit (.int .u8 9), .lit (.int .u8 13), .lit (.int .u8 8), .lit (.int .u8 7), .lit (.int .u8 6)]
def laid_internal_strconv_uint64pow10 {H : Type} : DataW H := .agg [.lit (.int .u64 1), .lit (.int .u64 10), .lit (.int .u64 100), .lit (.int .u64 1000), .lit (.int .u64 10000), .lit (.int .u64 100000), .lit (.int .u64 1000000), .lit (.int .u64 10000000), .lit (.int .u64 100000000), .lit (.int .u64 1000000000), .lit (.int .u64 10000000000), .lit (.int .u64 100000000000), .lit (.int .u64 1000000000000), .lit (.int .u64 10000000000000), .lit (.int .u64 100000000000000), .lit (.int .u64 1000000000000000), .lit (.int .u64 10000000000000000), .lit (.int .u64 100000000000000000), .lit (.int .u64 1000000000000000000), .lit (.int .u64 10000000000000000000)]

/-- 'laws.FnMovesOk': WHATEVER THE INPUT: true; the input reads as it did. -/
def fnMovesOkSpec : ChangeSpec := { name := "fnMovesOk", fn := fun _ => fun
  | [d] => { results := [.lit (.bool true)], args := [d] }
  | _ => none }
def fnMovesOkRow : OpenClaim := { program := "ytckkgjgfjnfeoaadoor", sum := "55b1e6c029f9619854f1d1b4e8c3f1fe3636f0bed69f0d6377b65581865c10de", func := "loop.example/roundturns/laws.FnMovesOk", spec := "fnMovesOk", inPlace := ["internal/bytealg.IndexByteString", "internal/bytealg.IndexString"], named := ["unicode/utf8.first", "unicode/utf8.acceptRanges", "internal/bytealg.MaxLen"], apart := false, laid := [("unicode/utf8.acceptRanges", laid_unicode_utf8_acceptRanges), ("unicode/utf8.first", laid_unicode_utf8_first)] }
def FnMovesOkSaid : Prop := fnMovesOkRow.holds Tryd.pinned (OpenSpec.ofChange fnMovesOkSpec)

/-- ITS FALSE NEIGHBOUR: 'it returns false'. Refute it at one input. -/
def fnMovesOkWrong : ChangeSpec := { name := "fnMovesOk", fn := fun _ => fun
  | [d] => { results := [.lit (.bool false)], args := [d] }
  | _ => none }
def FnMovesOkWrongFalsely : Prop := fnMovesOkRow.holds Tryd.pinned (OpenSpec.ofChange fnMovesOkWrong)

/-- 'laws.FnMovesFor': WHATEVER THE INPUT: true; the input reads as it did. -/
def fnMovesForSpec : ChangeSpec := { name := "fnMovesFor", fn := fun _ => fun
  | [d] => { results := [.lit (.bool true)], args := [d] }
  | _ => none }
def fnMovesForRow : OpenClaim := { program := "ytckkgjgfjnfeoaadoor", sum := "55b1e6c029f9619854f1d1b4e8c3f1fe3636f0bed69f0d6377b65581865c10de", func := "loop.example/roundturns/laws.FnMovesFor", spec := "fnMovesFor", inPlace := ["internal/bytealg.IndexByteString", "internal/bytealg.IndexString"], unfollowed := true, recurses := true, named := ["unicode/utf8.first", "unicode/utf8.acceptRanges", "internal/bytealg.MaxLen"], apart := false, laid := [("unicode/utf8.acceptRanges", laid_unicode_utf8_acceptRanges), ("unicode/utf8.first", laid_unicode_utf8_first)] }
def FnMovesForSaid : Prop := fnMovesForRow.holds Tryd.pinned (OpenSpec.ofChange fnMovesForSpec)

/-- ITS FALSE NEIGHBOUR: 'it returns false'. Refute it at one input. -/
def fnMovesForWrong : ChangeSpec := { name := "fnMovesFor", fn := fun _ => fun
  | [d] => { results := [.lit (.bool false)], args := [d] }
  | _ => none }
def FnMovesForWrongFalsely : Prop := fnMovesForRow.holds Tryd.pinned (OpenSpec.ofChange fnMovesForWrong)

/-- 'laws.FnRunsText': WHATEVER THE INPUT: true; the input reads as it did. -/
def fnRunsTextSpec : ChangeSpec := { name := "fnRunsText", fn := fun _ => fun
  | [d] => { results := [.lit (.bool true)], args := [d] }
  | _ => none }
def fnRunsTextRow : OpenClaim := { program := "ytckkgjgfjnfeoaadoor", sum := "55b1e6c029f9619854f1d1b4e8c3f1fe3636f0bed69f0d6377b65581865c10de", func := "loop.example/roundturns/laws.FnRunsText", spec := "fnRunsText", inPlace := ["internal/bytealg.IndexByteString", "internal/bytealg.IndexString", "internal/abi.NoEscape", "internal/bytealg.MakeNoZero"], recurses := true, named := ["unicode/utf8.first", "unicode/utf8.acceptRanges", "internal/strconv.uint64pow10", "math/bits.deBruijn32tab", "math/bits.deBruijn64tab", "internal/bytealg.MaxLen"], apart := false, laid := [("math/bits.deBruijn32tab", laid_math_bits_deBruijn32tab), ("math/bits.deBruijn64tab", laid_math_bits_deBruijn64tab), ("internal/strconv.uint64pow10", laid_internal_strconv_uint64pow10), ("unicode/utf8.acceptRanges", laid_unicode_utf8_acceptRanges), ("unicode/utf8.first", laid_unicode_utf8_first)] }
def FnRunsTextSaid : Prop := fnRunsTextRow.holds Tryd.pinned (OpenSpec.ofChange fnRunsTextSpec)

/-- ITS FALSE NEIGHBOUR: 'it returns false'. Refute it at one input. -/
def fnRunsTextWrong : ChangeSpec := { name := "fnRunsText", fn := fun _ => fun
  | [d] => { results := [.lit (.bool false)], args := [d] }
  | _ => none }
def FnRunsTextWrongFalsely : Prop := fnRunsTextRow.holds Tryd.pinned (OpenSpec.ofChange fnRunsTextWrong)

/-- 'laws.FnReadRuns': WHATEVER THE INPUT: true; the input reads as it did. -/
def fnReadRunsSpec : ChangeSpec := { name := "fnReadRuns", fn := fun _ => fun
  | [d] => { results := [.lit (.bool true)], args := [d] }
  | _ => none }
def fnReadRunsRow : OpenClaim := { program := "ytckkgjgfjnfeoaadoor", sum := "55b1e6c029f9619854f1d1b4e8c3f1fe3636f0bed69f0d6377b65581865c10de", func := "loop.example/roundturns/laws.FnReadRuns", spec := "fnReadRuns", inPlace := ["internal/abi.NoEscape", "internal/bytealg.MakeNoZero", "internal/bytealg.IndexByteString", "internal/bytealg.IndexString"], recurses := true, named := ["unicode/utf8.first", "unicode/utf8.acceptRanges", "internal/strconv.uint64pow10", "math/bits.deBruijn32tab", "math/bits.deBruijn64tab", "internal/bytealg.MaxLen"], apart := false, laid := [("math/bits.deBruijn32tab", laid_math_bits_deBruijn32tab), ("math/bits.deBruijn64tab", laid_math_bits_deBruijn64tab), ("internal/strconv.uint64pow10", laid_internal_strconv_uint64pow10), ("unicode/utf8.acceptRanges", laid_unicode_utf8_acceptRanges), ("unicode/utf8.first", laid_unicode_utf8_first)] }
def FnReadRunsSaid : Prop := fnReadRunsRow.holds Tryd.pinned (OpenSpec.ofChange fnReadRunsSpec)

/-- ITS FALSE NEIGHBOUR: 'it returns false'. Refute it at one input. -/
def fnReadRunsWrong : ChangeSpec := { name := "fnReadRuns", fn := fun _ => fun
  | [d] => { results := [.lit (.bool false)], args := [d] }
  | _ => none }
def FnReadRunsWrongFalsely : Prop := fnReadRunsRow.holds Tryd.pinned (OpenSpec.ofChange fnReadRunsWrong)

/-- 'laws.FnMovesScales': WHATEVER THE INPUT: true; the input reads as it did. -/
def fnMovesScalesSpec : ChangeSpec := { name := "fnMovesScales", fn := fun _ => fun
  | [d] => { results := [.lit (.bool true)], args := [d] }
  | _ => none }
def fnMovesScalesRow : OpenClaim := { program := "ytckkgjgfjnfeoaadoor", sum := "55b1e6c029f9619854f1d1b4e8c3f1fe3636f0bed69f0d6377b65581865c10de", func := "loop.example/roundturns/laws.FnMovesScales", spec := "fnMovesScales", inPlace := ["internal/bytealg.IndexByteString", "internal/bytealg.IndexString"], named := ["unicode/utf8.first", "unicode/utf8.acceptRanges", "internal/bytealg.MaxLen"], apart := false, laid := [("unicode/utf8.acceptRanges", laid_unicode_utf8_acceptRanges), ("unicode/utf8.first", laid_unicode_utf8_first)] }
def FnMovesScalesSaid : Prop := fnMovesScalesRow.holds Tryd.pinned (OpenSpec.ofChange fnMovesScalesSpec)

/-- ITS FALSE NEIGHBOUR: 'it returns false'. Refute it at one input. -/
def fnMovesScalesWrong : ChangeSpec := { name := "fnMovesScales", fn := fun _ => fun
  | [d] => { results := [.lit (.bool false)], args := [d] }
  | _ => none }
def FnMovesScalesWrongFalsely : Prop := fnMovesScalesRow.holds Tryd.pinned (OpenSpec.ofChange fnMovesScalesWrong)

/-- 'laws.FnExactMovesOk': WHATEVER THE INPUT: true; the input reads as it did. -/
def fnExactMovesOkSpec : ChangeSpec := { name := "fnExactMovesOk", fn := fun _ => fun
  | [d] => { results := [.lit (.bool true)], args := [d] }
  | _ => none }
def fnExactMovesOkRow : OpenClaim := { program := "ytckkgjgfjnfeoaadoor", sum := "55b1e6c029f9619854f1d1b4e8c3f1fe3636f0bed69f0d6377b65581865c10de", func := "loop.example/roundturns/laws.FnExactMovesOk", spec := "fnExactMovesOk", inPlace := ["internal/bytealg.IndexByteString", "internal/bytealg.IndexString"], named := ["unicode/utf8.first", "unicode/utf8.acceptRanges", "internal/bytealg.MaxLen"], apart := false, laid := [("unicode/utf8.acceptRanges", laid_unicode_utf8_acceptRanges), ("unicode/utf8.first", laid_unicode_utf8_first)] }
def FnExactMovesOkSaid : Prop := fnExactMovesOkRow.holds Tryd.pinned (OpenSpec.ofChange fnExactMovesOkSpec)

/-- ITS FALSE NEIGHBOUR: 'it returns false'. Refute it at one input. -/
def fnExactMovesOkWrong : ChangeSpec := { name := "fnExactMovesOk", fn := fun _ => fun
  | [d] => { results := [.lit (.bool false)], args := [d] }
  | _ => none }
def FnExactMovesOkWrongFalsely : Prop := fnExactMovesOkRow.holds Tryd.pinned (OpenSpec.ofChange fnExactMovesOkWrong)

/-- 'laws.FnExactMoveTurn': WHATEVER THE INPUT: true; the input reads as it did. -/
def fnExactMoveTurnSpec : ChangeSpec := { name := "fnExactMoveTurn", fn := fun _ => fun
  | [d] => { results := [.lit (.bool true)], args := [d] }
  | _ => none }
def fnExactMoveTurnRow : OpenClaim := { program := "ytckkgjgfjnfeoaadoor", sum := "55b1e6c029f9619854f1d1b4e8c3f1fe3636f0bed69f0d6377b65581865c10de", func := "loop.example/roundturns/laws.FnExactMoveTurn", spec := "fnExactMoveTurn", inPlace := ["internal/bytealg.IndexByteString", "internal/bytealg.IndexString"], named := ["unicode/utf8.first", "unicode/utf8.acceptRanges", "internal/bytealg.MaxLen"], apart := false, laid := [("unicode/utf8.acceptRanges", laid_unicode_utf8_acceptRanges), ("unicode/utf8.first", laid_unicode_utf8_first)] }
def FnExactMoveTurnSaid : Prop := fnExactMoveTurnRow.holds Tryd.pinned (OpenSpec.ofChange fnExactMoveTurnSpec)

/-- ITS FALSE NEIGHBOUR: 'it returns false'. Refute it at one input. -/
def fnExactMoveTurnWrong : ChangeSpec := { name := "fnExactMoveTurn", fn := fun _ => fun
  | [d] => { results := [.lit (.bool false)], args := [d] }
  | _ => none }
def FnExactMoveTurnWrongFalsely : Prop := fnExactMoveTurnRow.holds Tryd.pinned (OpenSpec.ofChange fnExactMoveTurnWrong)

/-- 'laws.FnExactBackMoves': WHATEVER THE INPUT: true; the input reads as it did. -/
def fnExactBackMovesSpec : ChangeSpec := { name := "fnExactBackMoves", fn := fun _ => fun
  | [d] => { results := [.lit (.bool true)], args := [d] }
  | _ => none }
def fnExactBackMovesRow : OpenClaim := { program := "ytckkgjgfjnfeoaadoor", sum := "55b1e6c029f9619854f1d1b4e8c3f1fe3636f0bed69f0d6377b65581865c10de", func := "loop.example/roundturns/laws.FnExactBackMoves", spec := "fnExactBackMoves", inPlace := ["internal/bytealg.IndexByteString", "internal/bytealg.IndexString"], named := ["unicode/utf8.first", "unicode/utf8.acceptRanges", "internal/bytealg.MaxLen"], apart := false, laid := [("unicode/utf8.acceptRanges", laid_unicode_utf8_acceptRanges), ("unicode/utf8.first", laid_unicode_utf8_first)] }
def FnExactBackMovesSaid : Prop := fnExactBackMovesRow.holds Tryd.pinned (OpenSpec.ofChange fnExactBackMovesSpec)

/-- ITS FALSE NEIGHBOUR: 'it returns false'. Refute it at one input. -/
def fnExactBackMovesWrong : ChangeSpec := { name := "fnExactBackMoves", fn := fun _ => fun
  | [d] => { results := [.lit (.bool false)], args := [d] }
  | _ => none }
def FnExactBackMovesWrongFalsely : Prop := fnExactBackMovesRow.holds Tryd.pinned (OpenSpec.ofChange fnExactBackMovesWrong)

/-- 'laws.FnExactOtherMoves': WHATEVER THE INPUT: true; the input reads as it did. -/
def fnExactOtherMovesSpec : ChangeSpec := { name := "fnExactOtherMoves", fn := fun _ => fun
  | [d] => { results := [.lit (.bool true)], args := [d] }
  | _ => none }
def fnExactOtherMovesRow : OpenClaim := { program := "ytckkgjgfjnfeoaadoor", sum := "55b1e6c029f9619854f1d1b4e8c3f1fe3636f0bed69f0d6377b65581865c10de", func := "loop.example/roundturns/laws.FnExactOtherMoves", spec := "fnExactOtherMoves", inPlace := ["internal/bytealg.IndexByteString", "internal/bytealg.IndexString", "sync/atomic.LoadUint32", "(*internal/sync.Mutex).Lock", "internal/race.Disable", "sync/atomic.CompareAndSwapInt32", "internal/race.Enable", "internal/race.Acquire", "(*internal/sync.Mutex).lockSlow", "internal/sync.runtime_canSpin", "internal/sync.runtime_doSpin", "internal/sync.throw", "internal/sync.runtime_nanotime", "internal/sync.runtime_SemacquireMutex", "sync/atomic.AddInt32", "(*internal/sync.Mutex).Unlock", "internal/race.ReleaseMerge", "(*internal/sync.Mutex).unlockSlow", "internal/sync.fatal", "internal/sync.runtime_Semrelease", "sync/atomic.StoreUint32"], unfollowed := true, recurses := true, named := ["unicode/utf8.first", "unicode/utf8.acceptRanges", "internal/bytealg.MaxLen"], apart := false, laid := [("unicode/utf8.acceptRanges", laid_unicode_utf8_acceptRanges), ("unicode/utf8.first", laid_unicode_utf8_first)] }
def FnExactOtherMovesSaid : Prop := fnExactOtherMovesRow.holds Tryd.pinned (OpenSpec.ofChange fnExactOtherMovesSpec)

/-- ITS FALSE NEIGHBOUR: 'it returns false'. Refute it at one input. -/
def fnExactOtherMovesWrong : ChangeSpec := { name := "fnExactOtherMoves", fn := fun _ => fun
  | [d] => { results := [.lit (.bool false)], args := [d] }
  | _ => none }
def FnExactOtherMovesWrongFalsely : Prop := fnExactOtherMovesRow.holds Tryd.pinned (OpenSpec.ofChange fnExactOtherMovesWrong)

/-- 'laws.FnExactRunsText': WHATEVER THE INPUT: true; the input reads as it did. -/
def fnExactRunsTextSpec : ChangeSpec := { name := "fnExactRunsText", fn := fun _ => fun
  | [d] => { results := [.lit (.bool true)], args := [d] }
  | _ => none }
def fnExactRunsTextRow : OpenClaim := { program := "ytckkgjgfjnfeoaadoor", sum := "55b1e6c029f9619854f1d1b4e8c3f1fe3636f0bed69f0d6377b65581865c10de", func := "loop.example/roundturns/laws.FnExactRunsText", spec := "fnExactRunsText", inPlace := ["internal/bytealg.IndexByteString", "internal/bytealg.IndexString"], recurses := true, named := ["unicode/utf8.first", "unicode/utf8.acceptRanges", "internal/strconv.uint64pow10", "math/bits.deBruijn32tab", "math/bits.deBruijn64tab", "internal/bytealg.MaxLen"], apart := false, laid := [("math/bits.deBruijn32tab", laid_math_bits_deBruijn32tab), ("math/bits.deBruijn64tab", laid_math_bits_deBruijn64tab), ("internal/strconv.uint64pow10", laid_internal_strconv_uint64pow10), ("unicode/utf8.acceptRanges", laid_unicode_utf8_acceptRanges), ("unicode/utf8.first", laid_unicode_utf8_first)] }
def FnExactRunsTextSaid : Prop := fnExactRunsTextRow.holds Tryd.pinned (OpenSpec.ofChange fnExactRunsTextSpec)

/-- ITS FALSE NEIGHBOUR: 'it returns false'. Refute it at one input. -/
def fnExactRunsTextWrong : ChangeSpec := { name := "fnExactRunsText", fn := fun _ => fun
  | [d] => { results := [.lit (.bool false)], args := [d] }
  | _ => none }
def FnExactRunsTextWrongFalsely : Prop := fnExactRunsTextRow.holds Tryd.pinned (OpenSpec.ofChange fnExactRunsTextWrong)

/- THE SECOND FORM. 'bulk': how many values and letters a reading holds, each counted each time it is reached (what is shared counts as often as it is met; a slice's spare places count too). A statement '..UptoSaid' is the law's where the arguments, and the package variables that the reading takes, are together of bulk at most 1048576: NARROWER than '..Said'. Prove '..Said' where nothing that the law and all that it calls make is longer than what came in: it says more and counts as full. Else prove '..UptoSaid'. A law counts once. -/
mutual
def uptoBulk {H : Type} : DataW H → Nat
  | .lit (.string bytes) => bytes.length + 1
  | .lit _ => 1
  | .nil => 1
  | .ptr d => uptoBulk d + 1
  | .slice elems spare => uptoBulkAll elems + uptoBulkAll spare + 1
  | .agg parts => uptoBulkAll parts + 1
  | .iface _ d => uptoBulk d + 1
  | .map entries => uptoBulkEntries entries + 1
  | .held _ => 1
def uptoBulkAll {H : Type} : List (DataW H) → Nat
  | [] => 0
  | d :: r => uptoBulk d + uptoBulkAll r
def uptoBulkEntries {H : Type} : List (Lit × DataW H) → Nat
  | [] => 0
  | x :: r => uptoBulkEntry x + uptoBulkEntries r
def uptoBulkEntry {H : Type} : Lit × DataW H → Nat
  | (.string bytes, d) => bytes.length + uptoBulk d + 1
  | (_, d) => uptoBulk d + 1
 end
def uptoSmall : (H : Type) → List (DataW H) → Bool := fun _ ds => decide (uptoBulkAll ds ≤ 1048576)
def OpenSpec.upto (s : _root_.Go.ChangeSpec) : _root_.Go.OpenSpec := { _root_.Go.OpenSpec.ofChange s with cond := some uptoSmall }

/-- 'laws.FnMovesOk', WHERE WHAT IT READS IS OF BULK AT MOST 1048576: true; the input reads as it did. -/
def fnMovesOkUptoRow : OpenClaim := { program := "ytckkgjgfjnfeoaadoor", sum := "55b1e6c029f9619854f1d1b4e8c3f1fe3636f0bed69f0d6377b65581865c10de", func := "loop.example/roundturns/laws.FnMovesOk", spec := "fnMovesOk", inPlace := ["internal/bytealg.IndexByteString", "internal/bytealg.IndexString"], named := ["unicode/utf8.first", "unicode/utf8.acceptRanges", "internal/bytealg.MaxLen"], apart := false, laid := [("unicode/utf8.acceptRanges", laid_unicode_utf8_acceptRanges), ("unicode/utf8.first", laid_unicode_utf8_first)], narrowed := true }
def FnMovesOkUptoSaid : Prop := fnMovesOkUptoRow.holds Tryd.pinned (OpenSpec.upto fnMovesOkSpec)

/-- 'laws.FnMovesFor', WHERE WHAT IT READS IS OF BULK AT MOST 1048576: true; the input reads as it did. -/
def fnMovesForUptoRow : OpenClaim := { program := "ytckkgjgfjnfeoaadoor", sum := "55b1e6c029f9619854f1d1b4e8c3f1fe3636f0bed69f0d6377b65581865c10de", func := "loop.example/roundturns/laws.FnMovesFor", spec := "fnMovesFor", inPlace := ["internal/bytealg.IndexByteString", "internal/bytealg.IndexString"], unfollowed := true, recurses := true, named := ["unicode/utf8.first", "unicode/utf8.acceptRanges", "internal/bytealg.MaxLen"], apart := false, laid := [("unicode/utf8.acceptRanges", laid_unicode_utf8_acceptRanges), ("unicode/utf8.first", laid_unicode_utf8_first)], narrowed := true }
def FnMovesForUptoSaid : Prop := fnMovesForUptoRow.holds Tryd.pinned (OpenSpec.upto fnMovesForSpec)

/-- 'laws.FnRunsText', WHERE WHAT IT READS IS OF BULK AT MOST 1048576: true; the input reads as it did. -/
def fnRunsTextUptoRow : OpenClaim := { program := "ytckkgjgfjnfeoaadoor", sum := "55b1e6c029f9619854f1d1b4e8c3f1fe3636f0bed69f0d6377b65581865c10de", func := "loop.example/roundturns/laws.FnRunsText", spec := "fnRunsText", inPlace := ["internal/bytealg.IndexByteString", "internal/bytealg.IndexString", "internal/abi.NoEscape", "internal/bytealg.MakeNoZero"], recurses := true, named := ["unicode/utf8.first", "unicode/utf8.acceptRanges", "internal/strconv.uint64pow10", "math/bits.deBruijn32tab", "math/bits.deBruijn64tab", "internal/bytealg.MaxLen"], apart := false, laid := [("math/bits.deBruijn32tab", laid_math_bits_deBruijn32tab), ("math/bits.deBruijn64tab", laid_math_bits_deBruijn64tab), ("internal/strconv.uint64pow10", laid_internal_strconv_uint64pow10), ("unicode/utf8.acceptRanges", laid_unicode_utf8_acceptRanges), ("unicode/utf8.first", laid_unicode_utf8_first)], narrowed := true }
def FnRunsTextUptoSaid : Prop := fnRunsTextUptoRow.holds Tryd.pinned (OpenSpec.upto fnRunsTextSpec)

/-- 'laws.FnReadRuns', WHERE WHAT IT READS IS OF BULK AT MOST 1048576: true; the input reads as it did. -/
def fnReadRunsUptoRow : OpenClaim := { program := "ytckkgjgfjnfeoaadoor", sum := "55b1e6c029f9619854f1d1b4e8c3f1fe3636f0bed69f0d6377b65581865c10de", func := "loop.example/roundturns/laws.FnReadRuns", spec := "fnReadRuns", inPlace := ["internal/abi.NoEscape", "internal/bytealg.MakeNoZero", "internal/bytealg.IndexByteString", "internal/bytealg.IndexString"], recurses := true, named := ["unicode/utf8.first", "unicode/utf8.acceptRanges", "internal/strconv.uint64pow10", "math/bits.deBruijn32tab", "math/bits.deBruijn64tab", "internal/bytealg.MaxLen"], apart := false, laid := [("math/bits.deBruijn32tab", laid_math_bits_deBruijn32tab), ("math/bits.deBruijn64tab", laid_math_bits_deBruijn64tab), ("internal/strconv.uint64pow10", laid_internal_strconv_uint64pow10), ("unicode/utf8.acceptRanges", laid_unicode_utf8_acceptRanges), ("unicode/utf8.first", laid_unicode_utf8_first)], narrowed := true }
def FnReadRunsUptoSaid : Prop := fnReadRunsUptoRow.holds Tryd.pinned (OpenSpec.upto fnReadRunsSpec)

/-- 'laws.FnMovesScales', WHERE WHAT IT READS IS OF BULK AT MOST 1048576: true; the input reads as it did. -/
def fnMovesScalesUptoRow : OpenClaim := { program := "ytckkgjgfjnfeoaadoor", sum := "55b1e6c029f9619854f1d1b4e8c3f1fe3636f0bed69f0d6377b65581865c10de", func := "loop.example/roundturns/laws.FnMovesScales", spec := "fnMovesScales", inPlace := ["internal/bytealg.IndexByteString", "internal/bytealg.IndexString"], named := ["unicode/utf8.first", "unicode/utf8.acceptRanges", "internal/bytealg.MaxLen"], apart := false, laid := [("unicode/utf8.acceptRanges", laid_unicode_utf8_acceptRanges), ("unicode/utf8.first", laid_unicode_utf8_first)], narrowed := true }
def FnMovesScalesUptoSaid : Prop := fnMovesScalesUptoRow.holds Tryd.pinned (OpenSpec.upto fnMovesScalesSpec)

/-- 'laws.FnExactMovesOk', WHERE WHAT IT READS IS OF BULK AT MOST 1048576: true; the input reads as it did. -/
def fnExactMovesOkUptoRow : OpenClaim := { program := "ytckkgjgfjnfeoaadoor", sum := "55b1e6c029f9619854f1d1b4e8c3f1fe3636f0bed69f0d6377b65581865c10de", func := "loop.example/roundturns/laws.FnExactMovesOk", spec := "fnExactMovesOk", inPlace := ["internal/bytealg.IndexByteString", "internal/bytealg.IndexString"], named := ["unicode/utf8.first", "unicode/utf8.acceptRanges", "internal/bytealg.MaxLen"], apart := false, laid := [("unicode/utf8.acceptRanges", laid_unicode_utf8_acceptRanges), ("unicode/utf8.first", laid_unicode_utf8_first)], narrowed := true }
def FnExactMovesOkUptoSaid : Prop := fnExactMovesOkUptoRow.holds Tryd.pinned (OpenSpec.upto fnExactMovesOkSpec)

/-- 'laws.FnExactMoveTurn', WHERE WHAT IT READS IS OF BULK AT MOST 1048576: true; the input reads as it did. -/
def fnExactMoveTurnUptoRow : OpenClaim := { program := "ytckkgjgfjnfeoaadoor", sum := "55b1e6c029f9619854f1d1b4e8c3f1fe3636f0bed69f0d6377b65581865c10de", func := "loop.example/roundturns/laws.FnExactMoveTurn", spec := "fnExactMoveTurn", inPlace := ["internal/bytealg.IndexByteString", "internal/bytealg.IndexString"], named := ["unicode/utf8.first", "unicode/utf8.acceptRanges", "internal/bytealg.MaxLen"], apart := false, laid := [("unicode/utf8.acceptRanges", laid_unicode_utf8_acceptRanges), ("unicode/utf8.first", laid_unicode_utf8_first)], narrowed := true }
def FnExactMoveTurnUptoSaid : Prop := fnExactMoveTurnUptoRow.holds Tryd.pinned (OpenSpec.upto fnExactMoveTurnSpec)

/-- 'laws.FnExactBackMoves', WHERE WHAT IT READS IS OF BULK AT MOST 1048576: true; the input reads as it did. -/
def fnExactBackMovesUptoRow : OpenClaim := { program := "ytckkgjgfjnfeoaadoor", sum := "55b1e6c029f9619854f1d1b4e8c3f1fe3636f0bed69f0d6377b65581865c10de", func := "loop.example/roundturns/laws.FnExactBackMoves", spec := "fnExactBackMoves", inPlace := ["internal/bytealg.IndexByteString", "internal/bytealg.IndexString"], named := ["unicode/utf8.first", "unicode/utf8.acceptRanges", "internal/bytealg.MaxLen"], apart := false, laid := [("unicode/utf8.acceptRanges", laid_unicode_utf8_acceptRanges), ("unicode/utf8.first", laid_unicode_utf8_first)], narrowed := true }
def FnExactBackMovesUptoSaid : Prop := fnExactBackMovesUptoRow.holds Tryd.pinned (OpenSpec.upto fnExactBackMovesSpec)

/-- 'laws.FnExactOtherMoves', WHERE WHAT IT READS IS OF BULK AT MOST 1048576: true; the input reads as it did. -/
def fnExactOtherMovesUptoRow : OpenClaim := { program := "ytckkgjgfjnfeoaadoor", sum := "55b1e6c029f9619854f1d1b4e8c3f1fe3636f0bed69f0d6377b65581865c10de", func := "loop.example/roundturns/laws.FnExactOtherMoves", spec := "fnExactOtherMoves", inPlace := ["internal/bytealg.IndexByteString", "internal/bytealg.IndexString", "sync/atomic.LoadUint32", "(*internal/sync.Mutex).Lock", "internal/race.Disable", "sync/atomic.CompareAndSwapInt32", "internal/race.Enable", "internal/race.Acquire", "(*internal/sync.Mutex).lockSlow", "internal/sync.runtime_canSpin", "internal/sync.runtime_doSpin", "internal/sync.throw", "internal/sync.runtime_nanotime", "internal/sync.runtime_SemacquireMutex", "sync/atomic.AddInt32", "(*internal/sync.Mutex).Unlock", "internal/race.ReleaseMerge", "(*internal/sync.Mutex).unlockSlow", "internal/sync.fatal", "internal/sync.runtime_Semrelease", "sync/atomic.StoreUint32"], unfollowed := true, recurses := true, named := ["unicode/utf8.first", "unicode/utf8.acceptRanges", "internal/bytealg.MaxLen"], apart := false, laid := [("unicode/utf8.acceptRanges", laid_unicode_utf8_acceptRanges), ("unicode/utf8.first", laid_unicode_utf8_first)], narrowed := true }
def FnExactOtherMovesUptoSaid : Prop := fnExactOtherMovesUptoRow.holds Tryd.pinned (OpenSpec.upto fnExactOtherMovesSpec)

/-- 'laws.FnExactRunsText', WHERE WHAT IT READS IS OF BULK AT MOST 1048576: true; the input reads as it did. -/
def fnExactRunsTextUptoRow : OpenClaim := { program := "ytckkgjgfjnfeoaadoor", sum := "55b1e6c029f9619854f1d1b4e8c3f1fe3636f0bed69f0d6377b65581865c10de", func := "loop.example/roundturns/laws.FnExactRunsText", spec := "fnExactRunsText", inPlace := ["internal/bytealg.IndexByteString", "internal/bytealg.IndexString"], recurses := true, named := ["unicode/utf8.first", "unicode/utf8.acceptRanges", "internal/strconv.uint64pow10", "math/bits.deBruijn32tab", "math/bits.deBruijn64tab", "internal/bytealg.MaxLen"], apart := false, laid := [("math/bits.deBruijn32tab", laid_math_bits_deBruijn32tab), ("math/bits.deBruijn64tab", laid_math_bits_deBruijn64tab), ("internal/strconv.uint64pow10", laid_internal_strconv_uint64pow10), ("unicode/utf8.acceptRanges", laid_unicode_utf8_acceptRanges), ("unicode/utf8.first", laid_unicode_utf8_first)], narrowed := true }
def FnExactRunsTextUptoSaid : Prop := fnExactRunsTextUptoRow.holds Tryd.pinned (OpenSpec.upto fnExactRunsTextSpec)

end Rows
end Go.Proofs.YtckkgjgfjnfeoaaDoor
