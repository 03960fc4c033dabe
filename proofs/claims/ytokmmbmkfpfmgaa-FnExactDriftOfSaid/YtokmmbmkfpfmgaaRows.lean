/-
  No cell of these rows narrows 'for every input' (looked for: loops, veiled, ifaces, maps, wideKeys, modest, calm, conditions, laid).
  DERIVED. THE GIVEN ROWS OF THIS SEAT. 12 by the template 'for every input the law returns true; each argument reads behind the call as it read before'; 0 by the template 'total and deterministic' (their statements: YtokmmbmkfpfmgaaTotals.lean).
  GIVEN WITH THE SEED: the statements are not yours to turn. If you find one false, say at which input.
  Laid BY PROGRAM, IN A SANDBOX (cutbox-rows.mjs): the forced cells as the released guide's own fill.sh prints them over the translation 72a294da16690e84… (all of the seat's roots in one cut). By AI agents, Wed Nov 11 2026. No macro, syntax, notation, axiom, sorry.
-/
import Derived.Test.YtokmmbmkfpfmgaaChecked
import GoSem.Claim
import GoSem.ClaimJoined
import GoSem.ClaimMapViews
import Derived.JoinedTies
import Derived.KernelRfl
namespace Go.Proofs.Ytokmmbmkfpfmgaa
/- THE CELL 'sum', in the pinned program and in every row, IS THE sha256 OF THE DUMP (.gsa) THAT YtokmmbmkfpfmgaaProg.lean LOADS. Nothing in Lean hashes anything: it is a label: what it is worth is what the hold of that sum in a sandbox is worth. -/
noncomputable def Try.pinned : Pinned := { name := "ytokmmbmkfpfmgaa", sum := "72a294da16690e84a6281c73af12a3256115384c74fee34a8183496956c2464d", checked := Try.checked }
namespace Rows
def none {H : Type} : Left H := { results := [], args := [] }

/-- 'laws.FnLongYear': WHATEVER THE INPUT: true; the input reads as it did. -/
def fnLongYearSpec : ChangeSpec := { name := "fnLongYear", fn := fun _ => fun
  | [d] => { results := [.lit (.bool true)], args := [d] }
  | _ => none }
def fnLongYearRow : OpenClaim := { program := "ytokmmbmkfpfmgaa", sum := "72a294da16690e84a6281c73af12a3256115384c74fee34a8183496956c2464d", func := "loop.example/roundturns/laws.FnLongYear", spec := "fnLongYear", apart := false }
def FnLongYearSaid : Prop := fnLongYearRow.holds Try.pinned (OpenSpec.ofChange fnLongYearSpec)

/-- ITS FALSE NEIGHBOUR: 'it returns false'. Refute it at one input. -/
def fnLongYearWrong : ChangeSpec := { name := "fnLongYear", fn := fun _ => fun
  | [d] => { results := [.lit (.bool false)], args := [d] }
  | _ => none }
def FnLongYearWrongFalsely : Prop := fnLongYearRow.holds Try.pinned (OpenSpec.ofChange fnLongYearWrong)

/-- 'laws.FnLongBefore': WHATEVER THE INPUT: true; the input reads as it did. -/
def fnLongBeforeSpec : ChangeSpec := { name := "fnLongBefore", fn := fun _ => fun
  | [d] => { results := [.lit (.bool true)], args := [d] }
  | _ => none }
def fnLongBeforeRow : OpenClaim := { program := "ytokmmbmkfpfmgaa", sum := "72a294da16690e84a6281c73af12a3256115384c74fee34a8183496956c2464d", func := "loop.example/roundturns/laws.FnLongBefore", spec := "fnLongBefore", unfollowed := true, recurses := true, apart := false }
def FnLongBeforeSaid : Prop := fnLongBeforeRow.holds Try.pinned (OpenSpec.ofChange fnLongBeforeSpec)

/-- ITS FALSE NEIGHBOUR: 'it returns false'. Refute it at one input. -/
def fnLongBeforeWrong : ChangeSpec := { name := "fnLongBefore", fn := fun _ => fun
  | [d] => { results := [.lit (.bool false)], args := [d] }
  | _ => none }
def FnLongBeforeWrongFalsely : Prop := fnLongBeforeRow.holds Try.pinned (OpenSpec.ofChange fnLongBeforeWrong)

/-- 'laws.FnDaysBefore': WHATEVER THE INPUT: true; the input reads as it did. -/
def fnDaysBeforeSpec : ChangeSpec := { name := "fnDaysBefore", fn := fun _ => fun
  | [d] => { results := [.lit (.bool true)], args := [d] }
  | _ => none }
def fnDaysBeforeRow : OpenClaim := { program := "ytokmmbmkfpfmgaa", sum := "72a294da16690e84a6281c73af12a3256115384c74fee34a8183496956c2464d", func := "loop.example/roundturns/laws.FnDaysBefore", spec := "fnDaysBefore", apart := false }
def FnDaysBeforeSaid : Prop := fnDaysBeforeRow.holds Try.pinned (OpenSpec.ofChange fnDaysBeforeSpec)

/-- ITS FALSE NEIGHBOUR: 'it returns false'. Refute it at one input. -/
def fnDaysBeforeWrong : ChangeSpec := { name := "fnDaysBefore", fn := fun _ => fun
  | [d] => { results := [.lit (.bool false)], args := [d] }
  | _ => none }
def FnDaysBeforeWrongFalsely : Prop := fnDaysBeforeRow.holds Try.pinned (OpenSpec.ofChange fnDaysBeforeWrong)

/-- 'laws.FnDayNumber': WHATEVER THE INPUT: true; the input reads as it did. -/
def fnDayNumberSpec : ChangeSpec := { name := "fnDayNumber", fn := fun _ => fun
  | [d] => { results := [.lit (.bool true)], args := [d] }
  | _ => none }
def fnDayNumberRow : OpenClaim := { program := "ytokmmbmkfpfmgaa", sum := "72a294da16690e84a6281c73af12a3256115384c74fee34a8183496956c2464d", func := "loop.example/roundturns/laws.FnDayNumber", spec := "fnDayNumber", apart := false }
def FnDayNumberSaid : Prop := fnDayNumberRow.holds Try.pinned (OpenSpec.ofChange fnDayNumberSpec)

/-- ITS FALSE NEIGHBOUR: 'it returns false'. Refute it at one input. -/
def fnDayNumberWrong : ChangeSpec := { name := "fnDayNumber", fn := fun _ => fun
  | [d] => { results := [.lit (.bool false)], args := [d] }
  | _ => none }
def FnDayNumberWrongFalsely : Prop := fnDayNumberRow.holds Try.pinned (OpenSpec.ofChange fnDayNumberWrong)

/-- 'laws.FnDateOf': WHATEVER THE INPUT: true; the input reads as it did. -/
def fnDateOfSpec : ChangeSpec := { name := "fnDateOf", fn := fun _ => fun
  | [d] => { results := [.lit (.bool true)], args := [d] }
  | _ => none }
def fnDateOfRow : OpenClaim := { program := "ytokmmbmkfpfmgaa", sum := "72a294da16690e84a6281c73af12a3256115384c74fee34a8183496956c2464d", func := "loop.example/roundturns/laws.FnDateOf", spec := "fnDateOf", apart := false }
def FnDateOfSaid : Prop := fnDateOfRow.holds Try.pinned (OpenSpec.ofChange fnDateOfSpec)

/-- ITS FALSE NEIGHBOUR: 'it returns false'. Refute it at one input. -/
def fnDateOfWrong : ChangeSpec := { name := "fnDateOf", fn := fun _ => fun
  | [d] => { results := [.lit (.bool false)], args := [d] }
  | _ => none }
def FnDateOfWrongFalsely : Prop := fnDateOfRow.holds Try.pinned (OpenSpec.ofChange fnDateOfWrong)

/-- 'laws.FnDriftOf': WHATEVER THE INPUT: true; the input reads as it did. -/
def fnDriftOfSpec : ChangeSpec := { name := "fnDriftOf", fn := fun _ => fun
  | [d] => { results := [.lit (.bool true)], args := [d] }
  | _ => none }
def fnDriftOfRow : OpenClaim := { program := "ytokmmbmkfpfmgaa", sum := "72a294da16690e84a6281c73af12a3256115384c74fee34a8183496956c2464d", func := "loop.example/roundturns/laws.FnDriftOf", spec := "fnDriftOf", unfollowed := true, recurses := true, apart := false }
def FnDriftOfSaid : Prop := fnDriftOfRow.holds Try.pinned (OpenSpec.ofChange fnDriftOfSpec)

/-- ITS FALSE NEIGHBOUR: 'it returns false'. Refute it at one input. -/
def fnDriftOfWrong : ChangeSpec := { name := "fnDriftOf", fn := fun _ => fun
  | [d] => { results := [.lit (.bool false)], args := [d] }
  | _ => none }
def FnDriftOfWrongFalsely : Prop := fnDriftOfRow.holds Try.pinned (OpenSpec.ofChange fnDriftOfWrong)

/-- 'laws.FnExactLongYear': WHATEVER THE INPUT: true; the input reads as it did. -/
def fnExactLongYearSpec : ChangeSpec := { name := "fnExactLongYear", fn := fun _ => fun
  | [d1, d2] => { results := [.lit (.bool true)], args := [d1, d2] }
  | _ => none }
def fnExactLongYearRow : OpenClaim := { program := "ytokmmbmkfpfmgaa", sum := "72a294da16690e84a6281c73af12a3256115384c74fee34a8183496956c2464d", func := "loop.example/roundturns/laws.FnExactLongYear", spec := "fnExactLongYear", apart := false }
def FnExactLongYearSaid : Prop := fnExactLongYearRow.holds Try.pinned (OpenSpec.ofChange fnExactLongYearSpec)

/-- ITS FALSE NEIGHBOUR: 'it returns false'. Refute it at one input. -/
def fnExactLongYearWrong : ChangeSpec := { name := "fnExactLongYear", fn := fun _ => fun
  | [d1, d2] => { results := [.lit (.bool false)], args := [d1, d2] }
  | _ => none }
def FnExactLongYearWrongFalsely : Prop := fnExactLongYearRow.holds Try.pinned (OpenSpec.ofChange fnExactLongYearWrong)

/-- 'laws.FnExactLongBefore': WHATEVER THE INPUT: true; the input reads as it did. -/
def fnExactLongBeforeSpec : ChangeSpec := { name := "fnExactLongBefore", fn := fun _ => fun
  | [d1, d2] => { results := [.lit (.bool true)], args := [d1, d2] }
  | _ => none }
def fnExactLongBeforeRow : OpenClaim := { program := "ytokmmbmkfpfmgaa", sum := "72a294da16690e84a6281c73af12a3256115384c74fee34a8183496956c2464d", func := "loop.example/roundturns/laws.FnExactLongBefore", spec := "fnExactLongBefore", unfollowed := true, recurses := true, apart := false }
def FnExactLongBeforeSaid : Prop := fnExactLongBeforeRow.holds Try.pinned (OpenSpec.ofChange fnExactLongBeforeSpec)

/-- ITS FALSE NEIGHBOUR: 'it returns false'. Refute it at one input. -/
def fnExactLongBeforeWrong : ChangeSpec := { name := "fnExactLongBefore", fn := fun _ => fun
  | [d1, d2] => { results := [.lit (.bool false)], args := [d1, d2] }
  | _ => none }
def FnExactLongBeforeWrongFalsely : Prop := fnExactLongBeforeRow.holds Try.pinned (OpenSpec.ofChange fnExactLongBeforeWrong)

/-- 'laws.FnExactDaysBefore': WHATEVER THE INPUT: true; the input reads as it did. -/
def fnExactDaysBeforeSpec : ChangeSpec := { name := "fnExactDaysBefore", fn := fun _ => fun
  | [d1, d2, d3] => { results := [.lit (.bool true)], args := [d1, d2, d3] }
  | _ => none }
def fnExactDaysBeforeRow : OpenClaim := { program := "ytokmmbmkfpfmgaa", sum := "72a294da16690e84a6281c73af12a3256115384c74fee34a8183496956c2464d", func := "loop.example/roundturns/laws.FnExactDaysBefore", spec := "fnExactDaysBefore", apart := false }
def FnExactDaysBeforeSaid : Prop := fnExactDaysBeforeRow.holds Try.pinned (OpenSpec.ofChange fnExactDaysBeforeSpec)

/-- ITS FALSE NEIGHBOUR: 'it returns false'. Refute it at one input. -/
def fnExactDaysBeforeWrong : ChangeSpec := { name := "fnExactDaysBefore", fn := fun _ => fun
  | [d1, d2, d3] => { results := [.lit (.bool false)], args := [d1, d2, d3] }
  | _ => none }
def FnExactDaysBeforeWrongFalsely : Prop := fnExactDaysBeforeRow.holds Try.pinned (OpenSpec.ofChange fnExactDaysBeforeWrong)

/-- 'laws.FnExactDayNumber': WHATEVER THE INPUT: true; the input reads as it did. -/
def fnExactDayNumberSpec : ChangeSpec := { name := "fnExactDayNumber", fn := fun _ => fun
  | [d1, d2, d3, d4] => { results := [.lit (.bool true)], args := [d1, d2, d3, d4] }
  | _ => none }
def fnExactDayNumberRow : OpenClaim := { program := "ytokmmbmkfpfmgaa", sum := "72a294da16690e84a6281c73af12a3256115384c74fee34a8183496956c2464d", func := "loop.example/roundturns/laws.FnExactDayNumber", spec := "fnExactDayNumber", apart := false }
def FnExactDayNumberSaid : Prop := fnExactDayNumberRow.holds Try.pinned (OpenSpec.ofChange fnExactDayNumberSpec)

/-- ITS FALSE NEIGHBOUR: 'it returns false'. Refute it at one input. -/
def fnExactDayNumberWrong : ChangeSpec := { name := "fnExactDayNumber", fn := fun _ => fun
  | [d1, d2, d3, d4] => { results := [.lit (.bool false)], args := [d1, d2, d3, d4] }
  | _ => none }
def FnExactDayNumberWrongFalsely : Prop := fnExactDayNumberRow.holds Try.pinned (OpenSpec.ofChange fnExactDayNumberWrong)

/-- 'laws.FnExactDateOf': WHATEVER THE INPUT: true; the input reads as it did. -/
def fnExactDateOfSpec : ChangeSpec := { name := "fnExactDateOf", fn := fun _ => fun
  | [d1, d2, d3] => { results := [.lit (.bool true)], args := [d1, d2, d3] }
  | _ => none }
def fnExactDateOfRow : OpenClaim := { program := "ytokmmbmkfpfmgaa", sum := "72a294da16690e84a6281c73af12a3256115384c74fee34a8183496956c2464d", func := "loop.example/roundturns/laws.FnExactDateOf", spec := "fnExactDateOf", apart := false }
def FnExactDateOfSaid : Prop := fnExactDateOfRow.holds Try.pinned (OpenSpec.ofChange fnExactDateOfSpec)

/-- ITS FALSE NEIGHBOUR: 'it returns false'. Refute it at one input. -/
def fnExactDateOfWrong : ChangeSpec := { name := "fnExactDateOf", fn := fun _ => fun
  | [d1, d2, d3] => { results := [.lit (.bool false)], args := [d1, d2, d3] }
  | _ => none }
def FnExactDateOfWrongFalsely : Prop := fnExactDateOfRow.holds Try.pinned (OpenSpec.ofChange fnExactDateOfWrong)

/-- 'laws.FnExactDriftOf': WHATEVER THE INPUT: true; the input reads as it did. -/
def fnExactDriftOfSpec : ChangeSpec := { name := "fnExactDriftOf", fn := fun _ => fun
  | [d1, d2] => { results := [.lit (.bool true)], args := [d1, d2] }
  | _ => none }
def fnExactDriftOfRow : OpenClaim := { program := "ytokmmbmkfpfmgaa", sum := "72a294da16690e84a6281c73af12a3256115384c74fee34a8183496956c2464d", func := "loop.example/roundturns/laws.FnExactDriftOf", spec := "fnExactDriftOf", unfollowed := true, recurses := true, apart := false }
def FnExactDriftOfSaid : Prop := fnExactDriftOfRow.holds Try.pinned (OpenSpec.ofChange fnExactDriftOfSpec)

/-- ITS FALSE NEIGHBOUR: 'it returns false'. Refute it at one input. -/
def fnExactDriftOfWrong : ChangeSpec := { name := "fnExactDriftOf", fn := fun _ => fun
  | [d1, d2] => { results := [.lit (.bool false)], args := [d1, d2] }
  | _ => none }
def FnExactDriftOfWrongFalsely : Prop := fnExactDriftOfRow.holds Try.pinned (OpenSpec.ofChange fnExactDriftOfWrong)

/- THE SECOND FORM. 'bulk': how many values and letters a reading holds, each counted each time it is reached (what is shared counts as often as it is met; a slice's spare places count too). A statement '..UptoSaid' is the law's where the arguments, and the package variables that the reading takes, are together of bulk at most 1048576: NARROWER than '..Said'. Prove '..Said' where nothing that the law and all that it calls make is longer than what came in: it says more and counts as full. Else prove '..UptoSaid'. A law counts once. -/
mutual
def uptoBulk {H : Type} : DataW H → Nat
  | .lit (.string bytes) => bytes.length + 1
  | .lit _ => 1
  | .nil => 1
  | .ptr d => uptoBulk d + 1
  | .slice elems spare => uptoBulkAll elems + uptoBulkAll spare + 1
  | .agg parts => uptoBulkAll parts + 1
  | .iface _ d => uptoBulk d + 1
  | .map entries => uptoBulkEntries entries + 1
  | .held _ => 1
def uptoBulkAll {H : Type} : List (DataW H) → Nat
  | [] => 0
  | d :: r => uptoBulk d + uptoBulkAll r
def uptoBulkEntries {H : Type} : List (Lit × DataW H) → Nat
  | [] => 0
  | x :: r => uptoBulkEntry x + uptoBulkEntries r
def uptoBulkEntry {H : Type} : Lit × DataW H → Nat
  | (.string bytes, d) => bytes.length + uptoBulk d + 1
  | (_, d) => uptoBulk d + 1
 end
def uptoSmall : (H : Type) → List (DataW H) → Bool := fun _ ds => decide (uptoBulkAll ds ≤ 1048576)
def OpenSpec.upto (s : _root_.Go.ChangeSpec) : _root_.Go.OpenSpec := { _root_.Go.OpenSpec.ofChange s with cond := some uptoSmall }

/-- 'laws.FnLongYear', WHERE WHAT IT READS IS OF BULK AT MOST 1048576: true; the input reads as it did. -/
def fnLongYearUptoRow : OpenClaim := { program := "ytokmmbmkfpfmgaa", sum := "72a294da16690e84a6281c73af12a3256115384c74fee34a8183496956c2464d", func := "loop.example/roundturns/laws.FnLongYear", spec := "fnLongYear", apart := false, narrowed := true }
def FnLongYearUptoSaid : Prop := fnLongYearUptoRow.holds Try.pinned (OpenSpec.upto fnLongYearSpec)

/-- 'laws.FnLongBefore', WHERE WHAT IT READS IS OF BULK AT MOST 1048576: true; the input reads as it did. -/
def fnLongBeforeUptoRow : OpenClaim := { program := "ytokmmbmkfpfmgaa", sum := "72a294da16690e84a6281c73af12a3256115384c74fee34a8183496956c2464d", func := "loop.example/roundturns/laws.FnLongBefore", spec := "fnLongBefore", unfollowed := true, recurses := true, apart := false, narrowed := true }
def FnLongBeforeUptoSaid : Prop := fnLongBeforeUptoRow.holds Try.pinned (OpenSpec.upto fnLongBeforeSpec)

/-- 'laws.FnDaysBefore', WHERE WHAT IT READS IS OF BULK AT MOST 1048576: true; the input reads as it did. -/
def fnDaysBeforeUptoRow : OpenClaim := { program := "ytokmmbmkfpfmgaa", sum := "72a294da16690e84a6281c73af12a3256115384c74fee34a8183496956c2464d", func := "loop.example/roundturns/laws.FnDaysBefore", spec := "fnDaysBefore", apart := false, narrowed := true }
def FnDaysBeforeUptoSaid : Prop := fnDaysBeforeUptoRow.holds Try.pinned (OpenSpec.upto fnDaysBeforeSpec)

/-- 'laws.FnDayNumber', WHERE WHAT IT READS IS OF BULK AT MOST 1048576: true; the input reads as it did. -/
def fnDayNumberUptoRow : OpenClaim := { program := "ytokmmbmkfpfmgaa", sum := "72a294da16690e84a6281c73af12a3256115384c74fee34a8183496956c2464d", func := "loop.example/roundturns/laws.FnDayNumber", spec := "fnDayNumber", apart := false, narrowed := true }
def FnDayNumberUptoSaid : Prop := fnDayNumberUptoRow.holds Try.pinned (OpenSpec.upto fnDayNumberSpec)

/-- 'laws.FnDateOf', WHERE WHAT IT READS IS OF BULK AT MOST 1048576: true; the input reads as it did. -/
def fnDateOfUptoRow : OpenClaim := { program := "ytokmmbmkfpfmgaa", sum := "72a294da16690e84a6281c73af12a3256115384c74fee34a8183496956c2464d", func := "loop.example/roundturns/laws.FnDateOf", spec := "fnDateOf", apart := false, narrowed := true }
def FnDateOfUptoSaid : Prop := fnDateOfUptoRow.holds Try.pinned (OpenSpec.upto fnDateOfSpec)

/-- 'laws.FnDriftOf', WHERE WHAT IT READS IS OF BULK AT MOST 1048576: true; the input reads as it did. -/
def fnDriftOfUptoRow : OpenClaim := { program := "ytokmmbmkfpfmgaa", sum := "72a294da16690e84a6281c73af12a3256115384c74fee34a8183496956c2464d", func := "loop.example/roundturns/laws.FnDriftOf", spec := "fnDriftOf", unfollowed := true, recurses := true, apart := false, narrowed := true }
def FnDriftOfUptoSaid : Prop := fnDriftOfUptoRow.holds Try.pinned (OpenSpec.upto fnDriftOfSpec)

/-- 'laws.FnExactLongYear', WHERE WHAT IT READS IS OF BULK AT MOST 1048576: true; the input reads as it did. -/
def fnExactLongYearUptoRow : OpenClaim := { program := "ytokmmbmkfpfmgaa", sum := "72a294da16690e84a6281c73af12a3256115384c74fee34a8183496956c2464d", func := "loop.example/roundturns/laws.FnExactLongYear", spec := "fnExactLongYear", apart := false, narrowed := true }
def FnExactLongYearUptoSaid : Prop := fnExactLongYearUptoRow.holds Try.pinned (OpenSpec.upto fnExactLongYearSpec)

/-- 'laws.FnExactLongBefore', WHERE WHAT IT READS IS OF BULK AT MOST 1048576: true; the input reads as it did. -/
def fnExactLongBeforeUptoRow : OpenClaim := { program := "ytokmmbmkfpfmgaa", sum := "72a294da16690e84a6281c73af12a3256115384c74fee34a8183496956c2464d", func := "loop.example/roundturns/laws.FnExactLongBefore", spec := "fnExactLongBefore", unfollowed := true, recurses := true, apart := false, narrowed := true }
def FnExactLongBeforeUptoSaid : Prop := fnExactLongBeforeUptoRow.holds Try.pinned (OpenSpec.upto fnExactLongBeforeSpec)

/-- 'laws.FnExactDaysBefore', WHERE WHAT IT READS IS OF BULK AT MOST 1048576: true; the input reads as it did. -/
def fnExactDaysBeforeUptoRow : OpenClaim := { program := "ytokmmbmkfpfmgaa", sum := "72a294da16690e84a6281c73af12a3256115384c74fee34a8183496956c2464d", func := "loop.example/roundturns/laws.FnExactDaysBefore", spec := "fnExactDaysBefore", apart := false, narrowed := true }
def FnExactDaysBeforeUptoSaid : Prop := fnExactDaysBeforeUptoRow.holds Try.pinned (OpenSpec.upto fnExactDaysBeforeSpec)

/-- 'laws.FnExactDayNumber', WHERE WHAT IT READS IS OF BULK AT MOST 1048576: true; the input reads as it did. -/
def fnExactDayNumberUptoRow : OpenClaim := { program := "ytokmmbmkfpfmgaa", sum := "72a294da16690e84a6281c73af12a3256115384c74fee34a8183496956c2464d", func := "loop.example/roundturns/laws.FnExactDayNumber", spec := "fnExactDayNumber", apart := false, narrowed := true }
def FnExactDayNumberUptoSaid : Prop := fnExactDayNumberUptoRow.holds Try.pinned (OpenSpec.upto fnExactDayNumberSpec)

/-- 'laws.FnExactDateOf', WHERE WHAT IT READS IS OF BULK AT MOST 1048576: true; the input reads as it did. -/
def fnExactDateOfUptoRow : OpenClaim := { program := "ytokmmbmkfpfmgaa", sum := "72a294da16690e84a6281c73af12a3256115384c74fee34a8183496956c2464d", func := "loop.example/roundturns/laws.FnExactDateOf", spec := "fnExactDateOf", apart := false, narrowed := true }
def FnExactDateOfUptoSaid : Prop := fnExactDateOfUptoRow.holds Try.pinned (OpenSpec.upto fnExactDateOfSpec)

/-- 'laws.FnExactDriftOf', WHERE WHAT IT READS IS OF BULK AT MOST 1048576: true; the input reads as it did. -/
def fnExactDriftOfUptoRow : OpenClaim := { program := "ytokmmbmkfpfmgaa", sum := "72a294da16690e84a6281c73af12a3256115384c74fee34a8183496956c2464d", func := "loop.example/roundturns/laws.FnExactDriftOf", spec := "fnExactDriftOf", unfollowed := true, recurses := true, apart := false, narrowed := true }
def FnExactDriftOfUptoSaid : Prop := fnExactDriftOfUptoRow.holds Try.pinned (OpenSpec.upto fnExactDriftOfSpec)

end Rows
end Go.Proofs.Ytokmmbmkfpfmgaa
