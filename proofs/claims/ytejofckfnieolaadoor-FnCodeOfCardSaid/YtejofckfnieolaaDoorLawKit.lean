/- What every law's row needs: closed facts on the program, and the contract of toTurn. -/
import Derived.Test.YtejofckfnieolaaDoorTurn
import Derived.ProofKit
import Derived.OpenShut
import Derived.ShutString
import Derived.ChangeOld
import Derived.Lib.SmallJoins
namespace Go.Proofs.YtejofckfnieolaaDoor
open Go.ChangeShapes Go.WideShapes Go.ChangeAt Go.RowKit Go.Joins

theorem own : ownKnob Tryd.prog.godebug = none := by kernel_rfl

theorem laidOut : laidOutB Tryd.prog = true := by kernel_rfl

def IsRow (k : IntKind) (w : World) (a : Option Addr) (len cap : Nat) (zs : List Int) : Prop :=
  (a = none ∧ len = 0 ∧ cap = 0 ∧ zs = []) ∨
  ∃ x, a = some x ∧ len ≤ cap ∧ cap ≤ maxLen ∧ zs.length = cap ∧ (∀ i, i < zs.length → w.cell? (x.add i) = some (.int k (zs.getD i 0))) ∧ ∀ n ∈ zs, (Lit.int k n).wf = true

theorem wf_i64 {n : Int} (h : (Lit.int .i64 n).wf = true) : -9223372036854775808 ≤ n ∧ n ≤ 9223372036854775807 := by
  simp [Lit.wf, IntKind.min, IntKind.max, IntKind.bits, IntKind.signed] at h
  omega

theorem heads : (Tryd.pinned.checked.prog.liftsFinal == false && Tryd.pinned.checked.prog.make == some .cut && Tryd.pinned.checked.prog.mayEnter) = true := by kernel_rfl

theorem heads3 : (Tryd.pinned.checked.prog.liftsFinal = false ∧ Tryd.pinned.checked.prog.make = some .cut) ∧ Tryd.pinned.checked.prog.mayEnter = true := by
  have h := heads
  simp only [Bool.and_eq_true, beq_iff_eq] at h
  exact h

theorem liftsFinal_eq : Tryd.pinned.checked.prog.liftsFinal = false := heads3.1.1

theorem make_eq : Tryd.pinned.checked.prog.make = some .cut := heads3.1.2

theorem mayEnter_eq : Tryd.pinned.checked.prog.mayEnter = true := heads3.2

end Go.Proofs.YtejofckfnieolaaDoor
