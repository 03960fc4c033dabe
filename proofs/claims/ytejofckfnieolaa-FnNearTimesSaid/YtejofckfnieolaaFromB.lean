/- Contract of the iterator of slices.Backward. -/
import Derived.Test.YtejofckfnieolaaFromI
set_option linter.unusedVariables false
set_option linter.unusedSimpArgs false
namespace Go.Proofs.Ytejofckfnieolaa

set_option maxRecDepth 4000
open Go.ChangeShapes Go.WideShapes Go.ChangeAt Go.RowKit Go.Joins Go.Shelf

attribute [local go_sem] Oper.semAt_some

def uptoL {α : Type} (f : Nat → α) (k : Nat) : List α := (List.range k).map f

theorem uptoL_succ {α : Type} (f : Nat → α) (k : Nat) : uptoL f (k + 1) = uptoL f k ++ [f k] := by simp [uptoL, List.range_succ]

theorem uptoL_length {α : Type} (f : Nat → α) (k : Nat) : (uptoL f k).length = k := by simp [uptoL]

def encB (x : Nat × Nat) : Array Value := #[.int .i64 (x.1 : Int), .int .i64 ((x.2 + 1 : Nat) : Int)]

def backF (ys : List Nat) (N : Nat) (i : Nat) : Nat × Nat := (N - 1 - i, ys.getD (N - 1 - i) 0)

def KpB (Bs g : Nat) (W W' : World) : Prop := W'.heap[Bs]? = W.heap[Bs]? ∧ W'.heap[g]? = W.heap[g]?

theorem KpB.trans {Bs g : Nat} {A B C : World} (h : KpB Bs g A B) (h' : KpB Bs g B C) : KpB Bs g A C := ⟨h'.1.trans h.1, h'.2.trans h.2⟩

end Go.Proofs.Ytejofckfnieolaa
