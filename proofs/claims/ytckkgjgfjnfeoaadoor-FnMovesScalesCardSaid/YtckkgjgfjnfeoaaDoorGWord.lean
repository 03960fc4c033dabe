/- Letters and words of a turn: contracts of the model's l5Letter, CodeOf and OnesUpTo. Contract of the model's CodeOf. Contract of the model's OnesUpTo. -/
import Derived.Test.YtckkgjgfjnfeoaaDoorGCode
import Derived.Test.YtckkgjgfjnfeoaaDoorGFun
import Derived.Laws.Concat
set_option linter.unusedVariables false
namespace Go.Proofs.YtckkgjgfjnfeoaaDoor
set_option maxRecDepth 4000
open Go.ChangeShapes Go.WideShapes Go.ChangeAt Go.RowKit Go.Joins

theorem let_int {n s : Int} (ht : tok n s = true) (k : Nat) : letN n.toNat s.toNat k = decide (n ≤ (k : Int) * s % n + s) := by
  obtain ⟨h1, _, h3, h4, _⟩ := (tok_iff n s).1 ht
  obtain ⟨N, rfl⟩ := Int.eq_ofNat_of_zero_le (by omega : 0 ≤ n)
  obtain ⟨S, rfl⟩ := Int.eq_ofNat_of_zero_le (by omega : 0 ≤ s)
  unfold letN
  rw [Int.toNat_natCast, Int.toNat_natCast]
  apply decide_eq_decide.2
  have : ((k : Int) * S % N + S) = ((k * S % N + S : Nat) : Int) := by simp
  rw [this]
  omega

def codeF (n s a m : Int) : List Bool := if tok n s = true ∧ (0 ≤ a ∧ a < n) ∧ (0 ≤ m ∧ m ≤ 60) then wordL n.toNat s.toNat a.toNat m.toNat else []

theorem codeF_yes {n s a m : Int} (h : tok n s = true) (h0 : 0 ≤ a) (h1 : a < n) (h2 : 0 ≤ m) (h3 : m ≤ 60) : codeF n s a m = wordL n.toNat s.toNat a.toNat m.toNat := if_pos ⟨h, ⟨h0, h1⟩, h2, h3⟩

theorem codeF_no {n s a m : Int} (h : ¬ (tok n s = true ∧ (0 ≤ a ∧ a < n) ∧ (0 ≤ m ∧ m ≤ 60))) : codeF n s a m = [] := if_neg h

theorem codeF_len (n s a m : Int) : (codeF n s a m).length ≤ 60 := by
  unfold codeF
  split
  · rw [wordL_length]; omega
  · simp

def StrPost (u : List Bool) (w : World) (e : Ending) (w' : World) : Prop := e = .returned (.string (txtB u)) ∧ Below w.heap.size w w'

theorem txtB_nil : txtB [] = ⟨#[]⟩ := rfl

theorem txtB_one (b : Bool) : txtB [b] = if b then ⟨#[49]⟩ else ⟨#[48]⟩ := by cases b <;> rfl

theorem ret_str {a b : ByteArray} (h : a = b) : Ending.returned (.string a) = .returned (.string b) := by rw [h]

end Go.Proofs.YtckkgjgfjnfeoaaDoor

set_option linter.unusedVariables false
namespace Go.Proofs.YtckkgjgfjnfeoaaDoor
open Go.ChangeShapes Go.WideShapes Go.ChangeAt Go.RowKit Go.Joins

end Go.Proofs.YtckkgjgfjnfeoaaDoor

set_option linter.unusedVariables false
namespace Go.Proofs.YtckkgjgfjnfeoaaDoor
open Go.ChangeShapes Go.WideShapes Go.ChangeAt Go.RowKit Go.Joins

def onesF (n s m : Int) : Int := if tok n s = true ∧ 0 ≤ m ∧ m ≤ n then m * s / n else -1

theorem onesF_yes {n s m : Int} (h : tok n s = true) (h0 : 0 ≤ m) (h1 : m ≤ n) : onesF n s m = m * s / n := if_pos ⟨h, h0, h1⟩

theorem onesF_no {n s m : Int} (h : ¬ (tok n s = true ∧ 0 ≤ m ∧ m ≤ n)) : onesF n s m = -1 := if_neg h

theorem onesF_fl {n s : Int} {m : Nat} (h : tok n s = true) (h1 : (m : Int) ≤ n) : onesF n s m = ((flN n.toNat s.toNat m : Nat) : Int) := by
  rw [onesF_yes h (by omega) h1]
  obtain ⟨h1, _, h3, h4, _⟩ := (tok_iff n s).1 h
  obtain ⟨N, rfl⟩ := Int.eq_ofNat_of_zero_le (by omega : 0 ≤ n)
  obtain ⟨S, rfl⟩ := Int.eq_ofNat_of_zero_le (by omega : 0 ≤ s)
  unfold flN
  simp

end Go.Proofs.YtckkgjgfjnfeoaaDoor
