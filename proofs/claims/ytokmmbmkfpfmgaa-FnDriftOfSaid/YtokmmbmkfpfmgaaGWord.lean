/- Letters and words of a turn: contracts of the model's l5Letter, CodeOf and OnesUpTo. Contract of the model's CodeOf. Contract of the model's OnesUpTo. -/
import Derived.Test.YtokmmbmkfpfmgaaGCode
import Derived.Test.YtokmmbmkfpfmgaaGFun
import Derived.Laws.Concat
set_option linter.unusedVariables false
namespace Go.Proofs.Ytokmmbmkfpfmgaa
set_option maxRecDepth 4000
open Go.ChangeShapes Go.WideShapes Go.ChangeAt Go.RowKit Go.Joins

theorem let_int {n s : Int} (ht : tok n s = true) (k : Nat) : letN n.toNat s.toNat k = decide (n ≤ (k : Int) * s % n + s) := by
  obtain ⟨h1, _, h3, h4, _⟩ := (tok_iff n s).1 ht
  obtain ⟨N, rfl⟩ := Int.eq_ofNat_of_zero_le (by omega : 0 ≤ n)
  obtain ⟨S, rfl⟩ := Int.eq_ofNat_of_zero_le (by omega : 0 ≤ s)
  unfold letN
  rw [Int.toNat_natCast, Int.toNat_natCast]
  apply decide_eq_decide.2
  have : ((k : Int) * S % N + S) = ((k * S % N + S : Nat) : Int) := by simp
  rw [this]
  omega

def codeF (n s a m : Int) : List Bool := if tok n s = true ∧ (0 ≤ a ∧ a < n) ∧ (0 ≤ m ∧ m ≤ 60) then wordL n.toNat s.toNat a.toNat m.toNat else []

theorem codeF_yes {n s a m : Int} (h : tok n s = true) (h0 : 0 ≤ a) (h1 : a < n) (h2 : 0 ≤ m) (h3 : m ≤ 60) : codeF n s a m = wordL n.toNat s.toNat a.toNat m.toNat := if_pos ⟨h, ⟨h0, h1⟩, h2, h3⟩

theorem codeF_no {n s a m : Int} (h : ¬ (tok n s = true ∧ (0 ≤ a ∧ a < n) ∧ (0 ≤ m ∧ m ≤ 60))) : codeF n s a m = [] := if_neg h

theorem codeF_len (n s a m : Int) : (codeF n s a m).length ≤ 60 := by
  unfold codeF
  split
  · rw [wordL_length]; omega
  · simp

def StrPost (u : List Bool) (w : World) (e : Ending) (w' : World) : Prop := e = .returned (.string (txtB u)) ∧ Below w.heap.size w w'

theorem txtB_nil : txtB [] = ⟨#[]⟩ := rfl

theorem txtB_one (b : Bool) : txtB [b] = if b then ⟨#[49]⟩ else ⟨#[48]⟩ := by cases b <;> rfl

theorem ret_str {a b : ByteArray} (h : a = b) : Ending.returned (.string a) = .returned (.string b) := by rw [h]

set_option maxHeartbeats 1000000 in
theorem l5Letter_any (n s : Int) (k : Nat) (w : World) (ht : tok n s = true) (hk : k ≤ 1000) :
    Calls Try.prog 42 #[(.agg #[.int .i64 (n), .int .i64 (s)]), .int .i64 k] w (StrPost [letN n.toNat s.toNat k] w) := by
  
  have hb := tok_bd ht
  have E := Lib.hid (let_int ht k)
  have m0 : 0 ≤ (k : Int) * s := Int.mul_nonneg (by omega) (by omega)
  have m1 : (k : Int) * s ≤ 1000 * 60 := Int.mul_le_mul (by omega) (by omega) (by omega) (by omega)
  have r0 : 0 ≤ (k : Int) * s % n := Int.emod_nonneg _ (by omega)
  have r1 : (k : Int) * s % n < n := Int.emod_lt_of_pos _ (by omega)
  by_cases c : n ≤ (k : Int) * s % n + s
  · have e : letN n.toNat s.toNat k = true := by rw [E.out]; simpa using c
    have R : Hid (txtB [letN n.toNat s.toNat k] = ⟨#[49]⟩) := by rw [e]; exact rfl
    clear e E
    go_enter Try.func42, Try.ntmps42
    go_wp2_with fail
    go_region
    go_wp2
    go_ret
    exact ⟨ret_str R.out.symm, (by repeat (first | exact Below.refl _ _ | assumption | (refine Below.trans ?_ (Below.mono (by assumption) (by first | omega | (simp <;> omega)))) | (refine Below.alloc ?_ (by first | omega | (simp <;> omega)) _) | (refine below_drewN ?_ _) | (refine Below.drew ?_) | (refine Below.setCell ?_ (by first | omega | (simp <;> omega)) _)))⟩
  · have e : letN n.toNat s.toNat k = false := by rw [E.out]; simpa using c
    have R : Hid (txtB [letN n.toNat s.toNat k] = ⟨#[48]⟩) := by rw [e]; exact rfl
    clear e E
    go_enter Try.func42, Try.ntmps42
    go_wp2_with fail
    go_region
    go_wp2
    go_ret
    exact ⟨ret_str R.out.symm, (by repeat (first | exact Below.refl _ _ | assumption | (refine Below.trans ?_ (Below.mono (by assumption) (by first | omega | (simp <;> omega)))) | (refine Below.alloc ?_ (by first | omega | (simp <;> omega)) _) | (refine below_drewN ?_ _) | (refine Below.drew ?_) | (refine Below.setCell ?_ (by first | omega | (simp <;> omega)) _)))⟩

theorem l5Letter_int (n s k : Int) (w : World) (ht : tok n s = true) (h0 : 0 ≤ k) (hk : k ≤ 1000) :
    Calls Try.prog 42 #[(.agg #[.int .i64 (n), .int .i64 (s)]), .int .i64 k] w (StrPost [letN n.toNat s.toNat k.toNat] w) := by
  obtain ⟨k, rfl⟩ := Int.eq_ofNat_of_zero_le h0
  rw [Int.toNat_natCast]
  exact l5Letter_any n s k w ht (by omega)
end Go.Proofs.Ytokmmbmkfpfmgaa

set_option linter.unusedVariables false
namespace Go.Proofs.Ytokmmbmkfpfmgaa
open Go.ChangeShapes Go.WideShapes Go.ChangeAt Go.RowKit Go.Joins

end Go.Proofs.Ytokmmbmkfpfmgaa

set_option linter.unusedVariables false
namespace Go.Proofs.Ytokmmbmkfpfmgaa
open Go.ChangeShapes Go.WideShapes Go.ChangeAt Go.RowKit Go.Joins

def onesF (n s m : Int) : Int := if tok n s = true ∧ 0 ≤ m ∧ m ≤ n then m * s / n else -1

theorem onesF_yes {n s m : Int} (h : tok n s = true) (h0 : 0 ≤ m) (h1 : m ≤ n) : onesF n s m = m * s / n := if_pos ⟨h, h0, h1⟩

theorem onesF_no {n s m : Int} (h : ¬ (tok n s = true ∧ 0 ≤ m ∧ m ≤ n)) : onesF n s m = -1 := if_neg h

theorem onesF_fl {n s : Int} {m : Nat} (h : tok n s = true) (h1 : (m : Int) ≤ n) : onesF n s m = ((flN n.toNat s.toNat m : Nat) : Int) := by
  rw [onesF_yes h (by omega) h1]
  obtain ⟨h1, _, h3, h4, _⟩ := (tok_iff n s).1 h
  obtain ⟨N, rfl⟩ := Int.eq_ofNat_of_zero_le (by omega : 0 ≤ n)
  obtain ⟨S, rfl⟩ := Int.eq_ofNat_of_zero_le (by omega : 0 ≤ s)
  unfold flN
  simp

end Go.Proofs.Ytokmmbmkfpfmgaa
