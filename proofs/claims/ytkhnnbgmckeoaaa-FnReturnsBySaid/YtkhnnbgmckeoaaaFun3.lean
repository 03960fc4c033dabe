/- Contracts: alive, and the turn the opposite and the other way, of the program and the model. -/
import Derived.Test.YtkhnnbgmckeoaaaFun2
set_option linter.unusedVariables false
namespace Go.Proofs.Ytkhnnbgmckeoaaa
open Go.ChangeShapes Go.WideShapes Go.ChangeAt Go.RowKit Go.Joins

theorem tok_52 : tok 5 2 = true := by decide

theorem tok_00 : tok 0 0 = false := by decide

set_option maxHeartbeats 1000000 in
theorem alive_any (w : World) :
    Calls Try.prog 23 #[] w fun e w' => e = .returned (.bool true) ∧ Below w.heap.size w w' := by
  have t1 := tok_52
  have t2 := tok_00
  go_enter Try.func23, Try.ntmps23
  go_wp2_with fail
  refine (turnOk_any _ _ _).mono ?_; rintro e w1 ⟨rfl, hb1⟩
  have hz1 := hb1.size
  try simp at hz1
  rw [t1]
  go_wp2_with fail
  refine (turnOk_any _ _ _).mono ?_; rintro e w2 ⟨rfl, hb2⟩
  have hz2 := hb2.size
  try simp at hz2
  rw [t2]
  go_wp2
  go_ret
  exact ⟨rfl, (by repeat (first | exact Below.refl _ _ | assumption | (refine Below.trans ?_ (Below.mono (by assumption) (by first | omega | (simp <;> omega)))) | (refine Below.alloc ?_ (by first | omega | (simp <;> omega)) _) | (refine below_drewN ?_ _) | (refine Below.drew ?_) | (refine Below.setCell ?_ (by first | omega | (simp <;> omega)) _)))⟩

/-- the turn the opposite way, and the other way -/
def oppT (n s : Int) : Int × Int := if tok n s = true then (n, invF n s) else (0, 0)

def backT (n s : Int) : Int × Int := if tok n s = true then (n, n - s) else (0, 0)

theorem oppT_yes {n s : Int} (h : tok n s = true) : oppT n s = (n, invF n s) := if_pos h

theorem oppT_no {n s : Int} (h : ¬ tok n s = true) : oppT n s = (0, 0) := if_neg h

theorem backT_yes {n s : Int} (h : tok n s = true) : backT n s = (n, n - s) := if_pos h

theorem backT_no {n s : Int} (h : ¬ tok n s = true) : backT n s = (0, 0) := if_neg h

set_option maxHeartbeats 1000000 in
theorem backTurn_any (n s : Int) (w : World) :
    Calls Try.prog 44 #[(.agg #[.int .i64 (n), .int .i64 (s)])] w fun e w' => e = .returned (.agg #[.int .i64 ((backT n s).1), .int .i64 ((backT n s).2)]) ∧ Below w.heap.size w w' := by
  
  by_cases ht : tok n s = true
  · have hb := tok_bd ht
    rw [backT_yes ht]
    go_enter Try.func44, Try.ntmps44
    go_wp2_with fail
    refine (turnOk_any _ _ _).mono ?_; rintro e w1 ⟨rfl, hb1⟩
    have hz1 := hb1.size
    try simp at hz1
    have t1 : Two w1 (w.heap.size) (.int .i64 n) (.int .i64 s) 24 := Two.below (by repeat (first | assumption | exact Two.new' _ _ _ _ _ (by simp) | refine Two.alloc ?_ _ | refine Two.drewN ?_ _)) hb1 (by first | omega | (simp <;> omega))
    have hlt1 : (w.heap.size) < w1.heap.size := t1.lt
    have hnt1 : ¬ (w.heap.size) = w1.heap.size := Nat.ne_of_lt hlt1
    have t1c := t1.cell0
    have t1d := t1.cell1
    have u1 : Two w1 (w.heap.size + 1) (.int .i64 0) (.int .i64 0) 24 := Two.below (by repeat (first | assumption | exact Two.new' _ _ _ _ _ (by simp) | refine Two.alloc ?_ _ | refine Two.drewN ?_ _)) hb1 (by first | omega | (simp <;> omega))
    have hlu1 : (w.heap.size + 1) < w1.heap.size := u1.lt
    have hnu1 : ¬ (w.heap.size + 1) = w1.heap.size := Nat.ne_of_lt hlu1
    have u1c := u1.cell0
    have u1d := u1.cell1
    rw [ht]
    have f0 := u1.free 0
    have f1 := u1.free 1
    have u2 := (u1.set0 (.int .i64 n)).set1 (.int .i64 (n - s))
    have e0 := u2.cell0
    have e1 := u2.cell1
    go_wp2
    exact bodyPost_ret (v := (.agg #[.int .i64 (n), .int .i64 (n - s)])) (by simp [results, Try.results44, go_sem, e0, e1]) rfl ⟨rfl, (by repeat (first | exact Below.refl _ _ | assumption | (refine Below.trans ?_ (Below.mono (by assumption) (by first | omega | (simp <;> omega)))) | (refine Below.alloc ?_ (by first | omega | (simp <;> omega)) _) | (refine below_drewN ?_ _) | (refine Below.drew ?_) | (refine Below.setCell ?_ (by first | omega | (simp <;> omega)) _)))⟩
  · have ht' : tok n s = false := by simpa using ht
    rw [backT_no ht]
    go_enter Try.func44, Try.ntmps44
    go_wp2_with fail
    refine (turnOk_any _ _ _).mono ?_; rintro e w1 ⟨rfl, hb1⟩
    have hz1 := hb1.size
    try simp at hz1
    have t1 : Two w1 (w.heap.size) (.int .i64 n) (.int .i64 s) 24 := Two.below (by repeat (first | assumption | exact Two.new' _ _ _ _ _ (by simp) | refine Two.alloc ?_ _ | refine Two.drewN ?_ _)) hb1 (by first | omega | (simp <;> omega))
    have hlt1 : (w.heap.size) < w1.heap.size := t1.lt
    have hnt1 : ¬ (w.heap.size) = w1.heap.size := Nat.ne_of_lt hlt1
    have t1c := t1.cell0
    have t1d := t1.cell1
    have u1 : Two w1 (w.heap.size + 1) (.int .i64 0) (.int .i64 0) 24 := Two.below (by repeat (first | assumption | exact Two.new' _ _ _ _ _ (by simp) | refine Two.alloc ?_ _ | refine Two.drewN ?_ _)) hb1 (by first | omega | (simp <;> omega))
    have hlu1 : (w.heap.size + 1) < w1.heap.size := u1.lt
    have hnu1 : ¬ (w.heap.size + 1) = w1.heap.size := Nat.ne_of_lt hlu1
    have u1c := u1.cell0
    have u1d := u1.cell1
    rw [ht']
    have f0 := u1.free 0
    have f1 := u1.free 1
    have u2 := (u1.set0 (.int .i64 0)).set1 (.int .i64 0)
    have e0 := u2.cell0
    have e1 := u2.cell1
    go_wp2
    exact bodyPost_ret (v := (.agg #[.int .i64 (0), .int .i64 (0)])) (by simp [results, Try.results44, go_sem, e0, e1]) rfl ⟨rfl, (by repeat (first | exact Below.refl _ _ | assumption | (refine Below.trans ?_ (Below.mono (by assumption) (by first | omega | (simp <;> omega)))) | (refine Below.alloc ?_ (by first | omega | (simp <;> omega)) _) | (refine below_drewN ?_ _) | (refine Below.drew ?_) | (refine Below.setCell ?_ (by first | omega | (simp <;> omega)) _)))⟩

end Go.Proofs.Ytkhnnbgmckeoaaa
