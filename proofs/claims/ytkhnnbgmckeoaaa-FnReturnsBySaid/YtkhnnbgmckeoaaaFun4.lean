/- Contracts of OppositeOf and of BothSteps, of the program and of the model; and of eqTurn. -/
import Derived.Test.YtkhnnbgmckeoaaaFun3
set_option linter.unusedVariables false
namespace Go.Proofs.Ytkhnnbgmckeoaaa
open Go.ChangeShapes Go.WideShapes Go.ChangeAt Go.RowKit Go.Joins

set_option maxHeartbeats 1000000 in
theorem oppositeOf_any (n s : Int) (w : World) :
    Calls Try.prog 48 #[(.agg #[.int .i64 (n), .int .i64 (s)])] w fun e w' => e = .returned (.agg #[.int .i64 ((oppT n s).1), .int .i64 ((oppT n s).2)]) ∧ Below w.heap.size w w' := by
  
  by_cases ht : tok n s = true
  · have hb := tok_bd ht
    rw [oppT_yes ht]
    have E := Lib.hid (timeF_one ht)
    go_enter Try.func48, Try.ntmps48
    go_wp2_with fail
    refine (turnOk_any _ _ _).mono ?_; rintro e w1 ⟨rfl, hb1⟩
    have hz1 := hb1.size
    try simp at hz1
    have t1 : Two w1 (w.heap.size) (.int .i64 n) (.int .i64 s) 24 := Two.below (by repeat (first | assumption | exact Two.new' _ _ _ _ _ (by simp) | refine Two.alloc ?_ _ | refine Two.drewN ?_ _)) hb1 (by first | omega | (simp <;> omega))
    have hlt1 : (w.heap.size) < w1.heap.size := t1.lt
    have hnt1 : ¬ (w.heap.size) = w1.heap.size := Nat.ne_of_lt hlt1
    have t1c := t1.cell0
    have t1d := t1.cell1
    have u1 : Two w1 (w.heap.size + 1) (.int .i64 0) (.int .i64 0) 24 := Two.below (by repeat (first | assumption | exact Two.new' _ _ _ _ _ (by simp) | refine Two.alloc ?_ _ | refine Two.drewN ?_ _)) hb1 (by first | omega | (simp <;> omega))
    have hlu1 : (w.heap.size + 1) < w1.heap.size := u1.lt
    have hnu1 : ¬ (w.heap.size + 1) = w1.heap.size := Nat.ne_of_lt hlu1
    have u1c := u1.cell0
    have u1d := u1.cell1
    rw [ht]
    go_wp2_with fail
    have hA : w.heap.size + 1 ≠ w.heap.size := by omega
    go_region_held3 (fun w' => w'.cell? ⟨w.heap.size, 0, none⟩ = some (.int .i64 n) ∧ w'.cell? ⟨w.heap.size, 1, none⟩ = some (.int .i64 s))
      (first | go_keep | exact ⟨c0', c1'⟩ | exact ⟨((t'.set (b := w.heap.size + 1) hA 0 _).set (b := w.heap.size + 1) hA 1 _).cell0, ((t'.set (b := w.heap.size + 1) hA 0 _).set (b := w.heap.size + 1) hA 1 _).cell1⟩)
      (first | (go_at_call 79; refine (timeOf_any n s 1 _).mono ?_; rintro e w' ⟨rfl, hb'⟩; have t' := Two.below (b := w.heap.size) (x := .int .i64 n) (y := .int .i64 s) (T := 24) (by assumption) hb' (by first | omega | (simp <;> omega)); have u' := Two.below (b := w.heap.size + 1) (x := .int .i64 0) (y := .int .i64 0) (T := 24) (by assumption) hb' (by first | omega | (simp <;> omega)); have c0' := t'.cell0; have c1' := t'.cell1; have d0' := u'.cell0; have d1' := u'.cell1; have f0' := u'.free 0; have f1' := u'.free 1; rw [E.out]))
    have u2 := (u'.set0 (.int .i64 n)).set1 (.int .i64 (invF n s))
    have e0 := u2.cell0
    have e1 := u2.cell1
    go_wp2
    exact bodyPost_ret (v := (.agg #[.int .i64 (n), .int .i64 (invF n s)])) (by simp [results, Try.results48, go_sem, e0, e1]) rfl ⟨rfl, (by repeat (first | exact Below.refl _ _ | assumption | (refine Below.trans ?_ (Below.mono (by assumption) (by first | omega | (simp <;> omega)))) | (refine Below.alloc ?_ (by first | omega | (simp <;> omega)) _) | (refine below_drewN ?_ _) | (refine Below.drew ?_) | (refine Below.setCell ?_ (by first | omega | (simp <;> omega)) _)))⟩
  · have ht' : tok n s = false := by simpa using ht
    rw [oppT_no ht]
    go_enter Try.func48, Try.ntmps48
    go_wp2_with fail
    refine (turnOk_any _ _ _).mono ?_; rintro e w1 ⟨rfl, hb1⟩
    have hz1 := hb1.size
    try simp at hz1
    have t1 : Two w1 (w.heap.size) (.int .i64 n) (.int .i64 s) 24 := Two.below (by repeat (first | assumption | exact Two.new' _ _ _ _ _ (by simp) | refine Two.alloc ?_ _ | refine Two.drewN ?_ _)) hb1 (by first | omega | (simp <;> omega))
    have hlt1 : (w.heap.size) < w1.heap.size := t1.lt
    have hnt1 : ¬ (w.heap.size) = w1.heap.size := Nat.ne_of_lt hlt1
    have t1c := t1.cell0
    have t1d := t1.cell1
    have u1 : Two w1 (w.heap.size + 1) (.int .i64 0) (.int .i64 0) 24 := Two.below (by repeat (first | assumption | exact Two.new' _ _ _ _ _ (by simp) | refine Two.alloc ?_ _ | refine Two.drewN ?_ _)) hb1 (by first | omega | (simp <;> omega))
    have hlu1 : (w.heap.size + 1) < w1.heap.size := u1.lt
    have hnu1 : ¬ (w.heap.size + 1) = w1.heap.size := Nat.ne_of_lt hlu1
    have u1c := u1.cell0
    have u1d := u1.cell1
    rw [ht']
    have f0 := u1.free 0
    have f1 := u1.free 1
    have u2 := (u1.set0 (.int .i64 0)).set1 (.int .i64 0)
    have e0 := u2.cell0
    have e1 := u2.cell1
    go_wp2
    exact bodyPost_ret (v := (.agg #[.int .i64 (0), .int .i64 (0)])) (by simp [results, Try.results48, go_sem, e0, e1]) rfl ⟨rfl, (by repeat (first | exact Below.refl _ _ | assumption | (refine Below.trans ?_ (Below.mono (by assumption) (by first | omega | (simp <;> omega)))) | (refine Below.alloc ?_ (by first | omega | (simp <;> omega)) _) | (refine below_drewN ?_ _) | (refine Below.drew ?_) | (refine Below.setCell ?_ (by first | omega | (simp <;> omega)) _)))⟩

end Go.Proofs.Ytkhnnbgmckeoaaa
