/- Contracts of BothSteps, of the program and of the model. -/
import Derived.Test.YthplcfnpjkhaeaaFun4
set_option linter.unusedVariables false
namespace Go.Proofs.Ythplcfnpjkhaeaa
open Go.ChangeShapes Go.WideShapes Go.ChangeAt Go.RowKit Go.Joins

def bothT (n s m r : Int) : (Int × Int) × Bool := if tok n s = true ∧ tok m r = true ∧ n = m then ((n, s * r % n), true) else ((0, 0), false)

theorem bothT_yes {n s r : Int} (h : tok n s = true) (h' : tok n r = true) : bothT n s n r = ((n, s * r % n), true) := if_pos ⟨h, h', rfl⟩

theorem bothT_no {n s m r : Int} (h : ¬ (tok n s = true ∧ tok m r = true ∧ n = m)) : bothT n s m r = ((0, 0), false) := if_neg h

set_option maxHeartbeats 1000000 in
theorem bothSteps_any (n s m r : Int) (w : World) :
    Calls Try.prog 30 #[(.agg #[.int .i64 (n), .int .i64 (s)]), (.agg #[.int .i64 (m), .int .i64 (r)])] w fun e w' => e = .returned (.tuple #[(.agg #[.int .i64 ((bothT n s m r).1.1), .int .i64 ((bothT n s m r).1.2)]), .bool (bothT n s m r).2]) ∧ Below w.heap.size w w' := by
  
  by_cases ht : tok n s = true
  · by_cases hu : tok m r = true
    · by_cases hnm : n = m
      · subst hnm
        have hb := tok_bd ht
        have hb2 := tok_bd hu
        rw [bothT_yes ht hu]
        have m0 : 0 ≤ s * r := Int.mul_nonneg (by omega) (by omega)
        have m1 : s * r ≤ 60 * 60 := Int.mul_le_mul (by omega) (by omega) (by omega) (by omega)
        have hv : w.heap.size + 1 + 1 ≠ w.heap.size := by omega
        have hv' : w.heap.size + 1 + 1 ≠ w.heap.size + 1 := by omega
        go_enter Try.func30, Try.ntmps30
        go_wp2_with fail
        refine (turnOk_any _ _ _).mono ?_; rintro e w1 ⟨rfl, hb1⟩
        have hz1 := hb1.size
        try simp at hz1
        have t1 : Two w1 (w.heap.size) (.int .i64 n) (.int .i64 s) 24 := Two.below (by repeat (first | assumption | exact Two.new' _ _ _ _ _ (by simp) | refine Two.alloc ?_ _ | refine Two.drewN ?_ _)) hb1 (by first | omega | (simp <;> omega))
        have hlt1 : (w.heap.size) < w1.heap.size := t1.lt
        have hnt1 : ¬ (w.heap.size) = w1.heap.size := Nat.ne_of_lt hlt1
        have t1c := t1.cell0
        have t1d := t1.cell1
        have u1 : Two w1 (w.heap.size + 1) (.int .i64 n) (.int .i64 r) 24 := Two.below (by repeat (first | assumption | exact Two.new' _ _ _ _ _ (by simp) | refine Two.alloc ?_ _ | refine Two.drewN ?_ _)) hb1 (by first | omega | (simp <;> omega))
        have hlu1 : (w.heap.size + 1) < w1.heap.size := u1.lt
        have hnu1 : ¬ (w.heap.size + 1) = w1.heap.size := Nat.ne_of_lt hlu1
        have u1c := u1.cell0
        have u1d := u1.cell1
        have v1 : Two w1 (w.heap.size + 1 + 1) (.int .i64 0) (.int .i64 0) 24 := Two.below (by repeat (first | assumption | exact Two.new' _ _ _ _ _ (by simp) | refine Two.alloc ?_ _ | refine Two.drewN ?_ _)) hb1 (by first | omega | (simp <;> omega))
        have hlv1 : (w.heap.size + 1 + 1) < w1.heap.size := v1.lt
        have hnv1 : ¬ (w.heap.size + 1 + 1) = w1.heap.size := Nat.ne_of_lt hlv1
        have v1c := v1.cell0
        have v1d := v1.cell1
        rw [ht]
        go_wp2_with fail
        refine (turnOk_any _ _ _).mono ?_; rintro e w2 ⟨rfl, hb2⟩
        have hz2 := hb2.size
        try simp at hz2
        have t2 : Two w2 (w.heap.size) (.int .i64 n) (.int .i64 s) 24 := Two.below (by repeat (first | assumption | exact Two.new' _ _ _ _ _ (by simp) | refine Two.alloc ?_ _ | refine Two.drewN ?_ _)) hb2 (by first | omega | (simp <;> omega))
        have hlt2 : (w.heap.size) < w2.heap.size := t2.lt
        have hnt2 : ¬ (w.heap.size) = w2.heap.size := Nat.ne_of_lt hlt2
        have t2c := t2.cell0
        have t2d := t2.cell1
        have u2 : Two w2 (w.heap.size + 1) (.int .i64 n) (.int .i64 r) 24 := Two.below (by repeat (first | assumption | exact Two.new' _ _ _ _ _ (by simp) | refine Two.alloc ?_ _ | refine Two.drewN ?_ _)) hb2 (by first | omega | (simp <;> omega))
        have hlu2 : (w.heap.size + 1) < w2.heap.size := u2.lt
        have hnu2 : ¬ (w.heap.size + 1) = w2.heap.size := Nat.ne_of_lt hlu2
        have u2c := u2.cell0
        have u2d := u2.cell1
        have v2 : Two w2 (w.heap.size + 1 + 1) (.int .i64 0) (.int .i64 0) 24 := Two.below (by repeat (first | assumption | exact Two.new' _ _ _ _ _ (by simp) | refine Two.alloc ?_ _ | refine Two.drewN ?_ _)) hb2 (by first | omega | (simp <;> omega))
        have hlv2 : (w.heap.size + 1 + 1) < w2.heap.size := v2.lt
        have hnv2 : ¬ (w.heap.size + 1 + 1) = w2.heap.size := Nat.ne_of_lt hlv2
        have v2c := v2.cell0
        have v2d := v2.cell1
        rw [hu]
        have f0 := v2.free 0
        have f1 := v2.free 1
        have v3 := (v2.set0 (.int .i64 n)).set1 (.int .i64 (s * r % n))
        have e0 := v3.cell0
        have e1 := v3.cell1
        have wr : IntKind.i64.wrap (s * r) = s * r := IntWalk.i64_in _ (by omega)
        have nz : ¬ n = 0 := by omega
        have tm : (s * r).tmod n = s * r % n := Int.tmod_eq_emod_of_nonneg m0
        have k0 := ((t2.set (b := w.heap.size + 1 + 1) hv 0 (.int .i64 n)).set (b := w.heap.size + 1 + 1) hv 1 (.int .i64 (s * r % n)))
        have k1 := ((u2.set (b := w.heap.size + 1 + 1) hv' 0 (.int .i64 n)).set (b := w.heap.size + 1 + 1) hv' 1 (.int .i64 (s * r % n)))
        go_wp2_with fail
        go_region_held3 (fun w' => w'.cell? ⟨w.heap.size, 0, none⟩ = some (.int .i64 n) ∧ w'.cell? ⟨w.heap.size, 1, none⟩ = some (.int .i64 s) ∧ w'.cell? ⟨w.heap.size + 1, 1, none⟩ = some (.int .i64 r))
          (first | go_keep | exact ⟨k0.cell0, k0.cell1, k1.cell1⟩)
          (first | (go_at_call 0; skip))
        go_wp2
        exact bodyPost_ret (v := .tuple #[(.agg #[.int .i64 (n), .int .i64 (s * r % n)]), .bool true]) (by simp [results, Try.results30, go_sem, e0, e1]) rfl ⟨rfl, (by repeat (first | exact Below.refl _ _ | assumption | (refine Below.trans ?_ (Below.mono (by assumption) (by first | omega | (simp <;> omega)))) | (refine Below.alloc ?_ (by first | omega | (simp <;> omega)) _) | (refine below_drewN ?_ _) | (refine Below.drew ?_) | (refine Below.setCell ?_ (by first | omega | (simp <;> omega)) _)))⟩
      · have hne : (n != m) = true := by rw [bne_iff_ne]; exact hnm
        rw [bothT_no (fun h => hnm h.2.2)]
        go_enter Try.func30, Try.ntmps30
        go_wp2_with fail
        refine (turnOk_any _ _ _).mono ?_; rintro e w1 ⟨rfl, hb1⟩
        have hz1 := hb1.size
        try simp at hz1
        have t1 : Two w1 (w.heap.size) (.int .i64 n) (.int .i64 s) 24 := Two.below (by repeat (first | assumption | exact Two.new' _ _ _ _ _ (by simp) | refine Two.alloc ?_ _ | refine Two.drewN ?_ _)) hb1 (by first | omega | (simp <;> omega))
        have hlt1 : (w.heap.size) < w1.heap.size := t1.lt
        have hnt1 : ¬ (w.heap.size) = w1.heap.size := Nat.ne_of_lt hlt1
        have t1c := t1.cell0
        have t1d := t1.cell1
        have u1 : Two w1 (w.heap.size + 1) (.int .i64 m) (.int .i64 r) 24 := Two.below (by repeat (first | assumption | exact Two.new' _ _ _ _ _ (by simp) | refine Two.alloc ?_ _ | refine Two.drewN ?_ _)) hb1 (by first | omega | (simp <;> omega))
        have hlu1 : (w.heap.size + 1) < w1.heap.size := u1.lt
        have hnu1 : ¬ (w.heap.size + 1) = w1.heap.size := Nat.ne_of_lt hlu1
        have u1c := u1.cell0
        have u1d := u1.cell1
        have v1 : Two w1 (w.heap.size + 1 + 1) (.int .i64 0) (.int .i64 0) 24 := Two.below (by repeat (first | assumption | exact Two.new' _ _ _ _ _ (by simp) | refine Two.alloc ?_ _ | refine Two.drewN ?_ _)) hb1 (by first | omega | (simp <;> omega))
        have hlv1 : (w.heap.size + 1 + 1) < w1.heap.size := v1.lt
        have hnv1 : ¬ (w.heap.size + 1 + 1) = w1.heap.size := Nat.ne_of_lt hlv1
        have v1c := v1.cell0
        have v1d := v1.cell1
        rw [ht]
        go_wp2_with fail
        refine (turnOk_any _ _ _).mono ?_; rintro e w2 ⟨rfl, hb2⟩
        have hz2 := hb2.size
        try simp at hz2
        have t2 : Two w2 (w.heap.size) (.int .i64 n) (.int .i64 s) 24 := Two.below (by repeat (first | assumption | exact Two.new' _ _ _ _ _ (by simp) | refine Two.alloc ?_ _ | refine Two.drewN ?_ _)) hb2 (by first | omega | (simp <;> omega))
        have hlt2 : (w.heap.size) < w2.heap.size := t2.lt
        have hnt2 : ¬ (w.heap.size) = w2.heap.size := Nat.ne_of_lt hlt2
        have t2c := t2.cell0
        have t2d := t2.cell1
        have u2 : Two w2 (w.heap.size + 1) (.int .i64 m) (.int .i64 r) 24 := Two.below (by repeat (first | assumption | exact Two.new' _ _ _ _ _ (by simp) | refine Two.alloc ?_ _ | refine Two.drewN ?_ _)) hb2 (by first | omega | (simp <;> omega))
        have hlu2 : (w.heap.size + 1) < w2.heap.size := u2.lt
        have hnu2 : ¬ (w.heap.size + 1) = w2.heap.size := Nat.ne_of_lt hlu2
        have u2c := u2.cell0
        have u2d := u2.cell1
        have v2 : Two w2 (w.heap.size + 1 + 1) (.int .i64 0) (.int .i64 0) 24 := Two.below (by repeat (first | assumption | exact Two.new' _ _ _ _ _ (by simp) | refine Two.alloc ?_ _ | refine Two.drewN ?_ _)) hb2 (by first | omega | (simp <;> omega))
        have hlv2 : (w.heap.size + 1 + 1) < w2.heap.size := v2.lt
        have hnv2 : ¬ (w.heap.size + 1 + 1) = w2.heap.size := Nat.ne_of_lt hlv2
        have v2c := v2.cell0
        have v2d := v2.cell1
        rw [hu]
        have f0 := v2.free 0
        have f1 := v2.free 1
        have v3 := (v2.set0 (.int .i64 0)).set1 (.int .i64 0)
        have e0 := v3.cell0
        have e1 := v3.cell1
        go_wp2
        exact bodyPost_ret (v := .tuple #[(.agg #[.int .i64 (0), .int .i64 (0)]), .bool false]) (by simp [results, Try.results30, go_sem, e0, e1]) rfl ⟨rfl, (by repeat (first | exact Below.refl _ _ | assumption | (refine Below.trans ?_ (Below.mono (by assumption) (by first | omega | (simp <;> omega)))) | (refine Below.alloc ?_ (by first | omega | (simp <;> omega)) _) | (refine below_drewN ?_ _) | (refine Below.drew ?_) | (refine Below.setCell ?_ (by first | omega | (simp <;> omega)) _)))⟩
    · have hu' : tok m r = false := by simpa using hu
      rw [bothT_no (fun h => hu h.2.1)]
      go_enter Try.func30, Try.ntmps30
      go_wp2_with fail
      refine (turnOk_any _ _ _).mono ?_; rintro e w1 ⟨rfl, hb1⟩
      have hz1 := hb1.size
      try simp at hz1
      have t1 : Two w1 (w.heap.size) (.int .i64 n) (.int .i64 s) 24 := Two.below (by repeat (first | assumption | exact Two.new' _ _ _ _ _ (by simp) | refine Two.alloc ?_ _ | refine Two.drewN ?_ _)) hb1 (by first | omega | (simp <;> omega))
      have hlt1 : (w.heap.size) < w1.heap.size := t1.lt
      have hnt1 : ¬ (w.heap.size) = w1.heap.size := Nat.ne_of_lt hlt1
      have t1c := t1.cell0
      have t1d := t1.cell1
      have u1 : Two w1 (w.heap.size + 1) (.int .i64 m) (.int .i64 r) 24 := Two.below (by repeat (first | assumption | exact Two.new' _ _ _ _ _ (by simp) | refine Two.alloc ?_ _ | refine Two.drewN ?_ _)) hb1 (by first | omega | (simp <;> omega))
      have hlu1 : (w.heap.size + 1) < w1.heap.size := u1.lt
      have hnu1 : ¬ (w.heap.size + 1) = w1.heap.size := Nat.ne_of_lt hlu1
      have u1c := u1.cell0
      have u1d := u1.cell1
      have v1 : Two w1 (w.heap.size + 1 + 1) (.int .i64 0) (.int .i64 0) 24 := Two.below (by repeat (first | assumption | exact Two.new' _ _ _ _ _ (by simp) | refine Two.alloc ?_ _ | refine Two.drewN ?_ _)) hb1 (by first | omega | (simp <;> omega))
      have hlv1 : (w.heap.size + 1 + 1) < w1.heap.size := v1.lt
      have hnv1 : ¬ (w.heap.size + 1 + 1) = w1.heap.size := Nat.ne_of_lt hlv1
      have v1c := v1.cell0
      have v1d := v1.cell1
      rw [ht]
      go_wp2_with fail
      refine (turnOk_any _ _ _).mono ?_; rintro e w2 ⟨rfl, hb2⟩
      have hz2 := hb2.size
      try simp at hz2
      have t2 : Two w2 (w.heap.size) (.int .i64 n) (.int .i64 s) 24 := Two.below (by repeat (first | assumption | exact Two.new' _ _ _ _ _ (by simp) | refine Two.alloc ?_ _ | refine Two.drewN ?_ _)) hb2 (by first | omega | (simp <;> omega))
      have hlt2 : (w.heap.size) < w2.heap.size := t2.lt
      have hnt2 : ¬ (w.heap.size) = w2.heap.size := Nat.ne_of_lt hlt2
      have t2c := t2.cell0
      have t2d := t2.cell1
      have u2 : Two w2 (w.heap.size + 1) (.int .i64 m) (.int .i64 r) 24 := Two.below (by repeat (first | assumption | exact Two.new' _ _ _ _ _ (by simp) | refine Two.alloc ?_ _ | refine Two.drewN ?_ _)) hb2 (by first | omega | (simp <;> omega))
      have hlu2 : (w.heap.size + 1) < w2.heap.size := u2.lt
      have hnu2 : ¬ (w.heap.size + 1) = w2.heap.size := Nat.ne_of_lt hlu2
      have u2c := u2.cell0
      have u2d := u2.cell1
      have v2 : Two w2 (w.heap.size + 1 + 1) (.int .i64 0) (.int .i64 0) 24 := Two.below (by repeat (first | assumption | exact Two.new' _ _ _ _ _ (by simp) | refine Two.alloc ?_ _ | refine Two.drewN ?_ _)) hb2 (by first | omega | (simp <;> omega))
      have hlv2 : (w.heap.size + 1 + 1) < w2.heap.size := v2.lt
      have hnv2 : ¬ (w.heap.size + 1 + 1) = w2.heap.size := Nat.ne_of_lt hlv2
      have v2c := v2.cell0
      have v2d := v2.cell1
      rw [hu']
      have f0 := v2.free 0
      have f1 := v2.free 1
      have v3 := (v2.set0 (.int .i64 0)).set1 (.int .i64 0)
      have e0 := v3.cell0
      have e1 := v3.cell1
      go_wp2
      exact bodyPost_ret (v := .tuple #[(.agg #[.int .i64 (0), .int .i64 (0)]), .bool false]) (by simp [results, Try.results30, go_sem, e0, e1]) rfl ⟨rfl, (by repeat (first | exact Below.refl _ _ | assumption | (refine Below.trans ?_ (Below.mono (by assumption) (by first | omega | (simp <;> omega)))) | (refine Below.alloc ?_ (by first | omega | (simp <;> omega)) _) | (refine below_drewN ?_ _) | (refine Below.drew ?_) | (refine Below.setCell ?_ (by first | omega | (simp <;> omega)) _)))⟩
  · have ht' : tok n s = false := by simpa using ht
    rw [bothT_no (fun h => ht h.1)]
    go_enter Try.func30, Try.ntmps30
    go_wp2_with fail
    refine (turnOk_any _ _ _).mono ?_; rintro e w1 ⟨rfl, hb1⟩
    have hz1 := hb1.size
    try simp at hz1
    have t1 : Two w1 (w.heap.size) (.int .i64 n) (.int .i64 s) 24 := Two.below (by repeat (first | assumption | exact Two.new' _ _ _ _ _ (by simp) | refine Two.alloc ?_ _ | refine Two.drewN ?_ _)) hb1 (by first | omega | (simp <;> omega))
    have hlt1 : (w.heap.size) < w1.heap.size := t1.lt
    have hnt1 : ¬ (w.heap.size) = w1.heap.size := Nat.ne_of_lt hlt1
    have t1c := t1.cell0
    have t1d := t1.cell1
    have u1 : Two w1 (w.heap.size + 1) (.int .i64 m) (.int .i64 r) 24 := Two.below (by repeat (first | assumption | exact Two.new' _ _ _ _ _ (by simp) | refine Two.alloc ?_ _ | refine Two.drewN ?_ _)) hb1 (by first | omega | (simp <;> omega))
    have hlu1 : (w.heap.size + 1) < w1.heap.size := u1.lt
    have hnu1 : ¬ (w.heap.size + 1) = w1.heap.size := Nat.ne_of_lt hlu1
    have u1c := u1.cell0
    have u1d := u1.cell1
    have v1 : Two w1 (w.heap.size + 1 + 1) (.int .i64 0) (.int .i64 0) 24 := Two.below (by repeat (first | assumption | exact Two.new' _ _ _ _ _ (by simp) | refine Two.alloc ?_ _ | refine Two.drewN ?_ _)) hb1 (by first | omega | (simp <;> omega))
    have hlv1 : (w.heap.size + 1 + 1) < w1.heap.size := v1.lt
    have hnv1 : ¬ (w.heap.size + 1 + 1) = w1.heap.size := Nat.ne_of_lt hlv1
    have v1c := v1.cell0
    have v1d := v1.cell1
    rw [ht']
    have f0 := v1.free 0
    have f1 := v1.free 1
    have v3 := (v1.set0 (.int .i64 0)).set1 (.int .i64 0)
    have e0 := v3.cell0
    have e1 := v3.cell1
    go_wp2
    exact bodyPost_ret (v := .tuple #[(.agg #[.int .i64 (0), .int .i64 (0)]), .bool false]) (by simp [results, Try.results30, go_sem, e0, e1]) rfl ⟨rfl, (by repeat (first | exact Below.refl _ _ | assumption | (refine Below.trans ?_ (Below.mono (by assumption) (by first | omega | (simp <;> omega)))) | (refine Below.alloc ?_ (by first | omega | (simp <;> omega)) _) | (refine below_drewN ?_ _) | (refine Below.drew ?_) | (refine Below.setCell ?_ (by first | omega | (simp <;> omega)) _)))⟩

set_option maxHeartbeats 1000000 in
theorem specBothSteps_any (n s m r : Int) (w : World) :
    Calls Try.prog 31 #[(.agg #[.int .i64 (n), .int .i64 (s)]), (.agg #[.int .i64 (m), .int .i64 (r)])] w fun e w' => e = .returned (.tuple #[(.agg #[.int .i64 ((bothT n s m r).1.1), .int .i64 ((bothT n s m r).1.2)]), .bool (bothT n s m r).2]) ∧ Below w.heap.size w w' := by
  
  by_cases ht : tok n s = true
  · by_cases hu : tok m r = true
    · by_cases hnm : n = m
      · subst hnm
        have hb := tok_bd ht
        have hb2 := tok_bd hu
        rw [bothT_yes ht hu]
        have m0 : 0 ≤ s * r := Int.mul_nonneg (by omega) (by omega)
        have m1 : s * r ≤ 60 * 60 := Int.mul_le_mul (by omega) (by omega) (by omega) (by omega)
        have hv : w.heap.size + 1 + 1 ≠ w.heap.size := by omega
        have hv' : w.heap.size + 1 + 1 ≠ w.heap.size + 1 := by omega
        go_enter Try.func31, Try.ntmps31
        go_wp2_with fail
        refine (specTurnOk_any _ _ _).mono ?_; rintro e w1 ⟨rfl, hb1⟩
        have hz1 := hb1.size
        try simp at hz1
        have t1 : Two w1 (w.heap.size) (.int .i64 n) (.int .i64 s) 24 := Two.below (by repeat (first | assumption | exact Two.new' _ _ _ _ _ (by simp) | refine Two.alloc ?_ _ | refine Two.drewN ?_ _)) hb1 (by first | omega | (simp <;> omega))
        have hlt1 : (w.heap.size) < w1.heap.size := t1.lt
        have hnt1 : ¬ (w.heap.size) = w1.heap.size := Nat.ne_of_lt hlt1
        have t1c := t1.cell0
        have t1d := t1.cell1
        have u1 : Two w1 (w.heap.size + 1) (.int .i64 n) (.int .i64 r) 24 := Two.below (by repeat (first | assumption | exact Two.new' _ _ _ _ _ (by simp) | refine Two.alloc ?_ _ | refine Two.drewN ?_ _)) hb1 (by first | omega | (simp <;> omega))
        have hlu1 : (w.heap.size + 1) < w1.heap.size := u1.lt
        have hnu1 : ¬ (w.heap.size + 1) = w1.heap.size := Nat.ne_of_lt hlu1
        have u1c := u1.cell0
        have u1d := u1.cell1
        have v1 : Two w1 (w.heap.size + 1 + 1) (.int .i64 0) (.int .i64 0) 24 := Two.below (by repeat (first | assumption | exact Two.new' _ _ _ _ _ (by simp) | refine Two.alloc ?_ _ | refine Two.drewN ?_ _)) hb1 (by first | omega | (simp <;> omega))
        have hlv1 : (w.heap.size + 1 + 1) < w1.heap.size := v1.lt
        have hnv1 : ¬ (w.heap.size + 1 + 1) = w1.heap.size := Nat.ne_of_lt hlv1
        have v1c := v1.cell0
        have v1d := v1.cell1
        rw [ht]
        go_wp2_with fail
        refine (specTurnOk_any _ _ _).mono ?_; rintro e w2 ⟨rfl, hb2⟩
        have hz2 := hb2.size
        try simp at hz2
        have t2 : Two w2 (w.heap.size) (.int .i64 n) (.int .i64 s) 24 := Two.below (by repeat (first | assumption | exact Two.new' _ _ _ _ _ (by simp) | refine Two.alloc ?_ _ | refine Two.drewN ?_ _)) hb2 (by first | omega | (simp <;> omega))
        have hlt2 : (w.heap.size) < w2.heap.size := t2.lt
        have hnt2 : ¬ (w.heap.size) = w2.heap.size := Nat.ne_of_lt hlt2
        have t2c := t2.cell0
        have t2d := t2.cell1
        have u2 : Two w2 (w.heap.size + 1) (.int .i64 n) (.int .i64 r) 24 := Two.below (by repeat (first | assumption | exact Two.new' _ _ _ _ _ (by simp) | refine Two.alloc ?_ _ | refine Two.drewN ?_ _)) hb2 (by first | omega | (simp <;> omega))
        have hlu2 : (w.heap.size + 1) < w2.heap.size := u2.lt
        have hnu2 : ¬ (w.heap.size + 1) = w2.heap.size := Nat.ne_of_lt hlu2
        have u2c := u2.cell0
        have u2d := u2.cell1
        have v2 : Two w2 (w.heap.size + 1 + 1) (.int .i64 0) (.int .i64 0) 24 := Two.below (by repeat (first | assumption | exact Two.new' _ _ _ _ _ (by simp) | refine Two.alloc ?_ _ | refine Two.drewN ?_ _)) hb2 (by first | omega | (simp <;> omega))
        have hlv2 : (w.heap.size + 1 + 1) < w2.heap.size := v2.lt
        have hnv2 : ¬ (w.heap.size + 1 + 1) = w2.heap.size := Nat.ne_of_lt hlv2
        have v2c := v2.cell0
        have v2d := v2.cell1
        rw [hu]
        have f0 := v2.free 0
        have f1 := v2.free 1
        have v3 := (v2.set0 (.int .i64 n)).set1 (.int .i64 (s * r % n))
        have e0 := v3.cell0
        have e1 := v3.cell1
        have wr : IntKind.i64.wrap (s * r) = s * r := IntWalk.i64_in _ (by omega)
        have nz : ¬ n = 0 := by omega
        have tm : (s * r).tmod n = s * r % n := Int.tmod_eq_emod_of_nonneg m0
        have k0 := ((t2.set (b := w.heap.size + 1 + 1) hv 0 (.int .i64 n)).set (b := w.heap.size + 1 + 1) hv 1 (.int .i64 (s * r % n)))
        have k1 := ((u2.set (b := w.heap.size + 1 + 1) hv' 0 (.int .i64 n)).set (b := w.heap.size + 1 + 1) hv' 1 (.int .i64 (s * r % n)))
        go_wp2_with fail
        go_region_held3 (fun w' => w'.cell? ⟨w.heap.size, 0, none⟩ = some (.int .i64 n) ∧ w'.cell? ⟨w.heap.size, 1, none⟩ = some (.int .i64 s) ∧ w'.cell? ⟨w.heap.size + 1, 1, none⟩ = some (.int .i64 r))
          (first | go_keep | exact ⟨k0.cell0, k0.cell1, k1.cell1⟩)
          (first | (go_at_call 0; skip))
        go_wp2
        exact bodyPost_ret (v := .tuple #[(.agg #[.int .i64 (n), .int .i64 (s * r % n)]), .bool true]) (by simp [results, Try.results31, go_sem, e0, e1]) rfl ⟨rfl, (by repeat (first | exact Below.refl _ _ | assumption | (refine Below.trans ?_ (Below.mono (by assumption) (by first | omega | (simp <;> omega)))) | (refine Below.alloc ?_ (by first | omega | (simp <;> omega)) _) | (refine below_drewN ?_ _) | (refine Below.drew ?_) | (refine Below.setCell ?_ (by first | omega | (simp <;> omega)) _)))⟩
      · have hne : (n != m) = true := by rw [bne_iff_ne]; exact hnm
        rw [bothT_no (fun h => hnm h.2.2)]
        go_enter Try.func31, Try.ntmps31
        go_wp2_with fail
        refine (specTurnOk_any _ _ _).mono ?_; rintro e w1 ⟨rfl, hb1⟩
        have hz1 := hb1.size
        try simp at hz1
        have t1 : Two w1 (w.heap.size) (.int .i64 n) (.int .i64 s) 24 := Two.below (by repeat (first | assumption | exact Two.new' _ _ _ _ _ (by simp) | refine Two.alloc ?_ _ | refine Two.drewN ?_ _)) hb1 (by first | omega | (simp <;> omega))
        have hlt1 : (w.heap.size) < w1.heap.size := t1.lt
        have hnt1 : ¬ (w.heap.size) = w1.heap.size := Nat.ne_of_lt hlt1
        have t1c := t1.cell0
        have t1d := t1.cell1
        have u1 : Two w1 (w.heap.size + 1) (.int .i64 m) (.int .i64 r) 24 := Two.below (by repeat (first | assumption | exact Two.new' _ _ _ _ _ (by simp) | refine Two.alloc ?_ _ | refine Two.drewN ?_ _)) hb1 (by first | omega | (simp <;> omega))
        have hlu1 : (w.heap.size + 1) < w1.heap.size := u1.lt
        have hnu1 : ¬ (w.heap.size + 1) = w1.heap.size := Nat.ne_of_lt hlu1
        have u1c := u1.cell0
        have u1d := u1.cell1
        have v1 : Two w1 (w.heap.size + 1 + 1) (.int .i64 0) (.int .i64 0) 24 := Two.below (by repeat (first | assumption | exact Two.new' _ _ _ _ _ (by simp) | refine Two.alloc ?_ _ | refine Two.drewN ?_ _)) hb1 (by first | omega | (simp <;> omega))
        have hlv1 : (w.heap.size + 1 + 1) < w1.heap.size := v1.lt
        have hnv1 : ¬ (w.heap.size + 1 + 1) = w1.heap.size := Nat.ne_of_lt hlv1
        have v1c := v1.cell0
        have v1d := v1.cell1
        rw [ht]
        go_wp2_with fail
        refine (specTurnOk_any _ _ _).mono ?_; rintro e w2 ⟨rfl, hb2⟩
        have hz2 := hb2.size
        try simp at hz2
        have t2 : Two w2 (w.heap.size) (.int .i64 n) (.int .i64 s) 24 := Two.below (by repeat (first | assumption | exact Two.new' _ _ _ _ _ (by simp) | refine Two.alloc ?_ _ | refine Two.drewN ?_ _)) hb2 (by first | omega | (simp <;> omega))
        have hlt2 : (w.heap.size) < w2.heap.size := t2.lt
        have hnt2 : ¬ (w.heap.size) = w2.heap.size := Nat.ne_of_lt hlt2
        have t2c := t2.cell0
        have t2d := t2.cell1
        have u2 : Two w2 (w.heap.size + 1) (.int .i64 m) (.int .i64 r) 24 := Two.below (by repeat (first | assumption | exact Two.new' _ _ _ _ _ (by simp) | refine Two.alloc ?_ _ | refine Two.drewN ?_ _)) hb2 (by first | omega | (simp <;> omega))
        have hlu2 : (w.heap.size + 1) < w2.heap.size := u2.lt
        have hnu2 : ¬ (w.heap.size + 1) = w2.heap.size := Nat.ne_of_lt hlu2
        have u2c := u2.cell0
        have u2d := u2.cell1
        have v2 : Two w2 (w.heap.size + 1 + 1) (.int .i64 0) (.int .i64 0) 24 := Two.below (by repeat (first | assumption | exact Two.new' _ _ _ _ _ (by simp) | refine Two.alloc ?_ _ | refine Two.drewN ?_ _)) hb2 (by first | omega | (simp <;> omega))
        have hlv2 : (w.heap.size + 1 + 1) < w2.heap.size := v2.lt
        have hnv2 : ¬ (w.heap.size + 1 + 1) = w2.heap.size := Nat.ne_of_lt hlv2
        have v2c := v2.cell0
        have v2d := v2.cell1
        rw [hu]
        have f0 := v2.free 0
        have f1 := v2.free 1
        have v3 := (v2.set0 (.int .i64 0)).set1 (.int .i64 0)
        have e0 := v3.cell0
        have e1 := v3.cell1
        go_wp2
        exact bodyPost_ret (v := .tuple #[(.agg #[.int .i64 (0), .int .i64 (0)]), .bool false]) (by simp [results, Try.results31, go_sem, e0, e1]) rfl ⟨rfl, (by repeat (first | exact Below.refl _ _ | assumption | (refine Below.trans ?_ (Below.mono (by assumption) (by first | omega | (simp <;> omega)))) | (refine Below.alloc ?_ (by first | omega | (simp <;> omega)) _) | (refine below_drewN ?_ _) | (refine Below.drew ?_) | (refine Below.setCell ?_ (by first | omega | (simp <;> omega)) _)))⟩
    · have hu' : tok m r = false := by simpa using hu
      rw [bothT_no (fun h => hu h.2.1)]
      go_enter Try.func31, Try.ntmps31
      go_wp2_with fail
      refine (specTurnOk_any _ _ _).mono ?_; rintro e w1 ⟨rfl, hb1⟩
      have hz1 := hb1.size
      try simp at hz1
      have t1 : Two w1 (w.heap.size) (.int .i64 n) (.int .i64 s) 24 := Two.below (by repeat (first | assumption | exact Two.new' _ _ _ _ _ (by simp) | refine Two.alloc ?_ _ | refine Two.drewN ?_ _)) hb1 (by first | omega | (simp <;> omega))
      have hlt1 : (w.heap.size) < w1.heap.size := t1.lt
      have hnt1 : ¬ (w.heap.size) = w1.heap.size := Nat.ne_of_lt hlt1
      have t1c := t1.cell0
      have t1d := t1.cell1
      have u1 : Two w1 (w.heap.size + 1) (.int .i64 m) (.int .i64 r) 24 := Two.below (by repeat (first | assumption | exact Two.new' _ _ _ _ _ (by simp) | refine Two.alloc ?_ _ | refine Two.drewN ?_ _)) hb1 (by first | omega | (simp <;> omega))
      have hlu1 : (w.heap.size + 1) < w1.heap.size := u1.lt
      have hnu1 : ¬ (w.heap.size + 1) = w1.heap.size := Nat.ne_of_lt hlu1
      have u1c := u1.cell0
      have u1d := u1.cell1
      have v1 : Two w1 (w.heap.size + 1 + 1) (.int .i64 0) (.int .i64 0) 24 := Two.below (by repeat (first | assumption | exact Two.new' _ _ _ _ _ (by simp) | refine Two.alloc ?_ _ | refine Two.drewN ?_ _)) hb1 (by first | omega | (simp <;> omega))
      have hlv1 : (w.heap.size + 1 + 1) < w1.heap.size := v1.lt
      have hnv1 : ¬ (w.heap.size + 1 + 1) = w1.heap.size := Nat.ne_of_lt hlv1
      have v1c := v1.cell0
      have v1d := v1.cell1
      rw [ht]
      go_wp2_with fail
      refine (specTurnOk_any _ _ _).mono ?_; rintro e w2 ⟨rfl, hb2⟩
      have hz2 := hb2.size
      try simp at hz2
      have t2 : Two w2 (w.heap.size) (.int .i64 n) (.int .i64 s) 24 := Two.below (by repeat (first | assumption | exact Two.new' _ _ _ _ _ (by simp) | refine Two.alloc ?_ _ | refine Two.drewN ?_ _)) hb2 (by first | omega | (simp <;> omega))
      have hlt2 : (w.heap.size) < w2.heap.size := t2.lt
      have hnt2 : ¬ (w.heap.size) = w2.heap.size := Nat.ne_of_lt hlt2
      have t2c := t2.cell0
      have t2d := t2.cell1
      have u2 : Two w2 (w.heap.size + 1) (.int .i64 m) (.int .i64 r) 24 := Two.below (by repeat (first | assumption | exact Two.new' _ _ _ _ _ (by simp) | refine Two.alloc ?_ _ | refine Two.drewN ?_ _)) hb2 (by first | omega | (simp <;> omega))
      have hlu2 : (w.heap.size + 1) < w2.heap.size := u2.lt
      have hnu2 : ¬ (w.heap.size + 1) = w2.heap.size := Nat.ne_of_lt hlu2
      have u2c := u2.cell0
      have u2d := u2.cell1
      have v2 : Two w2 (w.heap.size + 1 + 1) (.int .i64 0) (.int .i64 0) 24 := Two.below (by repeat (first | assumption | exact Two.new' _ _ _ _ _ (by simp) | refine Two.alloc ?_ _ | refine Two.drewN ?_ _)) hb2 (by first | omega | (simp <;> omega))
      have hlv2 : (w.heap.size + 1 + 1) < w2.heap.size := v2.lt
      have hnv2 : ¬ (w.heap.size + 1 + 1) = w2.heap.size := Nat.ne_of_lt hlv2
      have v2c := v2.cell0
      have v2d := v2.cell1
      rw [hu']
      have f0 := v2.free 0
      have f1 := v2.free 1
      have v3 := (v2.set0 (.int .i64 0)).set1 (.int .i64 0)
      have e0 := v3.cell0
      have e1 := v3.cell1
      go_wp2
      exact bodyPost_ret (v := .tuple #[(.agg #[.int .i64 (0), .int .i64 (0)]), .bool false]) (by simp [results, Try.results31, go_sem, e0, e1]) rfl ⟨rfl, (by repeat (first | exact Below.refl _ _ | assumption | (refine Below.trans ?_ (Below.mono (by assumption) (by first | omega | (simp <;> omega)))) | (refine Below.alloc ?_ (by first | omega | (simp <;> omega)) _) | (refine below_drewN ?_ _) | (refine Below.drew ?_) | (refine Below.setCell ?_ (by first | omega | (simp <;> omega)) _)))⟩
  · have ht' : tok n s = false := by simpa using ht
    rw [bothT_no (fun h => ht h.1)]
    go_enter Try.func31, Try.ntmps31
    go_wp2_with fail
    refine (specTurnOk_any _ _ _).mono ?_; rintro e w1 ⟨rfl, hb1⟩
    have hz1 := hb1.size
    try simp at hz1
    have t1 : Two w1 (w.heap.size) (.int .i64 n) (.int .i64 s) 24 := Two.below (by repeat (first | assumption | exact Two.new' _ _ _ _ _ (by simp) | refine Two.alloc ?_ _ | refine Two.drewN ?_ _)) hb1 (by first | omega | (simp <;> omega))
    have hlt1 : (w.heap.size) < w1.heap.size := t1.lt
    have hnt1 : ¬ (w.heap.size) = w1.heap.size := Nat.ne_of_lt hlt1
    have t1c := t1.cell0
    have t1d := t1.cell1
    have u1 : Two w1 (w.heap.size + 1) (.int .i64 m) (.int .i64 r) 24 := Two.below (by repeat (first | assumption | exact Two.new' _ _ _ _ _ (by simp) | refine Two.alloc ?_ _ | refine Two.drewN ?_ _)) hb1 (by first | omega | (simp <;> omega))
    have hlu1 : (w.heap.size + 1) < w1.heap.size := u1.lt
    have hnu1 : ¬ (w.heap.size + 1) = w1.heap.size := Nat.ne_of_lt hlu1
    have u1c := u1.cell0
    have u1d := u1.cell1
    have v1 : Two w1 (w.heap.size + 1 + 1) (.int .i64 0) (.int .i64 0) 24 := Two.below (by repeat (first | assumption | exact Two.new' _ _ _ _ _ (by simp) | refine Two.alloc ?_ _ | refine Two.drewN ?_ _)) hb1 (by first | omega | (simp <;> omega))
    have hlv1 : (w.heap.size + 1 + 1) < w1.heap.size := v1.lt
    have hnv1 : ¬ (w.heap.size + 1 + 1) = w1.heap.size := Nat.ne_of_lt hlv1
    have v1c := v1.cell0
    have v1d := v1.cell1
    rw [ht']
    have f0 := v1.free 0
    have f1 := v1.free 1
    have v3 := (v1.set0 (.int .i64 0)).set1 (.int .i64 0)
    have e0 := v3.cell0
    have e1 := v3.cell1
    go_wp2
    exact bodyPost_ret (v := .tuple #[(.agg #[.int .i64 (0), .int .i64 (0)]), .bool false]) (by simp [results, Try.results31, go_sem, e0, e1]) rfl ⟨rfl, (by repeat (first | exact Below.refl _ _ | assumption | (refine Below.trans ?_ (Below.mono (by assumption) (by first | omega | (simp <;> omega)))) | (refine Below.alloc ?_ (by first | omega | (simp <;> omega)) _) | (refine below_drewN ?_ _) | (refine Below.drew ?_) | (refine Below.setCell ?_ (by first | omega | (simp <;> omega)) _)))⟩
end Go.Proofs.Ythplcfnpjkhaeaa
