/- Contracts of the functions of chapter 1, the program's and the model's. Contracts of the functions of chapter 1, continued: the opposite step, and times. -/
import Derived.Test.YtckkgjgfjnfeoaaGreatDoorOpp
import Derived.Lib.Hide
import Derived.Test.YtckkgjgfjnfeoaaGreatDoorDraw
import Derived.Deep.LoopGhost
set_option linter.unusedVariables false
namespace Go.Proofs.YtckkgjgfjnfeoaaGreatDoor
set_option maxRecDepth 4000
open Go.ChangeShapes Go.WideShapes Go.ChangeAt Go.RowKit Go.Joins

/-- the turn is one, and the number less than its size -/
def belF (n s k : Int) : Bool := tok n s && (decide (0 ≤ k) && decide (k < n))

theorem belF_yes {n s k : Int} (h : tok n s = true) (h0 : 0 ≤ k) (h1 : k < n) : belF n s k = true := by unfold belF; simp [h, h0, h1]

theorem belF_no {n s k : Int} (h : ¬ (tok n s = true ∧ 0 ≤ k ∧ k < n)) : belF n s k = false := by
  cases e : belF n s k with
  | false => rfl
  | true => unfold belF at e; simp at e; exact absurd ⟨e.1, e.2.1, e.2.2⟩ h

set_option maxHeartbeats 1000000 in
theorem belowSize_any (n s k : Int) (w : World) :
    Calls Tryz.prog 38 #[(.agg #[.int .i64 (n), .int .i64 (s)]), .int .i64 k] w fun e w' => e = .returned (.bool (belF n s k)) ∧ Below w.heap.size w w' := by
  
  unfold belF
  by_cases ht : tok n s = true
  · rw [ht]
    by_cases h0 : 0 ≤ k
    · go_enter Tryz.func38, Tryz.ntmps38
      go_wp2_with fail
      refine (turnOk_any _ _ _).mono ?_; rintro e w1 ⟨rfl, hb1⟩
      have hz1 := hb1.size
      try simp at hz1
      have t1 : Two w1 (w.heap.size) (.int .i64 n) (.int .i64 s) 25 := Two.below (by repeat (first | assumption | exact Two.new' _ _ _ _ _ (by simp) | refine Two.alloc ?_ _ | refine Two.drewN ?_ _)) hb1 (by first | omega | (simp <;> omega))
      have hlt1 : (w.heap.size) < w1.heap.size := t1.lt
      have hnt1 : ¬ (w.heap.size) = w1.heap.size := Nat.ne_of_lt hlt1
      have t1c := t1.cell0
      have t1d := t1.cell1
      rw [ht]
      go_wp2
      go_ret
      exact ⟨ret_bool (by simp [h0]), (by repeat (first | exact Below.refl _ _ | assumption | (refine Below.trans ?_ (Below.mono (by assumption) (by first | omega | (simp <;> omega)))) | (refine Below.alloc ?_ (by first | omega | (simp <;> omega)) _) | (refine below_drewN ?_ _) | (refine Below.drew ?_) | (refine Below.setCell ?_ (by first | omega | (simp <;> omega)) _)))⟩
    · have h0' : decide (0 ≤ k) = false := by simpa using h0
      rw [h0']
      go_enter Tryz.func38, Tryz.ntmps38
      go_wp2_with fail
      refine (turnOk_any _ _ _).mono ?_; rintro e w1 ⟨rfl, hb1⟩
      have hz1 := hb1.size
      try simp at hz1
      have t1 : Two w1 (w.heap.size) (.int .i64 n) (.int .i64 s) 25 := Two.below (by repeat (first | assumption | exact Two.new' _ _ _ _ _ (by simp) | refine Two.alloc ?_ _ | refine Two.drewN ?_ _)) hb1 (by first | omega | (simp <;> omega))
      have hlt1 : (w.heap.size) < w1.heap.size := t1.lt
      have hnt1 : ¬ (w.heap.size) = w1.heap.size := Nat.ne_of_lt hlt1
      have t1c := t1.cell0
      have t1d := t1.cell1
      rw [ht]
      go_wp2
      go_ret
      exact ⟨rfl, (by repeat (first | exact Below.refl _ _ | assumption | (refine Below.trans ?_ (Below.mono (by assumption) (by first | omega | (simp <;> omega)))) | (refine Below.alloc ?_ (by first | omega | (simp <;> omega)) _) | (refine below_drewN ?_ _) | (refine Below.drew ?_) | (refine Below.setCell ?_ (by first | omega | (simp <;> omega)) _)))⟩
  · have ht' : tok n s = false := by simpa using ht
    rw [ht']
    go_enter Tryz.func38, Tryz.ntmps38
    go_wp2_with fail
    refine (turnOk_any _ _ _).mono ?_; rintro e w1 ⟨rfl, hb1⟩
    have hz1 := hb1.size
    try simp at hz1
    have t1 : Two w1 (w.heap.size) (.int .i64 n) (.int .i64 s) 25 := Two.below (by repeat (first | assumption | exact Two.new' _ _ _ _ _ (by simp) | refine Two.alloc ?_ _ | refine Two.drewN ?_ _)) hb1 (by first | omega | (simp <;> omega))
    have hlt1 : (w.heap.size) < w1.heap.size := t1.lt
    have hnt1 : ¬ (w.heap.size) = w1.heap.size := Nat.ne_of_lt hlt1
    have t1c := t1.cell0
    have t1d := t1.cell1
    rw [ht']
    go_wp2
    go_ret
    exact ⟨rfl, (by repeat (first | exact Below.refl _ _ | assumption | (refine Below.trans ?_ (Below.mono (by assumption) (by first | omega | (simp <;> omega)))) | (refine Below.alloc ?_ (by first | omega | (simp <;> omega)) _) | (refine below_drewN ?_ _) | (refine Below.drew ?_) | (refine Below.setCell ?_ (by first | omega | (simp <;> omega)) _)))⟩

/-- the turn is one, and the number not more than its size -/
def upF (n s k : Int) : Bool := tok n s && (decide (0 ≤ k) && decide (k ≤ n))

theorem upF_yes {n s k : Int} (h : tok n s = true) (h0 : 0 ≤ k) (h1 : k ≤ n) : upF n s k = true := by unfold upF; simp [h, h0, h1]

theorem upF_no {n s k : Int} (h : ¬ (tok n s = true ∧ 0 ≤ k ∧ k ≤ n)) : upF n s k = false := by
  cases e : upF n s k with
  | false => rfl
  | true => unfold upF at e; simp at e; exact absurd ⟨e.1, e.2.1, e.2.2⟩ h

end Go.Proofs.YtckkgjgfjnfeoaaGreatDoor

set_option linter.unusedVariables false
namespace Go.Proofs.YtckkgjgfjnfeoaaGreatDoor
open Go.ChangeShapes Go.WideShapes Go.ChangeAt Go.RowKit Go.Joins

theorem tdiv_mod_pos (a b : Int) (h : 0 ≤ a) : a.tmod b = a % b := Int.tmod_eq_emod_of_nonneg h

set_option maxHeartbeats 1000000 in
theorem oppositeStep_any (n s : Int) (w : World) (ht : tok n s = true) :
    Calls Tryz.prog 39 #[(.agg #[.int .i64 (n), .int .i64 (s)])] w fun e w' => e = .returned (.int .i64 (invF n s)) ∧ Below w.heap.size w w' := by
  have hb := tok_bd ht
  have HT := Lib.hid ht
  have H0 := OppInv.start ht
  clear ht
  go_enter Tryz.func39, Tryz.ntmps39
  go_wp2_with fail
  go_quiet (fail)
  go_wp2_with fail
  go_loop [3, 4, 5, 6] (fun x y u v => ∃ c d f g : Int, x = .int .i64 c ∧ y = .int .i64 d ∧ u = .int .i64 f ∧ v = .int .i64 g ∧ OppInv n s c d f g) (fun _ y _ _ => (intOf y).toNat)
  case atStart => exact ⟨n, s, 0, 1, rfl, rfl, rfl, rfl, H0⟩
  case round =>
    obtain ⟨c, d, f, g, rfl, rfl, rfl, rfl, hi⟩ := hrel
    have d0 := hi.d0
    have dc := hi.dc
    have cn := hi.cn
    by_cases h1 : 1 < d
    · obtain ⟨f1, f2, g1, g2, q1, q2, p1, p2⟩ := hi.small (by omega) h1
      have h2 := hi.step h1
      have r0 : 0 ≤ c / d * d := Int.mul_nonneg q1 (by omega)
      have r1 : c / d * d ≤ c := Int.ediv_mul_le _ (by omega)
      go_wp2_with fail
      go_round
      case rel => exact ⟨_, _, _, _, rfl, rfl, rfl, rfl, h2⟩
      case measure =>
        have := h2.dc
        simp only [intOf]; omega
    · obtain ⟨l1, l2, l3, l4⟩ := hi.last HT.out h1
      have L1 := Lib.hid l1
      have L2 := Lib.hid l2
      clear l1 l2
      by_cases hg : g < 0
      · go_wp2
        go_ret
        exact ⟨ret_int (L1.out hg), (by repeat (first | exact Below.refl _ _ | assumption | (refine Below.trans ?_ (Below.mono (by assumption) (by first | omega | (simp <;> omega)))) | (refine Below.alloc ?_ (by first | omega | (simp <;> omega)) _) | (refine below_drewN ?_ _) | (refine Below.drew ?_) | (refine Below.setCell ?_ (by first | omega | (simp <;> omega)) _)))⟩
      · go_wp2
        go_ret
        exact ⟨ret_int (L2.out hg), (by repeat (first | exact Below.refl _ _ | assumption | (refine Below.trans ?_ (Below.mono (by assumption) (by first | omega | (simp <;> omega)))) | (refine Below.alloc ?_ (by first | omega | (simp <;> omega)) _) | (refine below_drewN ?_ _) | (refine Below.drew ?_) | (refine Below.setCell ?_ (by first | omega | (simp <;> omega)) _)))⟩

set_option maxHeartbeats 1000000 in
theorem timeOf_any (n s k : Int) (w : World) :
    Calls Tryz.prog 30 #[(.agg #[.int .i64 (n), .int .i64 (s)]), .int .i64 k] w fun e w' => e = .returned (.int .i64 (timeF n s k)) ∧ Below w.heap.size w w' := by
  
  by_cases h : tok n s = true ∧ 0 ≤ k ∧ k < n
  · obtain ⟨ht, h0, h1⟩ := h
    have hb := tok_bd ht
    have hy := belF_yes ht h0 h1
    have hp := timeF_yes ht h0 h1
    obtain ⟨i1, i2, _⟩ := invF_spec ht
    have m0 : 0 ≤ k * invF n s := Int.mul_nonneg (by omega) (by omega)
    have m1 : k * invF n s ≤ 60 * 60 := Int.mul_le_mul (by omega) (by omega) (by omega) (by omega)
    have HP := Lib.hid hp
    have HT := Lib.hid ht
    go_enter Tryz.func30, Tryz.ntmps30
    go_wp2_with fail
    refine (belowSize_any _ _ _ _).mono ?_; rintro e w1 ⟨rfl, hb1⟩
    have hz1 := hb1.size
    try simp at hz1
    have t1 : Two w1 (w.heap.size) (.int .i64 n) (.int .i64 s) 25 := Two.below (by repeat (first | assumption | exact Two.new' _ _ _ _ _ (by simp) | refine Two.alloc ?_ _ | refine Two.drewN ?_ _)) hb1 (by first | omega | (simp <;> omega))
    have hlt1 : (w.heap.size) < w1.heap.size := t1.lt
    have hnt1 : ¬ (w.heap.size) = w1.heap.size := Nat.ne_of_lt hlt1
    have t1c := t1.cell0
    have t1d := t1.cell1
    rw [hy]
    clear hp ht
    go_wp2_with fail
    have wr : IntKind.i64.wrap (k * invF n s) = k * invF n s := IntWalk.i64_in _ (by omega)
    have nz : ¬ n = 0 := by omega
    go_region_held3 (fun w' => w'.cell? ⟨w.heap.size, 0, none⟩ = some (.int .i64 n) ∧ w'.cell? ⟨w.heap.size, 1, none⟩ = some (.int .i64 s))
      (first | go_keep | exact ⟨c0', c1'⟩)
      (first | (go_at_call 39; refine (oppositeStep_any n s _ HT.out).mono ?_; rintro e w' ⟨rfl, hb'⟩; have t' := Two.below (show Two w1.drew w.heap.size (.int .i64 n) (.int .i64 s) 25 from t1) hb' (by simp; omega); have c0' := t'.cell0; have c1' := t'.cell1))
    go_wp2
    go_ret
    exact ⟨ret_int ((tdiv_mod_pos _ _ m0).trans HP.out.symm), (by repeat (first | exact Below.refl _ _ | assumption | (refine Below.trans ?_ (Below.mono (by assumption) (by first | omega | (simp <;> omega)))) | (refine Below.alloc ?_ (by first | omega | (simp <;> omega)) _) | (refine below_drewN ?_ _) | (refine Below.drew ?_) | (refine Below.setCell ?_ (by first | omega | (simp <;> omega)) _)))⟩
  · have hp := timeF_no (n := n) (s := s) (k := k) h
    have hy := belF_no h
    go_enter Tryz.func30, Tryz.ntmps30
    go_wp2_with fail
    refine (belowSize_any _ _ _ _).mono ?_; rintro e w1 ⟨rfl, hb1⟩
    have hz1 := hb1.size
    try simp at hz1
    have t1 : Two w1 (w.heap.size) (.int .i64 n) (.int .i64 s) 25 := Two.below (by repeat (first | assumption | exact Two.new' _ _ _ _ _ (by simp) | refine Two.alloc ?_ _ | refine Two.drewN ?_ _)) hb1 (by first | omega | (simp <;> omega))
    have hlt1 : (w.heap.size) < w1.heap.size := t1.lt
    have hnt1 : ¬ (w.heap.size) = w1.heap.size := Nat.ne_of_lt hlt1
    have t1c := t1.cell0
    have t1d := t1.cell1
    rw [hy]
    go_wp2
    go_ret
    exact ⟨ret_int hp.symm, (by repeat (first | exact Below.refl _ _ | assumption | (refine Below.trans ?_ (Below.mono (by assumption) (by first | omega | (simp <;> omega)))) | (refine Below.alloc ?_ (by first | omega | (simp <;> omega)) _) | (refine below_drewN ?_ _) | (refine Below.drew ?_) | (refine Below.setCell ?_ (by first | omega | (simp <;> omega)) _)))⟩

end Go.Proofs.YtckkgjgfjnfeoaaGreatDoor
