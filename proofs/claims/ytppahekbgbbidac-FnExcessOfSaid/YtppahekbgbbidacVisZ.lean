/- Contract of chapter 6: the excess by few points of the model. -/
import Derived.Test.YtppahekbgbbidacGVisI
set_option linter.unusedVariables false
namespace Go.Proofs.Ytppahekbgbbidac

set_option maxRecDepth 4000
open N
open Go.ChangeShapes Go.WideShapes Go.ChangeAt Go.RowKit Go.Joins

theorem dif_eq2 (n s : Int) (m k : Nat) : difB n s m k = (n - ((k : Int) + 1)) * s % n - ((m : Int) - ((k : Int) + 1) + n) % n * s % n := by
  unfold difB pt
  have e1 : (n - ((k : Int) + 1)) * s = -((k : Int) + 1) * s + n * s := by rw [← Int.add_mul]; congr 1; omega
  have e3 : ((m : Int) - ((k : Int) + 1) + n) % n * s % n = ((m : Int) - ((k : Int) + 1) + n) * s % n := by rw [Int.mul_emod, Int.emod_emod, ← Int.mul_emod]
  rw [e1, Int.add_mul_emod_self_left, e3]
  have e2 : ((m : Int) - ((k : Int) + 1) + n) * s = ((m : Int) - ((k : Int) + 1)) * s + n * s := by rw [← Int.add_mul]
  rw [e2, Int.add_mul_emod_self_left]

set_option maxHeartbeats 2000000 in
theorem specExcessBy_any (n s m u : Int) (w : World) :
    Calls Try.prog 16 #[(.agg #[.int .i64 (n), .int .i64 (s)]), .int .i64 m, .int .i64 u] w fun e w' => e = .returned (.tuple #[.int .i64 (exbF n s m u), .bool (exbT n s m u)]) ∧ Below w.heap.size w w' := by
  
  by_cases ht : tok n s = true
  · have hbd := tok_bd ht
    have hw1 : IntKind.i64.wrap (n - 1) = n - 1 := IntWalk.i64_in _ (by omega)
    by_cases hm : (decide (0 ≤ m) && decide (m ≤ n)) = true
    · by_cases hu : (decide (0 ≤ u) && decide (u ≤ n - 1)) = true
      · have hm' := hm
        have hu' := hu
        simp at hm' hu'
        obtain ⟨m0, m1⟩ := hm'
        obtain ⟨u0, u1⟩ := hu'
        have E := Lib.hid (exbF_yes ht m0 m1 u0 (by omega))
        have E2 := Lib.hid (exbT_yes ht m0 m1 u0 (by omega))
        obtain ⟨m, rfl⟩ := Int.eq_ofNat_of_zero_le m0
        obtain ⟨u, rfl⟩ := Int.eq_ofNat_of_zero_le u0
        rw [Int.toNat_natCast, Int.toNat_natCast] at E
        go_enter Try.func16, Try.ntmps16
        go_wp2_with fail
        refine (specTurnOk_any _ _ _).mono ?_; rintro e w1 ⟨rfl, hb1⟩
        have hz1 := hb1.size
        try simp at hz1
        have t1 : Two w1 (w.heap.size) (.int .i64 n) (.int .i64 s) 24 := Two.below (by repeat (first | assumption | exact Two.new' _ _ _ _ _ (by simp) | refine Two.alloc ?_ _ | refine Two.drewN ?_ _)) hb1 (by first | omega | (simp <;> omega))
        have hlt1 : (w.heap.size) < w1.heap.size := t1.lt
        have hnt1 : ¬ (w.heap.size) = w1.heap.size := Nat.ne_of_lt hlt1
        have t1c := t1.cell0
        have t1d := t1.cell1
        rw [ht]
        clear ht
        go_wp2_with fail
        refine (l1In_any _ _ _ _).mono ?_; rintro e w2 ⟨rfl, rfl⟩
        rw [hm]
        go_wp2_with fail
        refine (l1In_any _ _ _ _).mono ?_; rintro e w2 ⟨rfl, rfl⟩
        rw [hu]
        have hB1 : Below w.heap.size w w1 := (by repeat (first | exact Below.refl _ _ | assumption | (refine Below.trans ?_ (Below.mono (by assumption) (by first | omega | (simp <;> omega)))) | (refine Below.alloc ?_ (by first | omega | (simp <;> omega)) _) | (refine below_drewN ?_ _) | (refine Below.drew ?_) | (refine Below.setCell ?_ (by first | omega | (simp <;> omega)) _)))
        clear hm hu hb1
        go_wp2_with fail
        go_loopw [8, 9] (fun x y wr => ∃ k : Nat, x = .int .i64 (exB n s m k) ∧ y = .int .i64 ((k : Int) + 1) ∧ k ≤ u ∧ ∃ q, wr = w1.drewN q) (fun _ y _ => u + 1 - (intOf y).toNat)
        case atStart => exact ⟨0, rfl, rfl, by omega, 0, rfl⟩
        case round =>
          obtain ⟨k, rfl, rfl, hk, q, rfl⟩ := hrel
          have t2 := t1.drewN q
          have t2c := t2.cell0
          have t2d := t2.cell1
          by_cases hkm : k < u
          · have hkm' : (k : Int) + 1 ≤ u := by omega
            have hS := Lib.hid (show exB n s m (k + 1) = exB n s m k + difB n s m k from rfl)
            have hbd2 := exB_bd (n := n) (s := s) (by omega) m k
            have hbd3 := difB_bd (n := n) (s := s) (by omega) m k
            have hkn : (k : Int) * (n - 1) ≤ 60 * 60 := Int.mul_le_mul (by omega) (by omega) (by omega) (by omega)
            rw [dif_eq2] at hS
            rw [dif_eq2] at hbd3
            have a0 : 0 ≤ (n - ((k : Int) + 1)) * s := Int.mul_nonneg (by omega) (by omega)
            have a1 : (n - ((k : Int) + 1)) * s ≤ 60 * 60 := Int.mul_le_mul (by omega) (by omega) (by omega) (by omega)
            have g0 := Int.emod_nonneg ((n - ((k : Int) + 1)) * s) (by omega : n ≠ 0)
            have g1 : (n - ((k : Int) + 1)) * s % n < n := Int.emod_lt_of_pos _ (by omega)
            have hpe : ((m : Int) - ((k : Int) + 1) + n) % n = ((m : Int) - ((k : Int) + 1)) % n := Int.add_emod_right ..
            have p0 := Int.emod_nonneg ((m : Int) - ((k : Int) + 1) + n) (by omega : n ≠ 0)
            have p1 : ((m : Int) - ((k : Int) + 1) + n) % n < n := Int.emod_lt_of_pos _ (by omega)
            have tm2 : ((m : Int) - ((k : Int) + 1) + n).tmod n = ((m : Int) - ((k : Int) + 1) + n) % n := Int.tmod_eq_emod_of_nonneg (by omega)
            rw [hpe] at p0 p1 tm2 hS hbd3
            clear hpe
            obtain ⟨P, hP⟩ : ∃ P, ((m : Int) - ((k : Int) + 1)) % n = P := ⟨_, rfl⟩
            rw [hP] at p0 p1 tm2 hS hbd3
            have b0 : 0 ≤ P * s := Int.mul_nonneg p0 (by omega)
            have b1 : P * s ≤ 60 * 60 := Int.mul_le_mul (by omega) (by omega) (by omega) (by omega)
            have g2 := Int.emod_nonneg (P * s) (by omega : n ≠ 0)
            have g3 : P * s % n < n := Int.emod_lt_of_pos _ (by omega)
            have tm1 : ((n - ((k : Int) + 1)) * s).tmod n = (n - ((k : Int) + 1)) * s % n := Int.tmod_eq_emod_of_nonneg a0
            have tm3 : (P * s).tmod n = P * s % n := Int.tmod_eq_emod_of_nonneg b0
            have nz : ¬ n = 0 := by omega
            have x1 : IntKind.i64.wrap (n - ((k : Int) + 1)) = n - ((k : Int) + 1) := IntWalk.i64_in _ (by omega)
            have x2 : IntKind.i64.wrap ((n - ((k : Int) + 1)) * s) = (n - ((k : Int) + 1)) * s := IntWalk.i64_in _ (by omega)
            have x3 : IntKind.i64.wrap ((m : Int) - ((k : Int) + 1)) = (m : Int) - ((k : Int) + 1) := IntWalk.i64_in _ (by omega)
            have x4 : IntKind.i64.wrap ((m : Int) - ((k : Int) + 1) + n) = (m : Int) - ((k : Int) + 1) + n := IntWalk.i64_in _ (by omega)
            have x5 : IntKind.i64.wrap (P * s) = P * s := IntWalk.i64_in _ (by omega)
            have x10 : IntKind.i64.wrap P = P := IntWalk.i64_in _ (by omega)
            obtain ⟨B, hB⟩ : ∃ B, P * s % n = B := ⟨_, rfl⟩
            obtain ⟨A, hA⟩ : ∃ A, (n - ((k : Int) + 1)) * s % n = A := ⟨_, rfl⟩
            rw [hB] at g2 g3 tm3 hS hbd3
            rw [hA] at g0 g1 tm1 hS hbd3
            generalize exB n s m k = X at *
            have x6 : IntKind.i64.wrap A = A := IntWalk.i64_in _ (by omega)
            have x7 : IntKind.i64.wrap B = B := IntWalk.i64_in _ (by omega)
            have x8 : IntKind.i64.wrap (X + A) = X + A := IntWalk.i64_in _ (by omega)
            have x9 : IntKind.i64.wrap (X + A - B) = X + A - B := IntWalk.i64_in _ (by omega)
            have hS' := Lib.hid (show X + A - B = exB n s m (k + 1) by rw [hS.out]; omega)
            clear a0 a1 b0 b1 g0 g1 g2 g3 p0 p1 hbd2 hbd3 hkn hS
            go_wp2_with fail
            go_quiet (fail)
            go_wp2_with fail
            go_roundw
            case rel => exact ⟨k + 1, by rw [← hS'.out], by go_num, by omega, q + nq, rfl⟩
            case measure => simp only [intOf]; omega
          · have hkm' : decide ((k : Int) + 1 ≤ u) = false := by simp; omega
            obtain rfl : k = u := by omega
            have E1 := E.out
            have hB2 : Below w.heap.size w (w1.drewN q) := below_drewN hB1 q
            go_wp2
            refine bodyPost_ret (v := .tuple #[.int .i64 (exB n s m k), .bool true]) (by simp [results, Try.results16, go_sem]) rfl ?_
            exact ⟨by rw [E.out, E2.out], hB2⟩
      · have hq : ¬ (tok n s = true ∧ 0 ≤ m ∧ m ≤ n ∧ 0 ≤ u ∧ u < n) := fun h => hu (by simp; omega)
        rw [exbF_no hq, exbT_no hq]
        have hu' : (decide (0 ≤ u) && decide (u ≤ n - 1)) = false := by simpa using hu
        go_enter Try.func16, Try.ntmps16
        go_wp2_with fail
        refine (specTurnOk_any _ _ _).mono ?_; rintro e w1 ⟨rfl, hb1⟩
        have hz1 := hb1.size
        try simp at hz1
        have t1 : Two w1 (w.heap.size) (.int .i64 n) (.int .i64 s) 24 := Two.below (by repeat (first | assumption | exact Two.new' _ _ _ _ _ (by simp) | refine Two.alloc ?_ _ | refine Two.drewN ?_ _)) hb1 (by first | omega | (simp <;> omega))
        have hlt1 : (w.heap.size) < w1.heap.size := t1.lt
        have hnt1 : ¬ (w.heap.size) = w1.heap.size := Nat.ne_of_lt hlt1
        have t1c := t1.cell0
        have t1d := t1.cell1
        rw [ht]
        go_wp2_with fail
        refine (l1In_any _ _ _ _).mono ?_; rintro e w2 ⟨rfl, rfl⟩
        rw [hm]
        go_wp2_with fail
        refine (l1In_any _ _ _ _).mono ?_; rintro e w2 ⟨rfl, rfl⟩
        rw [hu']
        go_wp2
        refine bodyPost_ret (v := .tuple #[.int .i64 0, .bool false]) (by simp [results, Try.results16, go_sem]) rfl ?_
        exact ⟨rfl, (by repeat (first | exact Below.refl _ _ | assumption | (refine Below.trans ?_ (Below.mono (by assumption) (by first | omega | (simp <;> omega)))) | (refine Below.alloc ?_ (by first | omega | (simp <;> omega)) _) | (refine below_drewN ?_ _) | (refine Below.drew ?_) | (refine Below.setCell ?_ (by first | omega | (simp <;> omega)) _)))⟩
    · have hq : ¬ (tok n s = true ∧ 0 ≤ m ∧ m ≤ n ∧ 0 ≤ u ∧ u < n) := fun h => hm (by simp; omega)
      rw [exbF_no hq, exbT_no hq]
      have hm' : (decide (0 ≤ m) && decide (m ≤ n)) = false := by simpa using hm
      go_enter Try.func16, Try.ntmps16
      go_wp2_with fail
      refine (specTurnOk_any _ _ _).mono ?_; rintro e w1 ⟨rfl, hb1⟩
      have hz1 := hb1.size
      try simp at hz1
      have t1 : Two w1 (w.heap.size) (.int .i64 n) (.int .i64 s) 24 := Two.below (by repeat (first | assumption | exact Two.new' _ _ _ _ _ (by simp) | refine Two.alloc ?_ _ | refine Two.drewN ?_ _)) hb1 (by first | omega | (simp <;> omega))
      have hlt1 : (w.heap.size) < w1.heap.size := t1.lt
      have hnt1 : ¬ (w.heap.size) = w1.heap.size := Nat.ne_of_lt hlt1
      have t1c := t1.cell0
      have t1d := t1.cell1
      rw [ht]
      go_wp2_with fail
      refine (l1In_any _ _ _ _).mono ?_; rintro e w2 ⟨rfl, rfl⟩
      rw [hm']
      go_wp2
      refine bodyPost_ret (v := .tuple #[.int .i64 0, .bool false]) (by simp [results, Try.results16, go_sem]) rfl ?_
      exact ⟨rfl, (by repeat (first | exact Below.refl _ _ | assumption | (refine Below.trans ?_ (Below.mono (by assumption) (by first | omega | (simp <;> omega)))) | (refine Below.alloc ?_ (by first | omega | (simp <;> omega)) _) | (refine below_drewN ?_ _) | (refine Below.drew ?_) | (refine Below.setCell ?_ (by first | omega | (simp <;> omega)) _)))⟩
  · have hq : ¬ (tok n s = true ∧ 0 ≤ m ∧ m ≤ n ∧ 0 ≤ u ∧ u < n) := fun h => ht h.1
    rw [exbF_no hq, exbT_no hq]
    have ht' : tok n s = false := by simpa using ht
    go_enter Try.func16, Try.ntmps16
    go_wp2_with fail
    refine (specTurnOk_any _ _ _).mono ?_; rintro e w1 ⟨rfl, hb1⟩
    have hz1 := hb1.size
    try simp at hz1
    have t1 : Two w1 (w.heap.size) (.int .i64 n) (.int .i64 s) 24 := Two.below (by repeat (first | assumption | exact Two.new' _ _ _ _ _ (by simp) | refine Two.alloc ?_ _ | refine Two.drewN ?_ _)) hb1 (by first | omega | (simp <;> omega))
    have hlt1 : (w.heap.size) < w1.heap.size := t1.lt
    have hnt1 : ¬ (w.heap.size) = w1.heap.size := Nat.ne_of_lt hlt1
    have t1c := t1.cell0
    have t1d := t1.cell1
    rw [ht']
    go_wp2
    refine bodyPost_ret (v := .tuple #[.int .i64 0, .bool false]) (by simp [results, Try.results16, go_sem]) rfl ?_
    exact ⟨rfl, (by repeat (first | exact Below.refl _ _ | assumption | (refine Below.trans ?_ (Below.mono (by assumption) (by first | omega | (simp <;> omega)))) | (refine Below.alloc ?_ (by first | omega | (simp <;> omega)) _) | (refine below_drewN ?_ _) | (refine Below.drew ?_) | (refine Below.setCell ?_ (by first | omega | (simp <;> omega)) _)))⟩
end Go.Proofs.Ytppahekbgbbidac
