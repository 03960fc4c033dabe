/- Contracts of chapter 7's functions of the model. Contract of ReturnTimes of the model. -/
import Derived.Test.YtppahekbgbbidacGRet
import Derived.Test.YtppahekbgbbidacLong
import Derived.Test.YtppahekbgbbidacGFun
import Derived.Test.YtppahekbgbbidacGNear
import Derived.Test.YtppahekbgbbidacGSort
set_option linter.unusedVariables false
namespace Go.Proofs.Ytppahekbgbbidac

set_option maxRecDepth 4000
open Go.ChangeShapes Go.WideShapes Go.ChangeAt Go.RowKit Go.Joins N

/-- an arc may be -/
def arcB (n s u : Int) : Bool := tok n s && (decide (1 ≤ u) && decide (u ≤ n))

theorem arcB_yes {n s u : Int} (h : tok n s = true) (h0 : 1 ≤ u) (h1 : u ≤ n) : arcB n s u = true := by unfold arcB; simp [h, h0, h1]

theorem arcB_no {n s u : Int} (h : ¬ (tok n s = true ∧ 1 ≤ u ∧ u ≤ n)) : arcB n s u = false := by
  cases e : arcB n s u with
  | false => rfl
  | true => unfold arcB at e; simp at e; exact absurd ⟨e.1, e.2.1, e.2.2⟩ h

set_option maxHeartbeats 1000000 in
theorem l7Ok_any (n s u : Int) (w : World) :
    Calls Try.prog 81 #[(.agg #[.int .i64 (n), .int .i64 (s)]), .int .i64 u] w fun e w' => e = .returned (.bool (arcB n s u)) ∧ Below w.heap.size w w' := by
  
  unfold arcB
  by_cases ht : tok n s = true
  · rw [ht]
    go_enter Try.func81, Try.ntmps81
    go_wp2_with fail
    refine (specTurnOk_any _ _ _).mono ?_; rintro e w1 ⟨rfl, hb1⟩
    have hz1 := hb1.size
    try simp at hz1
    have t1 : Two w1 (w.heap.size) (.int .i64 n) (.int .i64 s) 24 := Two.below (by repeat (first | assumption | exact Two.new' _ _ _ _ _ (by simp) | refine Two.alloc ?_ _ | refine Two.drewN ?_ _)) hb1 (by first | omega | (simp <;> omega))
    have hlt1 : (w.heap.size) < w1.heap.size := t1.lt
    have hnt1 : ¬ (w.heap.size) = w1.heap.size := Nat.ne_of_lt hlt1
    have t1c := t1.cell0
    have t1d := t1.cell1
    rw [ht]
    go_wp2_with fail
    refine (l1In_any _ _ _ _).mono ?_; rintro e w2 ⟨rfl, rfl⟩
    go_wp2
    go_ret
    exact ⟨rfl, (by repeat (first | exact Below.refl _ _ | assumption | (refine Below.trans ?_ (Below.mono (by assumption) (by first | omega | (simp <;> omega)))) | (refine Below.alloc ?_ (by first | omega | (simp <;> omega)) _) | (refine below_drewN ?_ _) | (refine Below.drew ?_) | (refine Below.setCell ?_ (by first | omega | (simp <;> omega)) _)))⟩
  · have ht' : tok n s = false := by simpa using ht
    rw [ht']
    go_enter Try.func81, Try.ntmps81
    go_wp2_with fail
    refine (specTurnOk_any _ _ _).mono ?_; rintro e w1 ⟨rfl, hb1⟩
    have hz1 := hb1.size
    try simp at hz1
    have t1 : Two w1 (w.heap.size) (.int .i64 n) (.int .i64 s) 24 := Two.below (by repeat (first | assumption | exact Two.new' _ _ _ _ _ (by simp) | refine Two.alloc ?_ _ | refine Two.drewN ?_ _)) hb1 (by first | omega | (simp <;> omega))
    have hlt1 : (w.heap.size) < w1.heap.size := t1.lt
    have hnt1 : ¬ (w.heap.size) = w1.heap.size := Nat.ne_of_lt hlt1
    have t1c := t1.cell0
    have t1d := t1.cell1
    rw [ht']
    go_wp2
    go_ret
    exact ⟨rfl, (by repeat (first | exact Below.refl _ _ | assumption | (refine Below.trans ?_ (Below.mono (by assumption) (by first | omega | (simp <;> omega)))) | (refine Below.alloc ?_ (by first | omega | (simp <;> omega)) _) | (refine below_drewN ?_ _) | (refine Below.drew ?_) | (refine Below.setCell ?_ (by first | omega | (simp <;> omega)) _)))⟩

set_option maxHeartbeats 2000000 in
theorem specReturnOf_any (n s u p : Int) (w : World) :
    Calls Try.prog 82 #[(.agg #[.int .i64 (n), .int .i64 (s)]), .int .i64 u, .int .i64 p] w fun e w' => e = .returned (.int .i64 (retF n s u p)) ∧ Below w.heap.size w w' := by
  
  by_cases h : tok n s = true ∧ 1 ≤ u ∧ u ≤ n
  · have hA := arcB_yes h.1 h.2.1 h.2.2
    obtain ⟨ht, u1, u2⟩ := h
    have hb := tok_bd ht
    have hwu : IntKind.i64.wrap (u - 1) = u - 1 := IntWalk.i64_in _ (by omega)
    by_cases hp : (decide (0 ≤ p) && decide (p ≤ u - 1)) = true
    · have hp' := hp
      simp at hp'
      obtain ⟨p0, p1⟩ := hp'
      obtain ⟨K, hK, hF, _⟩ := ret_first ht u1 u2 p0 (by omega)
      have k1 := hF.pos
      have k2 := hF.le
      have HH := Lib.hid hF.hit
      have HM := Lib.hid hF.miss
      have E := Lib.hid hK
      have HA := Lib.hid hA
      have nz : ¬ n = 0 := by omega
      clear hF hK ht hA
      go_enter Try.func82, Try.ntmps82
      go_wp2_with fail
      refine (l7Ok_any _ _ _ _).mono ?_; rintro e w1 ⟨rfl, hb1⟩
      have hz1 := hb1.size
      try simp at hz1
      have t1 : Two w1 (w.heap.size) (.int .i64 n) (.int .i64 s) 24 := Two.below (by repeat (first | assumption | exact Two.new' _ _ _ _ _ (by simp) | refine Two.alloc ?_ _ | refine Two.drewN ?_ _)) hb1 (by first | omega | (simp <;> omega))
      have hlt1 : (w.heap.size) < w1.heap.size := t1.lt
      have hnt1 : ¬ (w.heap.size) = w1.heap.size := Nat.ne_of_lt hlt1
      have t1c := t1.cell0
      have t1d := t1.cell1
      rw [HA.out]
      go_wp2_with fail
      refine (l1In_any _ _ _ _).mono ?_; rintro e w2 ⟨rfl, rfl⟩
      rw [hp]
      have hB1 : Below w.heap.size w w1 := (by repeat (first | exact Below.refl _ _ | assumption | (refine Below.trans ?_ (Below.mono (by assumption) (by first | omega | (simp <;> omega)))) | (refine Below.alloc ?_ (by first | omega | (simp <;> omega)) _) | (refine below_drewN ?_ _) | (refine Below.drew ?_) | (refine Below.setCell ?_ (by first | omega | (simp <;> omega)) _)))
      have hE1 := Lib.hid (fromP_one n s p)
      have wr1 : IntKind.i64.wrap (p + s) = p + s := IntWalk.i64_in _ (by omega)
      have tm1 : (p + s).tmod n = fromP n s p 1 := by rw [Int.tmod_eq_emod_of_nonneg (by omega)]; exact hE1.out.symm
      have tm2 : (p + s) % n = fromP n s p 1 := hE1.out.symm
      clear hp hb1
      go_wp2_with fail
      go_loop [7, 8] (fun x y => ∃ k : Nat, x = .int .i64 k ∧ y = .int .i64 (fromP n s p k) ∧ 1 ≤ k ∧ k ≤ K) (fun x _ => K - (intOf x).toNat)
      case atStart => exact ⟨1, rfl, rfl, by omega, by omega⟩
      case round =>
        obtain ⟨k, rfl, rfl, hk1, hk⟩ := hrel
        have x0 := fromP_lo (n := n) s p k (by omega)
        have x1 := fromP_hi (n := n) s p k (by omega)
        have hS := Lib.hid (fromP_succ n s p k)
        by_cases hkm : k < K
        · have c := HM.out k hk1 hkm
          simp only [decide_eq_false_iff_not] at c
          generalize fromP n s p k = X at *
          have c' : u ≤ X := by omega
          have wr2 : IntKind.i64.wrap (X + s) = X + s := IntWalk.i64_in _ (by omega)
          have tm3 : (X + s).tmod n = fromP n s p (k + 1) := by rw [Int.tmod_eq_emod_of_nonneg (by omega)]; exact hS.out
          have tm4 : (X + s) % n = fromP n s p (k + 1) := hS.out
          go_wp2_with fail
          go_round
          case rel => exact ⟨k + 1, by go_num, rfl, by omega, by omega⟩
          case measure => simp only [intOf]; omega
        · obtain rfl : k = K := by omega
          have c := HH.out
          simp only [decide_eq_true_eq] at c
          generalize fromP n s p k = X at *
          have c' : decide (u ≤ X) = false := by simp; omega
          go_wp2
          go_ret
          exact ⟨ret_int E.out.symm, hB1⟩
    · have hE := retF_no (n := n) (s := s) (w := u) (p := p) (fun h => hp (by simp; omega))
      rw [hE]
      have hp' : (decide (0 ≤ p) && decide (p ≤ u - 1)) = false := by simpa using hp
      go_enter Try.func82, Try.ntmps82
      go_wp2_with fail
      refine (l7Ok_any _ _ _ _).mono ?_; rintro e w1 ⟨rfl, hb1⟩
      have hz1 := hb1.size
      try simp at hz1
      have t1 : Two w1 (w.heap.size) (.int .i64 n) (.int .i64 s) 24 := Two.below (by repeat (first | assumption | exact Two.new' _ _ _ _ _ (by simp) | refine Two.alloc ?_ _ | refine Two.drewN ?_ _)) hb1 (by first | omega | (simp <;> omega))
      have hlt1 : (w.heap.size) < w1.heap.size := t1.lt
      have hnt1 : ¬ (w.heap.size) = w1.heap.size := Nat.ne_of_lt hlt1
      have t1c := t1.cell0
      have t1d := t1.cell1
      rw [hA]
      go_wp2_with fail
      refine (l1In_any _ _ _ _).mono ?_; rintro e w2 ⟨rfl, rfl⟩
      rw [hp']
      go_wp2
      go_ret
      exact ⟨rfl, (by repeat (first | exact Below.refl _ _ | assumption | (refine Below.trans ?_ (Below.mono (by assumption) (by first | omega | (simp <;> omega)))) | (refine Below.alloc ?_ (by first | omega | (simp <;> omega)) _) | (refine below_drewN ?_ _) | (refine Below.drew ?_) | (refine Below.setCell ?_ (by first | omega | (simp <;> omega)) _)))⟩
  · rw [retF_no (fun h' => h ⟨h'.1, h'.2.1, h'.2.2.1⟩)]
    have hA := arcB_no h
    go_enter Try.func82, Try.ntmps82
    go_wp2_with fail
    refine (l7Ok_any _ _ _ _).mono ?_; rintro e w1 ⟨rfl, hb1⟩
    have hz1 := hb1.size
    try simp at hz1
    have t1 : Two w1 (w.heap.size) (.int .i64 n) (.int .i64 s) 24 := Two.below (by repeat (first | assumption | exact Two.new' _ _ _ _ _ (by simp) | refine Two.alloc ?_ _ | refine Two.drewN ?_ _)) hb1 (by first | omega | (simp <;> omega))
    have hlt1 : (w.heap.size) < w1.heap.size := t1.lt
    have hnt1 : ¬ (w.heap.size) = w1.heap.size := Nat.ne_of_lt hlt1
    have t1c := t1.cell0
    have t1d := t1.cell1
    rw [hA]
    go_wp2
    go_ret
    exact ⟨rfl, (by repeat (first | exact Below.refl _ _ | assumption | (refine Below.trans ?_ (Below.mono (by assumption) (by first | omega | (simp <;> omega)))) | (refine Below.alloc ?_ (by first | omega | (simp <;> omega)) _) | (refine below_drewN ?_ _) | (refine Below.drew ?_) | (refine Below.setCell ?_ (by first | omega | (simp <;> omega)) _)))⟩

/-- a time of return and where one lands, in numbers -/
theorem land_cases (n s u p : Int) : (retF n s u p < 0 ∧ retF n s u p = -1 ∧ landF n s u p = -1 ∧ ¬ (tok n s = true ∧ 1 ≤ u ∧ u ≤ n ∧ 0 ≤ p ∧ p < u)) ∨
    (1 ≤ retF n s u p ∧ retF n s u p ≤ 60 ∧ landF n s u p = (p + retF n s u p * s) % n ∧ tok n s = true ∧ 1 ≤ u ∧ u ≤ n ∧ 0 ≤ p ∧ p < u) := by
  by_cases h : tok n s = true ∧ 1 ≤ u ∧ u ≤ n ∧ 0 ≤ p ∧ p < u
  · obtain ⟨ht, u1, u2, p0, p1⟩ := h
    obtain ⟨K, hK, hF, hL⟩ := ret_first ht u1 u2 p0 p1
    have hb := tok_bd ht
    have := hF.pos
    have := hF.le
    exact .inr ⟨by omega, by omega, by rw [hL, hK]; rfl, ht, u1, u2, p0, p1⟩
  · have e := retF_no h
    exact .inl ⟨by omega, e, landF_no h, h⟩

set_option maxHeartbeats 2000000 in
theorem specArcUp_any (n s u : Int) (w : World) :
    Calls Try.prog 71 #[(.agg #[.int .i64 (n), .int .i64 (s)]), .int .i64 u] w fun e w' => e = .returned (.int .i64 (aupF n s u)) ∧ Below w.heap.size w w' := by
  
  by_cases h2 : u < 2
  · rw [aupF_no (fun h => by omega)]
    go_enter Try.func71, Try.ntmps71
    go_wp2
    go_ret
    exact ⟨rfl, (by repeat (first | exact Below.refl _ _ | assumption | (refine Below.trans ?_ (Below.mono (by assumption) (by first | omega | (simp <;> omega)))) | (refine Below.alloc ?_ (by first | omega | (simp <;> omega)) _) | (refine below_drewN ?_ _) | (refine Below.drew ?_) | (refine Below.setCell ?_ (by first | omega | (simp <;> omega)) _)))⟩
  · by_cases h : tok n s = true ∧ 1 ≤ u ∧ u ≤ n
    · have HA := Lib.hid (arcB_yes h.1 h.2.1 h.2.2)
      obtain ⟨ht, u1, u2⟩ := h
      have hb := tok_bd ht
      obtain ⟨K, hK, hF⟩ := up_first ht (by omega) u2
      have k1 := hF.pos
      have k2 := hF.le
      have HH := Lib.hid hF.hit
      have HM := Lib.hid hF.miss
      have E := Lib.hid hK
      have nz : ¬ n = 0 := by omega
      clear hF hK ht
      go_enter Try.func71, Try.ntmps71
      go_wp2_with fail
      refine (l7Ok_any _ _ _ _).mono ?_; rintro e w1 ⟨rfl, hb1⟩
      have hz1 := hb1.size
      try simp at hz1
      have t1 : Two w1 (w.heap.size) (.int .i64 n) (.int .i64 s) 24 := Two.below (by repeat (first | assumption | exact Two.new' _ _ _ _ _ (by simp) | refine Two.alloc ?_ _ | refine Two.drewN ?_ _)) hb1 (by first | omega | (simp <;> omega))
      have hlt1 : (w.heap.size) < w1.heap.size := t1.lt
      have hnt1 : ¬ (w.heap.size) = w1.heap.size := Nat.ne_of_lt hlt1
      have t1c := t1.cell0
      have t1d := t1.cell1
      rw [HA.out]
      have hB1 : Below w.heap.size w w1 := (by repeat (first | exact Below.refl _ _ | assumption | (refine Below.trans ?_ (Below.mono (by assumption) (by first | omega | (simp <;> omega)))) | (refine Below.alloc ?_ (by first | omega | (simp <;> omega)) _) | (refine below_drewN ?_ _) | (refine Below.drew ?_) | (refine Below.setCell ?_ (by first | omega | (simp <;> omega)) _)))
      clear hb1
      go_wp2_with fail
      go_loop [5] (fun x => ∃ k : Nat, x = .int .i64 k ∧ 1 ≤ k ∧ k ≤ K) (fun x => K - (intOf x).toNat)
      case atStart => exact ⟨1, rfl, by omega, by omega⟩
      case round =>
        obtain ⟨k, rfl, hk1, hk⟩ := hrel
        have x0 := fromP_lo (n := n) s 0 k (by omega)
        have x1 := fromP_hi (n := n) s 0 k (by omega)
        have q0 : 0 ≤ (k : Int) * s := Int.mul_nonneg (by omega) (by omega)
        have q1 : (k : Int) * s ≤ 60 * 60 := Int.mul_le_mul (by omega) (by omega) (by omega) (by omega)
        have wr1 : IntKind.i64.wrap ((k : Int) * s) = (k : Int) * s := IntWalk.i64_in _ (by omega)
        have tm1 : ((k : Int) * s).tmod n = fromP n s 0 k := by rw [Int.tmod_eq_emod_of_nonneg q0, fromP_zero]
        have tm2 : ((k : Int) * s) % n = fromP n s 0 k := (fromP_zero n s k).symm
        by_cases hkm : k < K
        · have c := HM.out k hk1 hkm
          simp only [decide_eq_false_iff_not] at c
          generalize fromP n s 0 k = X at *
          have c' : u ≤ X := by omega
          go_wp2_with fail
          go_round
          case rel => exact ⟨k + 1, by go_num, by omega, by omega⟩
          case measure => simp only [intOf]; omega
        · obtain rfl : k = K := by omega
          have c := HH.out
          simp only [decide_eq_true_eq] at c
          generalize fromP n s 0 k = X at *
          have c' : decide (u ≤ X) = false := by simp; omega
          go_wp2
          go_ret
          exact ⟨ret_int E.out.symm, hB1⟩
    · rw [aupF_no (fun h' => h ⟨h'.1, by omega, h'.2.2⟩)]
      have hA := arcB_no h
      go_enter Try.func71, Try.ntmps71
      go_wp2_with fail
      refine (l7Ok_any _ _ _ _).mono ?_; rintro e w1 ⟨rfl, hb1⟩
      have hz1 := hb1.size
      try simp at hz1
      have t1 : Two w1 (w.heap.size) (.int .i64 n) (.int .i64 s) 24 := Two.below (by repeat (first | assumption | exact Two.new' _ _ _ _ _ (by simp) | refine Two.alloc ?_ _ | refine Two.drewN ?_ _)) hb1 (by first | omega | (simp <;> omega))
      have hlt1 : (w.heap.size) < w1.heap.size := t1.lt
      have hnt1 : ¬ (w.heap.size) = w1.heap.size := Nat.ne_of_lt hlt1
      have t1c := t1.cell0
      have t1d := t1.cell1
      rw [hA]
      go_wp2
      go_ret
      exact ⟨rfl, (by repeat (first | exact Below.refl _ _ | assumption | (refine Below.trans ?_ (Below.mono (by assumption) (by first | omega | (simp <;> omega)))) | (refine Below.alloc ?_ (by first | omega | (simp <;> omega)) _) | (refine below_drewN ?_ _) | (refine Below.drew ?_) | (refine Below.setCell ?_ (by first | omega | (simp <;> omega)) _)))⟩

set_option maxHeartbeats 2000000 in
theorem specArcDown_any (n s u : Int) (w : World) :
    Calls Try.prog 72 #[(.agg #[.int .i64 (n), .int .i64 (s)]), .int .i64 u] w fun e w' => e = .returned (.int .i64 (adownF n s u)) ∧ Below w.heap.size w w' := by
  
  by_cases h2 : u < 2
  · rw [adownF_no (fun h => by omega)]
    go_enter Try.func72, Try.ntmps72
    go_wp2
    go_ret
    exact ⟨rfl, (by repeat (first | exact Below.refl _ _ | assumption | (refine Below.trans ?_ (Below.mono (by assumption) (by first | omega | (simp <;> omega)))) | (refine Below.alloc ?_ (by first | omega | (simp <;> omega)) _) | (refine below_drewN ?_ _) | (refine Below.drew ?_) | (refine Below.setCell ?_ (by first | omega | (simp <;> omega)) _)))⟩
  · by_cases h : tok n s = true ∧ 1 ≤ u ∧ u ≤ n
    · have HA := Lib.hid (arcB_yes h.1 h.2.1 h.2.2)
      obtain ⟨ht, u1, u2⟩ := h
      have hb := tok_bd ht
      obtain ⟨K, hK, hF⟩ := down_first ht (by omega) u2
      have k1 := hF.pos
      have k2 := hF.le
      have HH := Lib.hid hF.hit
      have HM := Lib.hid hF.miss
      have E := Lib.hid hK
      have nz : ¬ n = 0 := by omega
      clear hF hK ht
      go_enter Try.func72, Try.ntmps72
      go_wp2_with fail
      refine (l7Ok_any _ _ _ _).mono ?_; rintro e w1 ⟨rfl, hb1⟩
      have hz1 := hb1.size
      try simp at hz1
      have t1 : Two w1 (w.heap.size) (.int .i64 n) (.int .i64 s) 24 := Two.below (by repeat (first | assumption | exact Two.new' _ _ _ _ _ (by simp) | refine Two.alloc ?_ _ | refine Two.drewN ?_ _)) hb1 (by first | omega | (simp <;> omega))
      have hlt1 : (w.heap.size) < w1.heap.size := t1.lt
      have hnt1 : ¬ (w.heap.size) = w1.heap.size := Nat.ne_of_lt hlt1
      have t1c := t1.cell0
      have t1d := t1.cell1
      rw [HA.out]
      have hB1 : Below w.heap.size w w1 := (by repeat (first | exact Below.refl _ _ | assumption | (refine Below.trans ?_ (Below.mono (by assumption) (by first | omega | (simp <;> omega)))) | (refine Below.alloc ?_ (by first | omega | (simp <;> omega)) _) | (refine below_drewN ?_ _) | (refine Below.drew ?_) | (refine Below.setCell ?_ (by first | omega | (simp <;> omega)) _)))
      clear hb1
      go_wp2_with fail
      go_loopw [5] (fun x wr => ∃ (k : Nat) (q : Nat), wr = w1.drewN q ∧ x = .int .i64 k ∧ 1 ≤ k ∧ k ≤ K) (fun x _ => K - (intOf x).toNat)
      case atStart => exact ⟨1, 0, rfl, rfl, by omega, by omega⟩
      case round =>
        obtain ⟨k, q, rfl, rfl, hk1, hk⟩ := hrel
        have x0 := fromP_lo (n := n) s 0 k (by omega)
        have x1 := fromP_hi (n := n) s 0 k (by omega)
        have q0 : 0 ≤ (k : Int) * s := Int.mul_nonneg (by omega) (by omega)
        have q1 : (k : Int) * s ≤ 60 * 60 := Int.mul_le_mul (by omega) (by omega) (by omega) (by omega)
        have wr1 : IntKind.i64.wrap ((k : Int) * s) = (k : Int) * s := IntWalk.i64_in _ (by omega)
        have tm1 : ((k : Int) * s).tmod n = fromP n s 0 k := by rw [Int.tmod_eq_emod_of_nonneg q0, fromP_zero]
        have t2c : (w1.drewN q).cell? ⟨w.heap.size, 0, none⟩ = some (.int .i64 n) := t1c
        have t2d : (w1.drewN q).cell? ⟨w.heap.size, 1, none⟩ = some (.int .i64 s) := t1d
        by_cases hkm : k < K
        · have c := HM.out k hk1 hkm
          simp only [decide_eq_false_iff_not] at c
          generalize fromP n s 0 k = X at *
          have wr2 : IntKind.i64.wrap (n - X) = n - X := IntWalk.i64_in _ (by omega)
          have c' : u ≤ n - X := by omega
          go_wp2_with fail
          go_quiet (fail)
          go_wp2_with fail
          go_roundw
          case rel => exact ⟨k + 1, q + nq, by simp, by go_num, by omega, by omega⟩
          case measure => simp only [intOf]; omega
        · obtain rfl : k = K := by omega
          have c := HH.out
          simp only [decide_eq_true_eq] at c
          generalize fromP n s 0 k = X at *
          have wr2 : IntKind.i64.wrap (n - X) = n - X := IntWalk.i64_in _ (by omega)
          have c' : decide (u ≤ n - X) = false := by simp; omega
          go_wp2_with fail
          go_quiet (fail)
          go_wp2
          go_ret
          exact ⟨ret_int E.out.symm, below_drewN (below_drewN hB1 q) nq⟩
    · rw [adownF_no (fun h' => h ⟨h'.1, by omega, h'.2.2⟩)]
      have hA := arcB_no h
      go_enter Try.func72, Try.ntmps72
      go_wp2_with fail
      refine (l7Ok_any _ _ _ _).mono ?_; rintro e w1 ⟨rfl, hb1⟩
      have hz1 := hb1.size
      try simp at hz1
      have t1 : Two w1 (w.heap.size) (.int .i64 n) (.int .i64 s) 24 := Two.below (by repeat (first | assumption | exact Two.new' _ _ _ _ _ (by simp) | refine Two.alloc ?_ _ | refine Two.drewN ?_ _)) hb1 (by first | omega | (simp <;> omega))
      have hlt1 : (w.heap.size) < w1.heap.size := t1.lt
      have hnt1 : ¬ (w.heap.size) = w1.heap.size := Nat.ne_of_lt hlt1
      have t1c := t1.cell0
      have t1d := t1.cell1
      rw [hA]
      go_wp2
      go_ret
      exact ⟨rfl, (by repeat (first | exact Below.refl _ _ | assumption | (refine Below.trans ?_ (Below.mono (by assumption) (by first | omega | (simp <;> omega)))) | (refine Below.alloc ?_ (by first | omega | (simp <;> omega)) _) | (refine below_drewN ?_ _) | (refine Below.drew ?_) | (refine Below.setCell ?_ (by first | omega | (simp <;> omega)) _)))⟩

/-- both times, in numbers -/
theorem rby_cases (n s u : Int) : (aupF n s u = -1 ∧ adownF n s u = -1 ∧ rbyF n s u = [] ∧ ¬ (tok n s = true ∧ 2 ≤ u ∧ u ≤ n)) ∨
    (∃ p q A B : Int, aupF n s u = p ∧ adownF n s u = q ∧ 1 ≤ p ∧ p < n ∧ 1 ≤ q ∧ q < n ∧ p * s % n = A ∧ q * s % n = B ∧ 0 ≤ A ∧ A < n ∧ 0 ≤ B ∧ B < n ∧
      rbyF n s u = [p, u - A, q, u - (n - B), p + q, A + (n - B) - u] ∧ tok n s = true ∧ 2 ≤ u ∧ u ≤ n) := by
  by_cases h : tok n s = true ∧ 2 ≤ u ∧ u ≤ n
  · have e : rbyF n s u = _ := if_pos h
    obtain ⟨ht, u1, u2⟩ := h
    have hb := tok_bd ht
    have a := up_lt ht u1 u2
    have b := down_lt ht u1 u2
    exact .inr ⟨_, _, _, _, rfl, rfl, a.1, a.2, b.1, b.2, rfl, rfl, pt_lo _ _ (by omega), pt_hi _ _ (by omega), pt_lo _ _ (by omega), pt_hi _ _ (by omega), e, ht, u1, u2⟩
  · exact .inl ⟨aupF_no h, adownF_no h, rbyF_no h, h⟩

set_option maxHeartbeats 1000000 in
theorem specReturnsBy_any (n s u : Int) (w : World) :
    Calls Try.prog 26 #[(.agg #[.int .i64 (n), .int .i64 (s)]), .int .i64 u] w (ListPost (rbyF n s u) w) := by
  
  rcases rby_cases n s u with ⟨h1, h2, h3, _⟩ | ⟨p, q, A, B, h1, h2, p0, p1, q0, q1, hA, hB, a0, a1, b0, b1, h3, ht, u1, u2⟩
  · rw [h3]
    go_enter Try.func26, Try.ntmps26
    go_wp2_with fail
    refine (specArcUp_any _ _ _ _).mono ?_; rintro e w1 ⟨rfl, hb1⟩
    have hz1 := hb1.size
    try simp at hz1
    have t1 : Two w1 (w.heap.size) (.int .i64 n) (.int .i64 s) 24 := Two.below (by repeat (first | assumption | exact Two.new' _ _ _ _ _ (by simp) | refine Two.alloc ?_ _ | refine Two.drewN ?_ _)) hb1 (by first | omega | (simp <;> omega))
    have hlt1 : (w.heap.size) < w1.heap.size := t1.lt
    have hnt1 : ¬ (w.heap.size) = w1.heap.size := Nat.ne_of_lt hlt1
    have t1c := t1.cell0
    have t1d := t1.cell1
    rw [h1]
    go_wp2_with fail
    refine (specArcDown_any _ _ _ _).mono ?_; rintro e w2 ⟨rfl, hb2⟩
    have hz2 := hb2.size
    try simp at hz2
    have t2 : Two w2 (w.heap.size) (.int .i64 n) (.int .i64 s) 24 := Two.below (by repeat (first | assumption | exact Two.new' _ _ _ _ _ (by simp) | refine Two.alloc ?_ _ | refine Two.drewN ?_ _)) hb2 (by first | omega | (simp <;> omega))
    have hlt2 : (w.heap.size) < w2.heap.size := t2.lt
    have hnt2 : ¬ (w.heap.size) = w2.heap.size := Nat.ne_of_lt hlt2
    have t2c := t2.cell0
    have t2d := t2.cell1
    rw [h2]
    have hB2 : Below w.heap.size w w2 := (by repeat (first | exact Below.refl _ _ | assumption | (refine Below.trans ?_ (Below.mono (by assumption) (by first | omega | (simp <;> omega)))) | (refine Below.alloc ?_ (by first | omega | (simp <;> omega)) _) | (refine below_drewN ?_ _) | (refine Below.drew ?_) | (refine Below.setCell ?_ (by first | omega | (simp <;> omega)) _)))
    go_wp2
    go_ret
    exact ⟨_, rfl, (made_nil w2).mono (by have := hB2.size; omega), hB2.alloc hB2.size _⟩
  · have hb := tok_bd ht
    rw [h3]
    have H1 := Lib.hid h1
    have H2 := Lib.hid h2
    have m0 : 0 ≤ p * s := Int.mul_nonneg (by omega) (by omega)
    have m1 : p * s ≤ 60 * 60 := Int.mul_le_mul (by omega) (by omega) (by omega) (by omega)
    have m2 : 0 ≤ q * s := Int.mul_nonneg (by omega) (by omega)
    have m3 : q * s ≤ 60 * 60 := Int.mul_le_mul (by omega) (by omega) (by omega) (by omega)
    have wr1 : IntKind.i64.wrap (p * s) = p * s := IntWalk.i64_in _ (by omega)
    have wr2 : IntKind.i64.wrap (q * s) = q * s := IntWalk.i64_in _ (by omega)
    have nz : ¬ n = 0 := by omega
    have tm1 : (p * s).tmod n = A := by rw [Int.tmod_eq_emod_of_nonneg m0]; exact hA
    have tm2 : (q * s).tmod n = B := by rw [Int.tmod_eq_emod_of_nonneg m2]; exact hB
    have wr3 : IntKind.i64.wrap (n - B) = n - B := IntWalk.i64_in _ (by omega)
    have p2 : ¬ p < 0 := by omega
    have q2 : ¬ q < 0 := by omega
    clear ht h1 h2 h3
    go_enter Try.func26, Try.ntmps26
    go_wp2_with fail
    refine (specArcUp_any _ _ _ _).mono ?_; rintro e w1 ⟨rfl, hb1⟩
    have hz1 := hb1.size
    try simp at hz1
    have t1 : Two w1 (w.heap.size) (.int .i64 n) (.int .i64 s) 24 := Two.below (by repeat (first | assumption | exact Two.new' _ _ _ _ _ (by simp) | refine Two.alloc ?_ _ | refine Two.drewN ?_ _)) hb1 (by first | omega | (simp <;> omega))
    have hlt1 : (w.heap.size) < w1.heap.size := t1.lt
    have hnt1 : ¬ (w.heap.size) = w1.heap.size := Nat.ne_of_lt hlt1
    have t1c := t1.cell0
    have t1d := t1.cell1
    rw [H1.out]
    go_wp2_with fail
    refine (specArcDown_any _ _ _ _).mono ?_; rintro e w2 ⟨rfl, hb2⟩
    have hz2 := hb2.size
    try simp at hz2
    have t2 : Two w2 (w.heap.size) (.int .i64 n) (.int .i64 s) 24 := Two.below (by repeat (first | assumption | exact Two.new' _ _ _ _ _ (by simp) | refine Two.alloc ?_ _ | refine Two.drewN ?_ _)) hb2 (by first | omega | (simp <;> omega))
    have hlt2 : (w.heap.size) < w2.heap.size := t2.lt
    have hnt2 : ¬ (w.heap.size) = w2.heap.size := Nat.ne_of_lt hlt2
    have t2c := t2.cell0
    have t2d := t2.cell1
    rw [H2.out]
    go_wp2_with fail
    go_quiet (fail)
    go_wp2
    go_ret
    exact ⟨_, rfl, row6 _ _ _ _ _ _ _ _ (by first | omega | (simp <;> omega)), (by repeat (first | exact Below.refl _ _ | assumption | (refine Below.trans ?_ (Below.mono (by assumption) (by first | omega | (simp <;> omega)))) | (refine Below.alloc ?_ (by first | omega | (simp <;> omega)) _) | (refine below_drewN ?_ _) | (refine Below.drew ?_) | (refine Below.setCell ?_ (by first | omega | (simp <;> omega)) _)))⟩

set_option maxHeartbeats 1000000 in
theorem specReturnsLong_any (n s u x : Int) (w : World) :
    Calls Try.prog 39 #[(.agg #[.int .i64 (n), .int .i64 (s)]), .int .i64 u, .int .i64 x] w fun e w' => e = .returned (.int .i64 (rlongF n s u x)) ∧ Below w.heap.size w w' := by
  
  by_cases h : tok n s = true ∧ 1 ≤ u ∧ u ≤ n
  · have HA := Lib.hid (arcB_yes h.1 h.2.1 h.2.2)
    obtain ⟨ht, u1, u2⟩ := h
    have hb := tok_bd ht
    obtain ⟨u, rfl⟩ := Int.eq_ofNat_of_zero_le (by omega : 0 ≤ u)
    have E := Lib.hid (rlong_yes ht (by omega) u2 x)
    have HR := Lib.hid (fun k (hk : k < u) => retsT_take (n := n) (s := s) hk)
    have HRet := Lib.hid (fun (k : Nat) (hk : k < u) => (show retF n s (u : Int) k = retB n (invF n s) u k from retF_yes ht u1 u2 (by omega) (by omega)))
    clear ht
    go_enter Try.func39, Try.ntmps39
    go_wp2_with fail
    refine (l7Ok_any _ _ _ _).mono ?_; rintro e w1 ⟨rfl, hb1⟩
    have hz1 := hb1.size
    try simp at hz1
    have t1 : Two w1 (w.heap.size) (.int .i64 n) (.int .i64 s) 24 := Two.below (by repeat (first | assumption | exact Two.new' _ _ _ _ _ (by simp) | refine Two.alloc ?_ _ | refine Two.drewN ?_ _)) hb1 (by first | omega | (simp <;> omega))
    have hlt1 : (w.heap.size) < w1.heap.size := t1.lt
    have hnt1 : ¬ (w.heap.size) = w1.heap.size := Nat.ne_of_lt hlt1
    have t1c := t1.cell0
    have t1d := t1.cell1
    rw [HA.out]
    have hB1 : Below w.heap.size w w1 := (by repeat (first | exact Below.refl _ _ | assumption | (refine Below.trans ?_ (Below.mono (by assumption) (by first | omega | (simp <;> omega)))) | (refine Below.alloc ?_ (by first | omega | (simp <;> omega)) _) | (refine below_drewN ?_ _) | (refine Below.drew ?_) | (refine Below.setCell ?_ (by first | omega | (simp <;> omega)) _)))
    clear hb1
    go_wp2_with fail
    go_loopw [7, 8] (fun y x' wr => ∃ k c : Nat, x' = .int .i64 k ∧ y = .int .i64 c ∧ k ≤ u ∧ c ≤ k ∧ Hid (((retsT n s u).take k).count x = c) ∧ Below w1.heap.size w1 wr) (fun _ x' _ => u - (intOf x').toNat)
    case atStart => exact ⟨0, 0, rfl, rfl, by omega, by omega, by show _ = _; simp, Below.refl _ _⟩
    case round =>
      obtain ⟨k, c, rfl, rfl, hk, hc, HK, hB⟩ := hrel
      by_cases hkm : k < u
      · have hkm' : (k : Int) < u := by omega
        have t2 := t1.below hB hlt1
        have t2c := t2.cell0
        have t2d := t2.cell1
        have hS := HR.out k hkm
        have hv := HRet.out k hkm
        generalize retB n (invF n s) u k = X at *
        have HS := Lib.hid hS
        have HV := Lib.hid hv
        clear hS hv
        go_wp2_with fail
        refine (specReturnOf_any _ _ _ _ _).mono ?_; rintro e w3 ⟨rfl, hb3⟩
        rw [HV.out]
        have hB3 := hB.trans (hb3.mono hB.size)
        clear hb3 hB
        by_cases he : X = x
        · subst he
          have HK2 : Hid (((retsT n s u).take (k + 1)).count X = c + 1) := by show _ = _; rw [HS.out, List.count_append, HK.out]; simp
          go_wp2_with fail
          go_roundw
          case rel => exact ⟨k + 1, c + 1, by go_num, by go_num, by omega, by omega, HK2.out, hB3⟩
          case measure => simp only [intOf]; omega
        · have he' : (X == x) = false := by simpa using he
          have HK2 : Hid (((retsT n s u).take (k + 1)).count x = c) := by show _ = _; rw [HS.out, List.count_append, HK.out]; simp [he]
          go_wp2_with fail
          go_roundw
          case rel => exact ⟨k + 1, c, by go_num, rfl, by omega, by omega, HK2.out, hB3⟩
          case measure => simp only [intOf]; omega
      · obtain rfl : k = u := by omega
        have hkm' : decide ((k : Int) < k) = false := by simp
        have HK2 : Hid ((retsT n s k).count x = c) := by
          have h := HK.out
          rwa [List.take_of_length_le (by rw [retsT_len]; omega)] at h
        go_wp2
        go_ret
        exact ⟨ret_int (by rw [E.out, HK2.out]), hB1.trans (hB.mono hB1.size)⟩
  · rw [rlong_no h]
    have hA := arcB_no h
    go_enter Try.func39, Try.ntmps39
    go_wp2_with fail
    refine (l7Ok_any _ _ _ _).mono ?_; rintro e w1 ⟨rfl, hb1⟩
    have hz1 := hb1.size
    try simp at hz1
    have t1 : Two w1 (w.heap.size) (.int .i64 n) (.int .i64 s) 24 := Two.below (by repeat (first | assumption | exact Two.new' _ _ _ _ _ (by simp) | refine Two.alloc ?_ _ | refine Two.drewN ?_ _)) hb1 (by first | omega | (simp <;> omega))
    have hlt1 : (w.heap.size) < w1.heap.size := t1.lt
    have hnt1 : ¬ (w.heap.size) = w1.heap.size := Nat.ne_of_lt hlt1
    have t1c := t1.cell0
    have t1d := t1.cell1
    rw [hA]
    go_wp2
    go_ret
    exact ⟨rfl, (by repeat (first | exact Below.refl _ _ | assumption | (refine Below.trans ?_ (Below.mono (by assumption) (by first | omega | (simp <;> omega)))) | (refine Below.alloc ?_ (by first | omega | (simp <;> omega)) _) | (refine below_drewN ?_ _) | (refine Below.drew ?_) | (refine Below.setCell ?_ (by first | omega | (simp <;> omega)) _)))⟩
end Go.Proofs.Ytppahekbgbbidac

set_option linter.unusedVariables false
namespace Go.Proofs.Ytppahekbgbbidac

set_option maxRecDepth 4000
open Go.ChangeShapes Go.WideShapes Go.ChangeAt Go.RowKit Go.Joins N

/-- two blocks: a turn and an empty row -/
theorem turn_empty (n s : Int) (w : World) : ∃ W, W = (w.alloc (.cells #[.int .i64 n, .int .i64 s] 24)).alloc (.cells #[] 3) ∧
    Two W w.heap.size (.int .i64 n) (.int .i64 s) 24 ∧ OwnL W (w.heap.size + 1) (.slice (some ⟨w.heap.size + 1, 0, none⟩) 0 0) [] ∧ Below w.heap.size w W ∧ w.heap.size + 2 ≤ W.heap.size := by
  refine ⟨_, rfl, ?_, ?_, ?_, by simp⟩
  · exact (Two.new _ _ _ _).alloc _
  · have h := made_nil (w.alloc (.cells #[.int .i64 n, .int .i64 s] 24))
    have e : (w.alloc (.cells #[.int .i64 n, .int .i64 s] 24)).heap.size = w.heap.size + 1 := by simp
    rwa [e] at h
  · exact (by repeat (first | exact Below.refl _ _ | assumption | (refine Below.trans ?_ (Below.mono (by assumption) (by first | omega | (simp <;> omega)))) | (refine Below.alloc ?_ (by first | omega | (simp <;> omega)) _) | (refine below_drewN ?_ _) | (refine Below.drew ?_) | (refine Below.setCell ?_ (by first | omega | (simp <;> omega)) _)))

set_option maxHeartbeats 4000000 in
theorem specReturnTimes_any (n s u : Int) (w : World) :
    Calls Try.prog 79 #[(.agg #[.int .i64 (n), .int .i64 (s)]), .int .i64 u] w (ListPost (rtimesF n s u) w) := by
  obtain ⟨W, hW, tb, hnil, hBW, hzW⟩ := turn_empty n s w
  have tbc := tb.cell0
  have tbd := tb.cell1
  have ltb := tb.lt
  by_cases h : tok n s = true ∧ 1 ≤ u ∧ u ≤ n
  · have HA := Lib.hid (arcB_yes h.1 h.2.1 h.2.2)
    obtain ⟨ht, u1, u2⟩ := h
    have hb := tok_bd ht
    obtain ⟨u, rfl⟩ := Int.eq_ofNat_of_zero_le (by omega : 0 ≤ u)
    have hkd := dd_kinds (retsT n s u) (retsT_len n s u)
    rw [← retsF_T ht (by omega) u2, show kindsL (retsF n s u) = rtimesF n s u from rfl, retsF_T ht (by omega) u2] at hkd
    have HR := Lib.hid (fun k (hk : k < u) => retsT_take (n := n) (s := s) hk)
    have HRet := Lib.hid (fun (k : Nat) (hk : k < u) => (show retF n s (u : Int) k = retB n (invF n s) u k from retF_yes ht u1 u2 (by omega) (by omega)))
    have hL : (isort (retsT n s u)).length = u := by rw [isort_length, retsT_len]
    have hE0 : OwnE W (w.heap.size + 1) (w.heap.size + 2) (.slice (some ⟨w.heap.size + 1, 0, none⟩) 0 0) [] := .inl ⟨_, rfl, rfl, hnil⟩
    rw [← hkd]
    clear ht hkd hnil
    go_enter Try.func79, Try.ntmps79
    go_wp2_with fail
    rw [← hW]
    clear hW
    go_loopw [5, 6] (fun y x wr => ∃ (k : Nat) (v0 : Value), x = .int .i64 k ∧ v0 = y ∧ k ≤ u ∧ OwnE wr (w.heap.size + 1) (w.heap.size + 2) v0 ((retsT n s u).take k) ∧ v0 ≠ .slice none 0 0 ∧ Below (w.heap.size + 2) W wr) (fun _ x _ => u - (intOf x).toNat)
    case atStart => exact ⟨0, _, rfl, rfl, by omega, hE0, by simp, Below.refl _ _⟩
    case round =>
      obtain ⟨k, v0, rfl, rfl, hk, ho, hn0, hB⟩ := hrel
      clear hE0
      have hz := hB.size
      have t1 := tb.below hB (by omega)
      have t1c := t1.cell0
      have t1d := t1.cell1
      clear tb tbc tbd
      by_cases hkm : k < u
      · have hkm' : (k : Int) < u := by omega
        have hS := HR.out k hkm
        have hv := HRet.out k hkm
        have HL : Hid (((retsT n s u).take k).length = k) := by show _ = _; rw [List.length_take, retsT_len]; omega
        generalize retB n (invF n s) u k = X at *
        have HS := Lib.hid hS
        have HV := Lib.hid hv
        clear hS hv
        go_wp2_with fail
        refine (l7Ok_any _ _ _ _).mono ?_; rintro e w2 ⟨rfl, hb2⟩
        rw [HA.out]
        have ho2 := ho.below hb2
        have hB2 := hB.trans (hb2.mono (by omega))
        have t2 := t1.below hb2 t1.lt
        have t2c := t2.cell0
        have t2d := t2.cell1
        clear hb2 ho hB t1 t1c t1d
        go_wp2_with fail
        refine (specReturnOf_any _ _ _ _ _).mono ?_; rintro e w3 ⟨rfl, hb3⟩
        rw [HV.out]
        have ho3 := ho2.below hb3
        have hB3 := hB2.trans (hb3.mono (by have := hB2.size; omega))
        have hz3 : w.heap.size + 2 ≤ w3.heap.size := by have := hB3.size; omega
        clear hb3 hB2 ho2 t2 t2c t2d
        go_wp2_with (at_builtin; refine append_e rfl _ _ rfl (w.heap.size + 1) (w.heap.size + 2) v0 ((retsT n s u).take k) k HL (by omega) rfl ho3 hz3 rfl ?_)
        intro v5 w5 ho5 hn5 hb5
        rw [← HS.out] at ho5
        have hB5 := hB3.trans hb5
        clear ho3 hb5 hB3
        go_wp2_with fail
        go_roundw
        case rel => exact ⟨k + 1, _, by go_num, rfl, by omega, ho5, hn5, hB5⟩
        case measure => simp only [intOf]; omega
      · obtain rfl : k = u := by omega
        have hkm' : decide ((k : Int) < k) = false := by simp
        have ho' : OwnL wr (w.heap.size + 1) v0 (retsT n s k) := by
          have h := ho.own (by omega)
          rwa [List.take_of_length_le (by rw [retsT_len]; omega)] at h
        have hBw : Below w.heap.size w wr := hBW.trans (hB.mono (by omega))
        have hl := retsT_len n s k
        generalize retsT n s k = G at *
        clear ho hB HR t1 t1c t1d
        go_wp2_with fail
        refine (l2Sorted_any v0 G _ ho'.reads (by omega)).mono ?_; rintro e w3 ⟨v3, rfl, ho3, hb3⟩
        generalize isort G = L at *
        obtain ⟨a, cap, rfl, HC0⟩ := (show Reads w3 v3 L from ho3.reads).cells hL
        have HC1 : Hid (∀ j, j < k → ∃ g off, a = some ⟨g, off, none⟩ ∧ ∀ j, j < k → w3.cell? ⟨g, off + j, none⟩ = some (.int .i64 (L.getD j 0))) := fun j hj => by
          obtain ⟨g, off, e, h⟩ := HC0 (by omega)
          exact ⟨g, off, e, fun j hj => h.out j hj⟩
        have hB3 : Below w.heap.size w w3 := hBw.trans (hb3.mono hBw.size)
        have hz3 := hB3.size
        have hE3 : OwnE (w3.alloc (.cells #[] 3)) w3.heap.size (w3.heap.size + 1) (.slice (some ⟨w3.heap.size, 0, none⟩) 0 0) [] := OwnE.made _ _
        have hB4 : Below w3.heap.size w3 (w3.alloc (.cells #[] 3)) := (Below.refl _ _).alloc (Nat.le_refl _) _
        have hz4 : w3.heap.size + 1 ≤ (w3.alloc (.cells #[] 3)).heap.size := by simp
        have HL := Lib.hid hL
        clear ho' ho3 hb3 HC0 hL hl hBw
        go_wp2_with fail
        generalize w3.alloc (.cells #[] 3) = w4 at *
        go_loopw [7, 8] (fun y x wr => ∃ (j : Nat) (v0 : Value), x = .int .i64 j ∧ v0 = y ∧ j ≤ k ∧ OwnE wr w3.heap.size (w3.heap.size + 1) v0 (dd L j) ∧ v0 ≠ .slice none 0 0 ∧ Below w3.heap.size w3 wr ∧ w3.heap.size + 1 ≤ wr.heap.size) (fun _ x _ => k - (intOf x).toNat)
        case atStart => exact ⟨0, _, rfl, rfl, by omega, hE3, by simp, hB4, hz4⟩
        case round =>
          obtain ⟨i, v0, rfl, rfl, hi, ho, hn0, hB, hz⟩ := hrel
          clear hE3 hB4 hz4
          by_cases hkm : i < k
          · have hkm' : (i : Int) < k := by omega
            obtain ⟨g, off, rfl, HC⟩ := HC1.out i hkm
            have c1 := HC i hkm
            have ck := (hB.cell (p := ⟨g, off + i, none⟩) (World.block_lt_of_cell? w3 _ c1)).trans c1
            have hdl := dd_len L i
            obtain ⟨D, hD⟩ : ∃ D, (dd L i).length = D := ⟨_, rfl⟩
            rw [hD] at hdl
            have HD := Lib.hid hD
            clear hD c1
            by_cases hk0 : i = 0
            · subst hk0
              have hS := dd_yes (ys := L) (k := 0) (.inl rfl)
              generalize hX : L.getD 0 0 = X at *
              have HX := Lib.hid hX
              have HS := Lib.hid hS
              simp only [Nat.add_zero] at ck
              clear hS HC hX
              go_wp2_with fail
              go_quiet (fail)
              have ho' : OwnE (wr.drewN nq) w3.heap.size (w3.heap.size + 1) v0 (dd L 0) := ho
              have hz' : w3.heap.size + 1 ≤ (wr.drewN nq).heap.size := hz
              go_wp2_with (at_builtin; refine append_e rfl _ _ rfl w3.heap.size (w3.heap.size + 1) v0 (dd L 0) D HD (by omega) rfl ho' hz' rfl ?_)
              intro v5 w5 ho5 hn5 hb5
              rw [← HS.out] at ho5
              have hB5 := (below_drewN hB nq).trans (hb5.mono (by omega))
              have hz5 := Nat.le_trans hz' hb5.size
              clear ck ho ho' hb5 hB
              go_wp2_with fail
              go_roundw
              case rel => exact ⟨0 + 1, _, by go_num, rfl, by omega, ho5, hn5, hB5, hz5⟩
              case measure => simp only [intOf]; omega
            · obtain ⟨j, rfl⟩ : ∃ j, i = j + 1 := ⟨i - 1, by omega⟩
              have c0 := HC j (by omega)
              have cj := (hB.cell (p := ⟨g, off + j, none⟩) (World.block_lt_of_cell? w3 _ c0)).trans c0
              have hk0' : ((j : Int) + 1 == 0) = false := by simp; omega
              have eq1 : ((j + 1 : Nat) : Int) = (j : Int) + 1 := by omega
              rw [eq1] at hkm' ⊢
              have q1 : (j : Int) < k := by omega
              clear eq1
              by_cases hne : L.getD (j + 1) 0 = L.getD j 0
              · have hS := dd_no (ys := L) (k := j + 1) (by rintro (h | h); · omega
                                                            · exact h hne)
                have HS := Lib.hid hS
                rw [hne] at ck
                generalize L.getD j 0 = X at *
                clear hS HC c0 hne
                go_wp2_with fail
                go_quiet (fail)
                have ho' : OwnE (wr.drewN nq) w3.heap.size (w3.heap.size + 1) v0 (dd L (j + 1 + 1)) := by rw [HS.out]; exact ho
                have hz' : w3.heap.size + 1 ≤ (wr.drewN nq).heap.size := hz
                have hB5 := below_drewN hB nq
                clear ck cj ho hB
                go_wp2_with fail
                go_roundw
                case rel => exact ⟨j + 1 + 1, _, by go_num, rfl, by omega, ho', hn0, hB5, hz'⟩
                case measure => simp only [intOf]; omega
              · have hS := dd_yes (ys := L) (k := j + 1) (.inr hne)
                generalize L.getD (j + 1) 0 = Y at *
                generalize L.getD j 0 = X at *
                have hne' : (Y != X) = true := by rw [bne_iff_ne]; exact hne
                have HS := Lib.hid hS
                clear hS HC c0 hne
                go_wp2_with fail
                go_quiet (fail)
                have ho' : OwnE (wr.drewN nq) w3.heap.size (w3.heap.size + 1) v0 (dd L (j + 1)) := ho
                have hz' : w3.heap.size + 1 ≤ (wr.drewN nq).heap.size := hz
                go_wp2_with (at_builtin; refine append_e rfl _ _ rfl w3.heap.size (w3.heap.size + 1) v0 (dd L (j + 1)) D HD (by omega) rfl ho' hz' rfl ?_)
                intro v5 w5 ho5 hn5 hb5
                rw [← HS.out] at ho5
                have hB5 := (below_drewN hB nq).trans (hb5.mono (by omega))
                have hz5 := Nat.le_trans hz' hb5.size
                clear ck cj ho ho' hb5 hB
                go_wp2_with fail
                go_roundw
                case rel => exact ⟨j + 1 + 1, _, by go_num, rfl, by omega, ho5, hn5, hB5, hz5⟩
                case measure => simp only [intOf]; omega
          · obtain rfl : i = k := by omega
            have hkm' : decide ((i : Int) < i) = false := by simp
            have ho' : OwnL wr w.heap.size v0 (dd L i) := OwnL.mono (b' := w.heap.size) (ho.own (by omega)) (by omega)
            have hB' : Below w.heap.size w wr := hB3.trans (hB.mono hz3)
            clear ho hB
            go_wp2
            go_ret
            exact ⟨_, rfl, ho', hB'⟩
  · rw [rtimesF_no h]
    have hA := arcB_no h
    have hfin : ∀ (W' : World), OwnL W' (w.heap.size + 1) (.slice (some ⟨w.heap.size + 1, 0, none⟩) 0 0) [] → Below w.heap.size w W' → True := fun _ _ _ => trivial
    clear hfin
    by_cases h0 : 0 < u
    · go_enter Try.func79, Try.ntmps79
      go_wp2_with fail
      rw [← hW]
      clear hW
      go_loopw [5, 6] (fun y x wr => y = .slice (some ⟨w.heap.size + 1, 0, none⟩) 0 0 ∧ x = .int .i64 0 ∧ wr = W) (fun _ _ _ => 0)
      case atStart => exact ⟨rfl, rfl, rfl⟩
      case round =>
        obtain ⟨rfl, rfl, rfl⟩ := hrel
        go_wp2_with fail
        refine (l7Ok_any _ _ _ _).mono ?_; rintro e w2 ⟨rfl, hb2⟩
        rw [hA]
        have hn2 := hnil.below hb2
        have hB2 := hBW.trans (hb2.mono hBW.size)
        clear hnil hBW hb2 tb tbc tbd
        go_wp2_with fail
        refine (l2Sorted_any _ [] _ hn2.reads (by simp)).mono ?_; rintro e w3 ⟨v3, rfl, ho3, hb3⟩
        obtain ⟨a, cap, rfl⟩ := nil_cells (show Reads w3 v3 [] from ho3.reads)
        have hB3 := hB2.trans (hb3.mono hB2.size)
        have hz3 := hB3.size
        have ho4 := (made_nil w3).mono (b' := w.heap.size) hz3
        have hB4 := hB3.alloc hz3 (.cells #[] 3)
        clear ho3 hb3 hB2 hn2
        go_wp2_with fail
        generalize w3.alloc (.cells #[] 3) = w4 at *
        go_loopw [7, 8] (fun y x wr => y = .slice (some ⟨w3.heap.size, 0, none⟩) 0 0 ∧ x = .int .i64 0 ∧ wr = w4) (fun _ _ _ => 0)
        case atStart => exact ⟨rfl, rfl, rfl⟩
        case round =>
          obtain ⟨rfl, rfl, rfl⟩ := hrel
          go_wp2
          go_ret
          exact ⟨_, rfl, ho4, hB4⟩
    · have h0' : decide (0 < u) = false := by simpa using h0
      go_enter Try.func79, Try.ntmps79
      go_wp2_with fail
      rw [← hW]
      clear hW
      go_loopw [5, 6] (fun y x wr => y = .slice (some ⟨w.heap.size + 1, 0, none⟩) 0 0 ∧ x = .int .i64 0 ∧ wr = W) (fun _ _ _ => 0)
      case atStart => exact ⟨rfl, rfl, rfl⟩
      case round =>
        obtain ⟨rfl, rfl, rfl⟩ := hrel
        go_wp2_with fail
        refine (l2Sorted_any _ [] _ hnil.reads (by simp)).mono ?_; rintro e w3 ⟨v3, rfl, ho3, hb3⟩
        obtain ⟨a, cap, rfl⟩ := nil_cells (show Reads w3 v3 [] from ho3.reads)
        have hB3 := hBW.trans (hb3.mono hBW.size)
        have hz3 := hB3.size
        have ho4 := (made_nil w3).mono (b' := w.heap.size) hz3
        have hB4 := hB3.alloc hz3 (.cells #[] 3)
        clear ho3 hb3 hBW hnil
        go_wp2_with fail
        generalize w3.alloc (.cells #[] 3) = w4 at *
        go_loopw [7, 8] (fun y x wr => y = .slice (some ⟨w3.heap.size, 0, none⟩) 0 0 ∧ x = .int .i64 0 ∧ wr = w4) (fun _ _ _ => 0)
        case atStart => exact ⟨rfl, rfl, rfl⟩
        case round =>
          obtain ⟨rfl, rfl, rfl⟩ := hrel
          go_wp2
          go_ret
          exact ⟨_, rfl, ho4, hB4⟩
end Go.Proofs.Ytppahekbgbbidac
