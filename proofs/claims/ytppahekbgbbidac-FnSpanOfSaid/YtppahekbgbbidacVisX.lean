/- Contracts of chapter 6: the span and the excess by few points, of the program and of the model. -/
import Derived.Test.YtppahekbgbbidacGVisI
set_option linter.unusedVariables false
namespace Go.Proofs.Ytppahekbgbbidac

set_option maxRecDepth 4000
open N
open Go.ChangeShapes Go.WideShapes Go.ChangeAt Go.RowKit Go.Joins

set_option maxHeartbeats 1000000 in
theorem spanOf_any (n s u : Int) (w : World) :
    Calls Try.prog 24 #[(.agg #[.int .i64 (n), .int .i64 (s)]), .int .i64 u] w fun e w' => e = .returned (.int .i64 (spanF n s u)) ∧ Below w.heap.size w w' := by
  
  by_cases h : tok n s = true ∧ 0 ≤ u ∧ u ≤ n
  · obtain ⟨ht, u0, u1⟩ := h
    have hb := tok_bd ht
    obtain ⟨N, rfl⟩ := Int.eq_ofNat_of_zero_le (by omega : 0 ≤ n)
    have E1 := upF_yes ht u0 u1
    have E := Lib.hid (show spanF (N : Int) s u = hiE N s u (N + 1) - loE N s u (N + 1) from spanF_yes ht u0 u1)
    have HX := Lib.hid (fun (k : Nat) (h : (k : Int) ≤ N) => excF_yes ht (by omega : (0 : Int) ≤ k) h u0 u1)
    have hwn : IntKind.i64.wrap ((N : Int) + 1) = (N : Int) + 1 := IntWalk.i64_in _ (by omega)
    clear ht
    
    go_enter Try.func24, Try.ntmps24
    go_wp2_with fail
    refine (upToSize_any _ _ _ _).mono ?_; rintro e w1 ⟨rfl, hb1⟩
    have hz1 := hb1.size
    try simp at hz1
    have t1 : Two w1 (w.heap.size) (.int .i64 N) (.int .i64 s) 24 := Two.below (by repeat (first | assumption | exact Two.new' _ _ _ _ _ (by simp) | refine Two.alloc ?_ _ | refine Two.drewN ?_ _)) hb1 (by first | omega | (simp <;> omega))
    have hlt1 : (w.heap.size) < w1.heap.size := t1.lt
    have hnt1 : ¬ (w.heap.size) = w1.heap.size := Nat.ne_of_lt hlt1
    have t1c := t1.cell0
    have t1d := t1.cell1
    rw [E1]
    have hB1 : Below w.heap.size w w1 := (by repeat (first | exact Below.refl _ _ | assumption | (refine Below.trans ?_ (Below.mono (by assumption) (by first | omega | (simp <;> omega)))) | (refine Below.alloc ?_ (by first | omega | (simp <;> omega)) _) | (refine below_drewN ?_ _) | (refine Below.drew ?_) | (refine Below.setCell ?_ (by first | omega | (simp <;> omega)) _)))
    clear hb1
    go_wp2_with fail
    go_loopw [5, 6, 17] (fun x y z wr => ∃ k : Nat, x = .int .i64 (loE N s u k) ∧ y = .int .i64 (hiE N s u k) ∧ z = .int .i64 k ∧ k ≤ N + 1 ∧ Below w1.heap.size w1 wr) (fun _ _ z _ => N + 1 - (intOf z).toNat)
    case atStart => exact ⟨0, rfl, rfl, rfl, by omega, Below.refl _ _⟩
    case round =>
      obtain ⟨k, rfl, rfl, rfl, hk, hB⟩ := hrel
      by_cases hkm : k < N + 1
      · have hkm' : (k : Int) < (N : Int) + 1 := by omega
        have t2 := t1.below hB hlt1
        have t2c := t2.cell0
        have t2d := t2.cell1
        have hL := Lib.hid (show loE N s u (k + 1) = min (loE N s u k) (exC N s u k) from rfl)
        have hH := Lib.hid (show hiE N s u (k + 1) = max (hiE N s u k) (exC N s u k) from rfl)
        have hv := HX.out k (by omega)
        rw [Int.toNat_natCast] at hv
        generalize exC N s u k = x at *
        generalize loE N s u k = y at *
        generalize hiE N s u k = z at *
        have hv' := Lib.hid hv
        clear hv
        go_wp2_with fail
        refine (excessOf_any _ _ _ _ _).mono ?_; rintro e w3 ⟨rfl, hb3⟩
        rw [hv'.out]
        have hB3 := hB.trans (hb3.mono hB.size)
        clear hb3 hB
        go_wp2_with fail
        go_roundw
        case rel => exact ⟨k + 1, by rw [hL.out]; congr 1; split <;> omega, by rw [hH.out]; congr 1; split <;> omega, by go_num, by omega, hB3⟩
        case measure => simp only [intOf]; omega
      · have hkm' : decide ((k : Int) < (N : Int) + 1) = false := by simp; omega
        obtain rfl : k = N + 1 := by omega
        have a1 := loE_bd (s := s) (by omega : (2 : Int) ≤ N) (by omega) u0 u1 (N + 1) (by omega)
        have a2 := hiE_bd (s := s) (by omega : (2 : Int) ≤ N) (by omega) u0 u1 (N + 1) (by omega)
        have hB3 := hB1.trans (hB.mono hB1.size)
        generalize loE N s u (N + 1) = y at *
        generalize hiE N s u (N + 1) = z at *
        have hwz : IntKind.i64.wrap (z - y) = z - y := IntWalk.i64_in _ (by omega)
        go_wp2
        go_ret
        exact ⟨ret_int E.out.symm, hB3⟩
  · have E1 := upF_no h
    rw [spanF_no h]
    
    go_enter Try.func24, Try.ntmps24
    go_wp2_with fail
    refine (upToSize_any _ _ _ _).mono ?_; rintro e w1 ⟨rfl, hb1⟩
    have hz1 := hb1.size
    try simp at hz1
    have t1 : Two w1 (w.heap.size) (.int .i64 n) (.int .i64 s) 24 := Two.below (by repeat (first | assumption | exact Two.new' _ _ _ _ _ (by simp) | refine Two.alloc ?_ _ | refine Two.drewN ?_ _)) hb1 (by first | omega | (simp <;> omega))
    have hlt1 : (w.heap.size) < w1.heap.size := t1.lt
    have hnt1 : ¬ (w.heap.size) = w1.heap.size := Nat.ne_of_lt hlt1
    have t1c := t1.cell0
    have t1d := t1.cell1
    rw [E1]
    go_wp2
    go_ret
    exact ⟨rfl, (by repeat (first | exact Below.refl _ _ | assumption | (refine Below.trans ?_ (Below.mono (by assumption) (by first | omega | (simp <;> omega)))) | (refine Below.alloc ?_ (by first | omega | (simp <;> omega)) _) | (refine below_drewN ?_ _) | (refine Below.drew ?_) | (refine Below.setCell ?_ (by first | omega | (simp <;> omega)) _)))⟩

set_option maxHeartbeats 1000000 in
theorem specSpanOf_any (n s u : Int) (w : World) :
    Calls Try.prog 25 #[(.agg #[.int .i64 (n), .int .i64 (s)]), .int .i64 u] w fun e w' => e = .returned (.int .i64 (spanF n s u)) ∧ Below w.heap.size w w' := by
  
  by_cases ht : tok n s = true
  · by_cases hu : (decide (0 ≤ u) && decide (u ≤ n)) = true
    · have hu' := hu
      simp at hu'
      obtain ⟨u0, u1⟩ := hu'
      have hb := tok_bd ht
      obtain ⟨N, rfl⟩ := Int.eq_ofNat_of_zero_le (by omega : 0 ≤ n)
      have E := Lib.hid (show spanF (N : Int) s u = hiE N s u (N + 1) - loE N s u (N + 1) from spanF_yes ht u0 u1)
      have HX := Lib.hid (fun (k : Nat) (h : (k : Int) ≤ N) => excF_yes ht (by omega : (0 : Int) ≤ k) h u0 u1)
      
      go_enter Try.func25, Try.ntmps25
      go_wp2_with fail
      refine (specTurnOk_any _ _ _).mono ?_; rintro e w1 ⟨rfl, hb1⟩
      have hz1 := hb1.size
      try simp at hz1
      have t1 : Two w1 (w.heap.size) (.int .i64 N) (.int .i64 s) 24 := Two.below (by repeat (first | assumption | exact Two.new' _ _ _ _ _ (by simp) | refine Two.alloc ?_ _ | refine Two.drewN ?_ _)) hb1 (by first | omega | (simp <;> omega))
      have hlt1 : (w.heap.size) < w1.heap.size := t1.lt
      have hnt1 : ¬ (w.heap.size) = w1.heap.size := Nat.ne_of_lt hlt1
      have t1c := t1.cell0
      have t1d := t1.cell1
      rw [ht]
      clear ht
      go_wp2_with fail
      refine (l1In_any _ _ _ _).mono ?_; rintro e w2 ⟨rfl, rfl⟩
      rw [hu]
      have hB1 : Below w.heap.size w w1 := (by repeat (first | exact Below.refl _ _ | assumption | (refine Below.trans ?_ (Below.mono (by assumption) (by first | omega | (simp <;> omega)))) | (refine Below.alloc ?_ (by first | omega | (simp <;> omega)) _) | (refine below_drewN ?_ _) | (refine Below.drew ?_) | (refine Below.setCell ?_ (by first | omega | (simp <;> omega)) _)))
      clear hb1 hu
      go_wp2_with fail
      go_loopw [5, 6, 7] (fun x y z wr => ∃ k : Nat, x = .int .i64 (loE N s u k) ∧ y = .int .i64 (hiE N s u k) ∧ z = .int .i64 k ∧ k ≤ N + 1 ∧ Below w1.heap.size w1 wr) (fun _ _ z _ => N + 1 - (intOf z).toNat)
      case atStart => exact ⟨0, rfl, rfl, rfl, by omega, Below.refl _ _⟩
      case round =>
        obtain ⟨k, rfl, rfl, rfl, hk, hB⟩ := hrel
        have t2 := t1.below hB hlt1
        have t2c := t2.cell0
        have t2d := t2.cell1
        by_cases hkm : k < N + 1
        · have hkm' : (k : Int) ≤ (N : Int) := by omega
          have hL := Lib.hid (show loE N s u (k + 1) = min (loE N s u k) (exC N s u k) from rfl)
          have hH := Lib.hid (show hiE N s u (k + 1) = max (hiE N s u k) (exC N s u k) from rfl)
          have hv := HX.out k (by omega)
          rw [Int.toNat_natCast] at hv
          generalize exC N s u k = x at *
          generalize loE N s u k = y at *
          generalize hiE N s u k = z at *
          have hv' := Lib.hid hv
          clear hv
          go_wp2_with fail
          refine (specExcessOf_any _ _ _ _ _).mono ?_; rintro e w3 ⟨rfl, hb3⟩
          rw [hv'.out]
          have hB3 := hB.trans (hb3.mono hB.size)
          clear hb3 hB
          go_wp2_with fail
          go_roundw
          case rel => exact ⟨k + 1, by rw [hL.out]; congr 1; split <;> omega, by rw [hH.out]; congr 1; split <;> omega, by go_num, by omega, hB3⟩
          case measure => simp only [intOf]; omega
        · have hkm' : decide ((k : Int) ≤ (N : Int)) = false := by simp; omega
          obtain rfl : k = N + 1 := by omega
          have hkm2 : decide ((N : Int) + 1 ≤ (N : Int)) = false := by simp; omega
          have a1 := loE_bd (s := s) (by omega : (2 : Int) ≤ N) (by omega) u0 u1 (N + 1) (by omega)
          have a2 := hiE_bd (s := s) (by omega : (2 : Int) ≤ N) (by omega) u0 u1 (N + 1) (by omega)
          have hB3 := hB1.trans (hB.mono hB1.size)
          generalize loE N s u (N + 1) = y at *
          generalize hiE N s u (N + 1) = z at *
          have hwz : IntKind.i64.wrap (z - y) = z - y := IntWalk.i64_in _ (by omega)
          go_wp2
          go_ret
          exact ⟨ret_int E.out.symm, hB3⟩
    · rw [spanF_no (fun h => hu (by simp; omega))]
      have hu' : (decide (0 ≤ u) && decide (u ≤ n)) = false := by simpa using hu
      
      go_enter Try.func25, Try.ntmps25
      go_wp2_with fail
      refine (specTurnOk_any _ _ _).mono ?_; rintro e w1 ⟨rfl, hb1⟩
      have hz1 := hb1.size
      try simp at hz1
      have t1 : Two w1 (w.heap.size) (.int .i64 n) (.int .i64 s) 24 := Two.below (by repeat (first | assumption | exact Two.new' _ _ _ _ _ (by simp) | refine Two.alloc ?_ _ | refine Two.drewN ?_ _)) hb1 (by first | omega | (simp <;> omega))
      have hlt1 : (w.heap.size) < w1.heap.size := t1.lt
      have hnt1 : ¬ (w.heap.size) = w1.heap.size := Nat.ne_of_lt hlt1
      have t1c := t1.cell0
      have t1d := t1.cell1
      rw [ht]
      go_wp2_with fail
      refine (l1In_any _ _ _ _).mono ?_; rintro e w2 ⟨rfl, rfl⟩
      rw [hu']
      go_wp2
      go_ret
      exact ⟨rfl, (by repeat (first | exact Below.refl _ _ | assumption | (refine Below.trans ?_ (Below.mono (by assumption) (by first | omega | (simp <;> omega)))) | (refine Below.alloc ?_ (by first | omega | (simp <;> omega)) _) | (refine below_drewN ?_ _) | (refine Below.drew ?_) | (refine Below.setCell ?_ (by first | omega | (simp <;> omega)) _)))⟩
  · rw [spanF_no (fun h => ht h.1)]
    have ht' : tok n s = false := by simpa using ht
    go_enter Try.func25, Try.ntmps25
    go_wp2_with fail
    refine (specTurnOk_any _ _ _).mono ?_; rintro e w1 ⟨rfl, hb1⟩
    have hz1 := hb1.size
    try simp at hz1
    have t1 : Two w1 (w.heap.size) (.int .i64 n) (.int .i64 s) 24 := Two.below (by repeat (first | assumption | exact Two.new' _ _ _ _ _ (by simp) | refine Two.alloc ?_ _ | refine Two.drewN ?_ _)) hb1 (by first | omega | (simp <;> omega))
    have hlt1 : (w.heap.size) < w1.heap.size := t1.lt
    have hnt1 : ¬ (w.heap.size) = w1.heap.size := Nat.ne_of_lt hlt1
    have t1c := t1.cell0
    have t1d := t1.cell1
    rw [ht']
    go_wp2
    go_ret
    exact ⟨rfl, (by repeat (first | exact Below.refl _ _ | assumption | (refine Below.trans ?_ (Below.mono (by assumption) (by first | omega | (simp <;> omega)))) | (refine Below.alloc ?_ (by first | omega | (simp <;> omega)) _) | (refine below_drewN ?_ _) | (refine Below.drew ?_) | (refine Below.setCell ?_ (by first | omega | (simp <;> omega)) _)))⟩
end Go.Proofs.Ytppahekbgbbidac
