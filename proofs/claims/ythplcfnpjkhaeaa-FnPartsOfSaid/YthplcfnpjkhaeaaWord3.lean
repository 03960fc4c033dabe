/- Contract of the model's OnesUpTo. -/
import Derived.Test.YthplcfnpjkhaeaaWord2
set_option linter.unusedVariables false
namespace Go.Proofs.Ythplcfnpjkhaeaa
open Go.ChangeShapes Go.WideShapes Go.ChangeAt Go.RowKit Go.Joins

def onesF (n s m : Int) : Int := if tok n s = true ∧ 0 ≤ m ∧ m ≤ n then m * s / n else -1

theorem onesF_yes {n s m : Int} (h : tok n s = true) (h0 : 0 ≤ m) (h1 : m ≤ n) : onesF n s m = m * s / n := if_pos ⟨h, h0, h1⟩

theorem onesF_no {n s m : Int} (h : ¬ (tok n s = true ∧ 0 ≤ m ∧ m ≤ n)) : onesF n s m = -1 := if_neg h

theorem onesF_fl {n s : Int} {m : Nat} (h : tok n s = true) (h1 : (m : Int) ≤ n) : onesF n s m = ((flN n.toNat s.toNat m : Nat) : Int) := by
  rw [onesF_yes h (by omega) h1]
  obtain ⟨h1, _, h3, h4, _⟩ := (tok_iff n s).1 h
  obtain ⟨N, rfl⟩ := Int.eq_ofNat_of_zero_le (by omega : 0 ≤ n)
  obtain ⟨S, rfl⟩ := Int.eq_ofNat_of_zero_le (by omega : 0 ≤ s)
  unfold flN
  simp

set_option maxHeartbeats 2000000 in
theorem specOnesUpTo_any (n s m : Int) (w : World) :
    Calls Try.prog 42 #[(.agg #[.int .i64 (n), .int .i64 (s)]), .int .i64 m] w fun e w' => e = .returned (.int .i64 (onesF n s m)) ∧ Below w.heap.size w w' := by
  
  by_cases ht : tok n s = true
  · have hb := tok_bd ht
    by_cases hm : 0 ≤ m ∧ m ≤ n
    · obtain ⟨h0, h1⟩ := hm
      obtain ⟨m, rfl⟩ := Int.eq_ofNat_of_zero_le h0
      rw [onesF_fl ht h1]
      have HT := Lib.hid ht
      go_enter Try.func42, Try.ntmps42
      go_wp2_with fail
      refine (specTurnOk_any _ _ _).mono ?_; rintro e w1 ⟨rfl, hb1⟩
      have hz1 := hb1.size
      try simp at hz1
      have t1 : Two w1 (w.heap.size) (.int .i64 n) (.int .i64 s) 24 := Two.below (by repeat (first | assumption | exact Two.new' _ _ _ _ _ (by simp) | refine Two.alloc ?_ _ | refine Two.drewN ?_ _)) hb1 (by first | omega | (simp <;> omega))
      have hlt1 : (w.heap.size) < w1.heap.size := t1.lt
      have hnt1 : ¬ (w.heap.size) = w1.heap.size := Nat.ne_of_lt hlt1
      have t1c := t1.cell0
      have t1d := t1.cell1
      rw [ht]
      clear ht
      go_wp2_with fail
      refine (l1In_any _ _ _ _).mono ?_; rintro e w2 ⟨rfl, rfl⟩
      rw [decide_eq_true h0, decide_eq_true h1]
      go_wp2_with fail
      go_loopw [5, 6] (fun y x wr => ∃ k : Nat, x = .int .i64 k ∧ y = .int .i64 (flN n.toNat s.toNat k : Nat) ∧ k ≤ m ∧ flN n.toNat s.toNat k ≤ k ∧ Two wr w.heap.size (.int .i64 n) (.int .i64 s) 24 ∧ Below w.heap.size w wr) (fun _ x _ => m - (intOf x).toNat)
      case atStart =>
        have e0 : flN n.toNat s.toNat 0 = 0 := by unfold flN; simp
        exact ⟨0, rfl, by rw [e0]; rfl, by omega, by omega, t1, (by repeat (first | exact Below.refl _ _ | assumption | (refine Below.trans ?_ (Below.mono (by assumption) (by first | omega | (simp <;> omega)))) | (refine Below.alloc ?_ (by first | omega | (simp <;> omega)) _) | (refine below_drewN ?_ _) | (refine Below.drew ?_) | (refine Below.setCell ?_ (by first | omega | (simp <;> omega)) _)))⟩
      case round =>
        obtain ⟨k, rfl, rfl, hk, hf, t3, hB3⟩ := hrel
        have c0 := t3.cell0
        have c1 := t3.cell1
        have l3 := t3.lt
        clear t1 hb1
        by_cases hkm : k < m
        · have hkm' : (k : Int) < m := by omega
          have hs := fl_succ (n := n.toNat) (s := s.toNat) (by omega) (by omega) k
          go_wp2_with fail
          refine (l5Letter_int n s _ _ HT.out (by omega) (by omega)).mono ?_; rintro e w4 ⟨rfl, hb4⟩
          rw [Int.toNat_natCast]
          have t4 := t3.below hb4 l3
          have hB4 := hB3.trans (hb4.mono hB3.size)
          clear hb4 t3 hB3 c0 c1
          cases hL : letN n.toNat s.toNat k with
          | false =>
            rw [hL] at hs
            have hs' : flN n.toNat s.toNat (k + 1) = flN n.toNat s.toNat k := hs
            have e : txtB [false] = ⟨#[48]⟩ := rfl
            rw [e]
            go_wp2_with fail
            go_roundw
            case rel => exact ⟨k + 1, by go_num, by rw [hs'], by omega, by omega, t4, hB4⟩
            case measure => simp only [intOf]; omega
          | true =>
            rw [hL] at hs
            have hs' : flN n.toNat s.toNat (k + 1) = flN n.toNat s.toNat k + 1 := hs
            have e : txtB [true] = ⟨#[49]⟩ := rfl
            rw [e]
            go_wp2_with fail
            go_roundw
            case rel => exact ⟨k + 1, by go_num, by rw [hs']; go_num, by omega, by omega, t4, hB4⟩
            case measure => simp only [intOf]; omega
        · obtain rfl : k = m := by omega
          have hkm' : decide ((k : Int) < k) = false := by simp
          go_wp2
          go_ret
          exact ⟨rfl, hB3⟩
    · have e := onesF_no (n := n) (s := s) (m := m) (by omega)
      have e2 : (decide (0 ≤ m) && decide (m ≤ n)) = false := by
        rw [← Bool.decide_and]
        exact decide_eq_false hm
      rw [e]
      go_enter Try.func42, Try.ntmps42
      go_wp2_with fail
      refine (specTurnOk_any _ _ _).mono ?_; rintro e w1 ⟨rfl, hb1⟩
      have hz1 := hb1.size
      try simp at hz1
      have t1 : Two w1 (w.heap.size) (.int .i64 n) (.int .i64 s) 24 := Two.below (by repeat (first | assumption | exact Two.new' _ _ _ _ _ (by simp) | refine Two.alloc ?_ _ | refine Two.drewN ?_ _)) hb1 (by first | omega | (simp <;> omega))
      have hlt1 : (w.heap.size) < w1.heap.size := t1.lt
      have hnt1 : ¬ (w.heap.size) = w1.heap.size := Nat.ne_of_lt hlt1
      have t1c := t1.cell0
      have t1d := t1.cell1
      rw [ht]
      go_wp2_with fail
      refine (l1In_any _ _ _ _).mono ?_; rintro e w2 ⟨rfl, rfl⟩
      rw [e2]
      go_wp2
      go_ret
      exact ⟨rfl, (by repeat (first | exact Below.refl _ _ | assumption | (refine Below.trans ?_ (Below.mono (by assumption) (by first | omega | (simp <;> omega)))) | (refine Below.alloc ?_ (by first | omega | (simp <;> omega)) _) | (refine below_drewN ?_ _) | (refine Below.drew ?_) | (refine Below.setCell ?_ (by first | omega | (simp <;> omega)) _)))⟩
  · have e := onesF_no (n := n) (s := s) (m := m) (by simp [ht])
    have ht' : tok n s = false := by simpa using ht
    rw [e]
    go_enter Try.func42, Try.ntmps42
    go_wp2_with fail
    refine (specTurnOk_any _ _ _).mono ?_; rintro e w1 ⟨rfl, hb1⟩
    have hz1 := hb1.size
    try simp at hz1
    have t1 : Two w1 (w.heap.size) (.int .i64 n) (.int .i64 s) 24 := Two.below (by repeat (first | assumption | exact Two.new' _ _ _ _ _ (by simp) | refine Two.alloc ?_ _ | refine Two.drewN ?_ _)) hb1 (by first | omega | (simp <;> omega))
    have hlt1 : (w.heap.size) < w1.heap.size := t1.lt
    have hnt1 : ¬ (w.heap.size) = w1.heap.size := Nat.ne_of_lt hlt1
    have t1c := t1.cell0
    have t1d := t1.cell1
    rw [ht']
    go_wp2
    go_ret
    exact ⟨rfl, (by repeat (first | exact Below.refl _ _ | assumption | (refine Below.trans ?_ (Below.mono (by assumption) (by first | omega | (simp <;> omega)))) | (refine Below.alloc ?_ (by first | omega | (simp <;> omega)) _) | (refine below_drewN ?_ _) | (refine Below.drew ?_) | (refine Below.setCell ?_ (by first | omega | (simp <;> omega)) _)))⟩
end Go.Proofs.Ythplcfnpjkhaeaa
