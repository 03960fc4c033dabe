/- Contracts of chapter 8's functions of the model. -/
import Derived.Test.YtppahekbgbbidacPlaceF
import Derived.Test.YtppahekbgbbidacGList
set_option linter.unusedVariables false
namespace Go.Proofs.Ytppahekbgbbidac

set_option maxRecDepth 4000
open Go.ChangeShapes Go.WideShapes Go.ChangeAt Go.RowKit Go.Joins

set_option maxHeartbeats 2000000 in
theorem specPlaceOfOne_any (n s q : Int) (w : World) :
    Calls Try.prog 55 #[(.agg #[.int .i64 (n), .int .i64 (s)]), .int .i64 q] w fun e w' => e = .returned (.int .i64 (oneF n s q)) ∧ Below w.heap.size w w' := by
  
  by_cases ht : tok n s = true
  · have hb := tok_bd ht
    by_cases hm : 1 ≤ q ∧ q ≤ s
    · obtain ⟨h0, h1⟩ := hm
      obtain ⟨q, rfl⟩ := Int.eq_ofNat_of_zero_le (by omega : 0 ≤ q)
      rw [oneF_yes ht h0 h1, Int.toNat_natCast]
      have HT := Lib.hid ht
      have HF : Hid (∀ k, flN n.toNat s.toNat k < q → q ≤ flN n.toNat s.toNat (k + 1) → oneAt n.toNat s.toNat q = k + 1) := fun k a b => oneAt_of (by omega) (by omega) a b
      have HA : Hid (flN n.toNat s.toNat n.toNat = s.toNat) := fl_all (by omega)
      go_enter Try.func55, Try.ntmps55
      go_wp2_with fail
      refine (specTurnOk_any _ _ _).mono ?_; rintro e w1 ⟨rfl, hb1⟩
      have hz1 := hb1.size
      try simp at hz1
      have t1 : Two w1 (w.heap.size) (.int .i64 n) (.int .i64 s) 24 := Two.below (by repeat (first | assumption | exact Two.new' _ _ _ _ _ (by simp) | refine Two.alloc ?_ _ | refine Two.drewN ?_ _)) hb1 (by first | omega | (simp <;> omega))
      have hlt1 : (w.heap.size) < w1.heap.size := t1.lt
      have hnt1 : ¬ (w.heap.size) = w1.heap.size := Nat.ne_of_lt hlt1
      have t1c := t1.cell0
      have t1d := t1.cell1
      rw [ht]
      clear ht
      go_wp2_with fail
      refine (l1In_any _ _ _ _).mono ?_; rintro e w2 ⟨rfl, rfl⟩
      rw [decide_eq_true h0, decide_eq_true h1]
      go_wp2_with fail
      go_loopw [5, 6] (fun y x wr => ∃ k : Nat, x = .int .i64 k ∧ y = .int .i64 (flN n.toNat s.toNat k : Nat) ∧ k ≤ n.toNat ∧ flN n.toNat s.toNat k < q ∧ flN n.toNat s.toNat k ≤ k ∧ Two wr w.heap.size (.int .i64 n) (.int .i64 s) 24 ∧ Below w.heap.size w wr) (fun _ x _ => n.toNat - (intOf x).toNat)
      case atStart =>
        have e0 : flN n.toNat s.toNat 0 = 0 := by unfold flN; simp
        exact ⟨0, rfl, by rw [e0]; rfl, by omega, by omega, by omega, t1, (by repeat (first | exact Below.refl _ _ | assumption | (refine Below.trans ?_ (Below.mono (by assumption) (by first | omega | (simp <;> omega)))) | (refine Below.alloc ?_ (by first | omega | (simp <;> omega)) _) | (refine below_drewN ?_ _) | (refine Below.drew ?_) | (refine Below.setCell ?_ (by first | omega | (simp <;> omega)) _)))⟩
      case round =>
        obtain ⟨k, rfl, rfl, hk, hlt, hf, t3, hB3⟩ := hrel
        have c0 := t3.cell0
        have c1 := t3.cell1
        have l3 := t3.lt
        clear t1 hb1
        by_cases hkm : k < n.toNat
        · have hkm' : (k : Int) < n := by omega
          have hs := fl_succ (n := n.toNat) (s := s.toNat) (by omega) (by omega) k
          have hfk := HF.out k hlt
          go_wp2_with fail
          refine (l5Letter_int n s _ _ HT.out (by omega) (by omega)).mono ?_; rintro e w4 ⟨rfl, hb4⟩
          rw [Int.toNat_natCast]
          have t4 := t3.below hb4 l3
          have hB4 := hB3.trans (hb4.mono hB3.size)
          clear hb4 t3 hB3 c0 c1
          cases hL : letN n.toNat s.toNat k with
          | false =>
            rw [hL] at hs
            have hs' : flN n.toNat s.toNat (k + 1) = flN n.toNat s.toNat k := hs
            have e : txtB [false] = ⟨#[48]⟩ := rfl
            rw [e]
            have hne : (((flN n.toNat s.toNat k : Nat) : Int) == (q : Int)) = false := by simp; omega
            clear hfk
            go_wp2_with fail
            go_roundw
            case rel => exact ⟨k + 1, by go_num, by rw [hs'], by omega, by omega, by omega, t4, hB4⟩
            case measure => simp only [intOf]; omega
          | true =>
            rw [hL] at hs
            have hs' : flN n.toNat s.toNat (k + 1) = flN n.toNat s.toNat k + 1 := hs
            have e : txtB [true] = ⟨#[49]⟩ := rfl
            rw [e]
            rw [hs'] at hfk
            by_cases hq : flN n.toNat s.toNat k + 1 = q
            · have hE := Lib.hid (hfk (by omega))
              have heq : ((flN n.toNat s.toNat k : Nat) : Int) + 1 = (q : Int) := by omega
              clear hfk hs
              go_wp2
              go_ret
              exact ⟨ret_int (by rw [hE.out]; omega), hB4⟩
            · have hne : (((flN n.toNat s.toNat k : Nat) : Int) + 1 == (q : Int)) = false := by simp; omega
              clear hfk
              go_wp2_with fail
              go_roundw
              case rel => exact ⟨k + 1, by go_num, by rw [hs']; go_num, by omega, by omega, by omega, t4, hB4⟩
              case measure => simp only [intOf]; omega
        · have := HA.out
          obtain rfl : k = n.toNat := by omega
          omega
    · have e := oneF_no (n := n) (s := s) (k := q) (by omega)
      have e2 : (decide (1 ≤ q) && decide (q ≤ s)) = false := by
        rw [← Bool.decide_and]
        exact decide_eq_false hm
      rw [e]
      go_enter Try.func55, Try.ntmps55
      go_wp2_with fail
      refine (specTurnOk_any _ _ _).mono ?_; rintro e w1 ⟨rfl, hb1⟩
      have hz1 := hb1.size
      try simp at hz1
      have t1 : Two w1 (w.heap.size) (.int .i64 n) (.int .i64 s) 24 := Two.below (by repeat (first | assumption | exact Two.new' _ _ _ _ _ (by simp) | refine Two.alloc ?_ _ | refine Two.drewN ?_ _)) hb1 (by first | omega | (simp <;> omega))
      have hlt1 : (w.heap.size) < w1.heap.size := t1.lt
      have hnt1 : ¬ (w.heap.size) = w1.heap.size := Nat.ne_of_lt hlt1
      have t1c := t1.cell0
      have t1d := t1.cell1
      rw [ht]
      go_wp2_with fail
      refine (l1In_any _ _ _ _).mono ?_; rintro e w2 ⟨rfl, rfl⟩
      rw [e2]
      go_wp2
      go_ret
      exact ⟨rfl, (by repeat (first | exact Below.refl _ _ | assumption | (refine Below.trans ?_ (Below.mono (by assumption) (by first | omega | (simp <;> omega)))) | (refine Below.alloc ?_ (by first | omega | (simp <;> omega)) _) | (refine below_drewN ?_ _) | (refine Below.drew ?_) | (refine Below.setCell ?_ (by first | omega | (simp <;> omega)) _)))⟩
  · have e := oneF_no (n := n) (s := s) (k := q) (by simp [ht])
    have ht' : tok n s = false := by simpa using ht
    rw [e]
    go_enter Try.func55, Try.ntmps55
    go_wp2_with fail
    refine (specTurnOk_any _ _ _).mono ?_; rintro e w1 ⟨rfl, hb1⟩
    have hz1 := hb1.size
    try simp at hz1
    have t1 : Two w1 (w.heap.size) (.int .i64 n) (.int .i64 s) 24 := Two.below (by repeat (first | assumption | exact Two.new' _ _ _ _ _ (by simp) | refine Two.alloc ?_ _ | refine Two.drewN ?_ _)) hb1 (by first | omega | (simp <;> omega))
    have hlt1 : (w.heap.size) < w1.heap.size := t1.lt
    have hnt1 : ¬ (w.heap.size) = w1.heap.size := Nat.ne_of_lt hlt1
    have t1c := t1.cell0
    have t1d := t1.cell1
    rw [ht']
    go_wp2
    go_ret
    exact ⟨rfl, (by repeat (first | exact Below.refl _ _ | assumption | (refine Below.trans ?_ (Below.mono (by assumption) (by first | omega | (simp <;> omega)))) | (refine Below.alloc ?_ (by first | omega | (simp <;> omega)) _) | (refine below_drewN ?_ _) | (refine Below.drew ?_) | (refine Below.setCell ?_ (by first | omega | (simp <;> omega)) _)))⟩

end Go.Proofs.Ytppahekbgbbidac
