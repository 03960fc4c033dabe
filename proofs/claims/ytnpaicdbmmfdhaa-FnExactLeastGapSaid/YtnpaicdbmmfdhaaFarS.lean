/- Contracts of chapter 11's functions of the model. -/
import Derived.Test.YtnpaicdbmmfdhaaSpread
import Derived.Test.YtnpaicdbmmfdhaaSpreadG
import Derived.Test.YtnpaicdbmmfdhaaGVisI
import Derived.BigQuiet
import Derived.Deep.RegionHeld3
set_option linter.unusedVariables false
namespace Go.Proofs.Ytnpaicdbmmfdhaa

set_option maxRecDepth 4000
open Go.ChangeShapes Go.WideShapes Go.ChangeAt Go.RowKit Go.Joins

theorem maxI_hi {f : Nat → Int} {B : Int} (h0 : 0 ≤ B) (k : Nat) (h : ∀ j, j < k → f j ≤ B ∧ -B ≤ f j) : maxI f k ≤ B := maxI_le h0 k h

set_option maxHeartbeats 4000000 in
theorem specFarOf_any (n s m : Int) (w : World) :
    Calls Try.prog 13 #[(.agg #[.int .i64 (n), .int .i64 (s)]), .int .i64 m] w fun e w' => e = .returned (.int .i64 (farF n s m)) ∧ Below w.heap.size w w' := by
  
  by_cases ht : tok n s = true
  · cases hm : (decide (0 ≤ m) && decide (m ≤ n)) with
    | true =>
      have hm' := hm
      simp at hm'
      obtain ⟨N, S, rfl, rfl, hN⟩ := tokN_of ht
      obtain ⟨M, rfl⟩ := Int.eq_ofNat_of_zero_le hm'.1
      
      obtain ⟨b1, b2, b3, b4, _⟩ := tokN_bd hN
      have hMN : M ≤ N := by omega
      rw [farF_yes hN hMN]
      have HE := Lib.hid (fun (k : Nat) (hk : k ≤ N) w => (specExcessOf_any (N : Int) (S : Int) (M : Int) (k : Int) w).mono (R' := fun e w' => e = .returned (.tuple #[.int .i64 (exC N S k M), .bool true]) ∧ Below w.heap.size w w') (fun e w' h => by
        rw [excF_yes ht (by omega) (by omega) (by omega) (by omega), excT_yes ht (by omega) (by omega) (by omega) (by omega)] at h
        exact h))
      have HB := Lib.hid (fun (k : Nat) (hk : k ≤ N) => exC_bd (n := (N : Int)) (s := (S : Int)) (w := k) (by omega) (by omega) (by omega) (by omega) (m := M) (by omega))
      have HX := Lib.hid (fun (k : Nat) (hk : k ≤ N + 1) => maxI_hi (f := fun w => exC N S (w : Int) M) (B := 3600) (by omega) k (fun j hj => by have := HB.out j (by omega); omega))
      have HP := Lib.hid (maxI_pos (fun w => exC N S (w : Int) M))
      have HSu : Hid (∀ k, maxI (fun w => exC N S (w : Int) M) (k + 1) = max (maxI (fun w => exC N S (w : Int) M) k) (max (exC N S (k : Int) M) (-(exC N S (k : Int) M)))) := fun k => rfl
      have H0 : Hid (maxI (fun w => exC N S (w : Int) M) 0 = 0) := rfl
      generalize hf : (fun w : Nat => exC N S (w : Int) M) = f at *
      clear hN hf
      go_enter Try.func13, Try.ntmps13
      go_wp2_with fail
      refine (specTurnOk_any _ _ _).mono ?_; rintro e w1 ⟨rfl, hb1⟩
      have hz1 := hb1.size
      try simp at hz1
      have t1 : Two w1 (w.heap.size) (.int .i64 N) (.int .i64 S) 24 := Two.below (by repeat (first | assumption | exact Two.new' _ _ _ _ _ (by simp) | refine Two.alloc ?_ _ | refine Two.drewN ?_ _)) hb1 (by first | omega | (simp <;> omega))
      have hlt1 : (w.heap.size) < w1.heap.size := t1.lt
      have hnt1 : ¬ (w.heap.size) = w1.heap.size := Nat.ne_of_lt hlt1
      have t1c := t1.cell0
      have t1d := t1.cell1
      rw [ht]
      go_wp2_with fail
      refine (l1In_any _ _ _ _).mono ?_; rintro e w2 ⟨rfl, rfl⟩
      rw [hm]
      have hB1 : Below w.heap.size w w1 := (by repeat (first | exact Below.refl _ _ | assumption | (refine Below.trans ?_ (Below.mono (by assumption) (by first | omega | (simp <;> omega)))) | (refine Below.alloc ?_ (by first | omega | (simp <;> omega)) _) | (refine below_drewN ?_ _) | (refine Below.drew ?_) | (refine Below.setCell ?_ (by first | omega | (simp <;> omega)) _)))
      clear hb1 ht hm hm'
      go_wp2_with fail
      go_loopw [5, 6] (fun x y wr => ∃ k : Nat, x = .int .i64 (maxI f k) ∧ y = .int .i64 k ∧ k ≤ N + 1 ∧ Below w1.heap.size w1 wr) (fun _ y _ => N + 1 - (intOf y).toNat)
      case atStart => exact ⟨0, by rw [H0.out], rfl, by omega, Below.refl _ _⟩
      case round =>
        obtain ⟨k, rfl, rfl, hk, hBr⟩ := hrel
        have tr := t1.below hBr hlt1
        have trc := tr.cell0
        have trd := tr.cell1
        have hBw := hB1.trans (hBr.mono hB1.size)
        by_cases hkn : k ≤ N
        · have hkn' : (k : Int) ≤ N := by omega
          have hcall := HE.out k hkn wr
          have hb := HB.out k hkn
          have hx := HX.out k hk
          have hx0 := HP.out k
          have hsu := Lib.hid (HSu.out k)
          generalize exC N S (k : Int) M = X at *
          generalize maxI f k = F at *
          have hw : IntKind.i64.wrap (-X) = -X := IntWalk.i64_in _ (by omega)
          obtain ⟨Y, hY⟩ : ∃ Y, max X (-X) = Y := ⟨_, rfl⟩
          have hY' : (if X < -X then -X else X) = Y := by split <;> omega
          obtain ⟨Z, hZ⟩ : ∃ Z, max F Y = Z := ⟨_, rfl⟩
          have hZ' : (if F < Y then Y else F) = Z := by split <;> omega
          rw [hY, hZ] at hsu
          go_wp2_with fail
          refine hcall.mono ?_; rintro e w4 ⟨rfl, hb4⟩
          have hB4 := hBr.trans (hb4.mono hBr.size)
          clear hcall hb4 hBr hBw tr trc trd
          go_wp2_with fail
          go_roundw
          case rel => exact ⟨k + 1, by rw [hsu.out], by go_num, by omega, hB4⟩
          case measure => simp only [intOf]; omega
        · have hkn' : decide ((k : Int) ≤ N) = false := decide_eq_false (by omega)
          have hkn2 : decide (k ≤ N) = false := decide_eq_false hkn
          obtain rfl : k = N + 1 := by omega
          go_wp2
          go_ret
          exact ⟨rfl, hBw⟩
    | false =>
      
      have hno : ¬ farOkF n s m = true := fun h => by
        obtain ⟨_, a, b⟩ := farOk_iff.1 h
        simp [a, b] at hm
      rw [farF_no hno]
      go_enter Try.func13, Try.ntmps13
      go_wp2_with fail
      refine (specTurnOk_any _ _ _).mono ?_; rintro e w1 ⟨rfl, hb1⟩
      have hz1 := hb1.size
      try simp at hz1
      have t1 : Two w1 (w.heap.size) (.int .i64 n) (.int .i64 s) 24 := Two.below (by repeat (first | assumption | exact Two.new' _ _ _ _ _ (by simp) | refine Two.alloc ?_ _ | refine Two.drewN ?_ _)) hb1 (by first | omega | (simp <;> omega))
      have hlt1 : (w.heap.size) < w1.heap.size := t1.lt
      have hnt1 : ¬ (w.heap.size) = w1.heap.size := Nat.ne_of_lt hlt1
      have t1c := t1.cell0
      have t1d := t1.cell1
      rw [ht]
      go_wp2_with fail
      refine (l1In_any _ _ _ _).mono ?_; rintro e w2 ⟨rfl, rfl⟩
      rw [hm]
      go_wp2
      go_ret
      exact ⟨rfl, (by repeat (first | exact Below.refl _ _ | assumption | (refine Below.trans ?_ (Below.mono (by assumption) (by first | omega | (simp <;> omega)))) | (refine Below.alloc ?_ (by first | omega | (simp <;> omega)) _) | (refine below_drewN ?_ _) | (refine Below.drew ?_) | (refine Below.setCell ?_ (by first | omega | (simp <;> omega)) _)))⟩
  · 
    have ht' : tok n s = false := by simpa using ht
    rw [farF_no (fun h => ht (farOk_iff.1 h).1)]
    go_enter Try.func13, Try.ntmps13
    go_wp2_with fail
    refine (specTurnOk_any _ _ _).mono ?_; rintro e w1 ⟨rfl, hb1⟩
    have hz1 := hb1.size
    try simp at hz1
    have t1 : Two w1 (w.heap.size) (.int .i64 n) (.int .i64 s) 24 := Two.below (by repeat (first | assumption | exact Two.new' _ _ _ _ _ (by simp) | refine Two.alloc ?_ _ | refine Two.drewN ?_ _)) hb1 (by first | omega | (simp <;> omega))
    have hlt1 : (w.heap.size) < w1.heap.size := t1.lt
    have hnt1 : ¬ (w.heap.size) = w1.heap.size := Nat.ne_of_lt hlt1
    have t1c := t1.cell0
    have t1d := t1.cell1
    rw [ht']
    go_wp2
    go_ret
    exact ⟨rfl, (by repeat (first | exact Below.refl _ _ | assumption | (refine Below.trans ?_ (Below.mono (by assumption) (by first | omega | (simp <;> omega)))) | (refine Below.alloc ?_ (by first | omega | (simp <;> omega)) _) | (refine below_drewN ?_ _) | (refine Below.drew ?_) | (refine Below.setCell ?_ (by first | omega | (simp <;> omega)) _)))⟩

set_option maxHeartbeats 4000000 in
theorem specFarFrom_any (n s m u : Int) (w : World) :
    Calls Try.prog 20 #[(.agg #[.int .i64 (n), .int .i64 (s)]), .int .i64 m, .int .i64 u] w fun e w' => e = .returned (.int .i64 (fromFF n s m u)) ∧ Below w.heap.size w w' := by
  
  by_cases ht : tok n s = true
  · cases hm : (decide (0 ≤ m) && decide (m ≤ n)) with
    | true =>
      have hm' := hm
      simp at hm'
      cases hu : (decide (0 ≤ u) && decide (u ≤ n)) with
      | true =>
        have hu' := hu
        simp at hu'
        obtain ⟨N, S, rfl, rfl, hN⟩ := tokN_of ht
        obtain ⟨M, rfl⟩ := Int.eq_ofNat_of_zero_le hm'.1
        obtain ⟨U, rfl⟩ := Int.eq_ofNat_of_zero_le hu'.1
        
        obtain ⟨b1, b2, b3, b4, _⟩ := tokN_bd hN
        have hMN : M ≤ N := by omega
        have hUN : U ≤ N := by omega
        rw [fromFF_yes hN hMN hUN]
        have HE := Lib.hid (fun (k : Nat) (hk : k < N) w => (specVisitsIn_any (N : Int) (S : Int) (M : Int) (k : Int) (U : Int) w).mono (R' := fun e w' => e = .returned (.int .i64 (visC N S k U M : Nat)) ∧ Below w.heap.size w w') (fun e w' h => by
          rw [visF_yes ht (by omega) (by omega) (by omega) (by omega) (by omega) (by omega), Int.toNat_natCast] at h
          exact h))
        have HB : Hid (∀ k : Nat, visC N S k U M ≤ 60) := fun k => Nat.le_trans (visC_le N S k U M) (by omega)
        have HD : Hid (∀ k : Nat, (N : Int) * ((visC N S k U M : Nat) : Int) - (M : Int) * (U : Int) = devI N S k U M) := fun k => rfl
        have mu0 : 0 ≤ (M : Int) * (U : Int) := Int.mul_nonneg (by omega) (by omega)
        have mu1 : (M : Int) * (U : Int) ≤ 60 * 60 := Int.mul_le_mul (by omega) (by omega) (by omega) (by omega)
        have HDb : Hid (∀ k : Nat, 0 ≤ (N : Int) * ((visC N S k U M : Nat) : Int) ∧ (N : Int) * ((visC N S k U M : Nat) : Int) ≤ 3600) := fun k => ⟨Int.mul_nonneg (by omega) (by omega), by
          have : (N : Int) * ((visC N S k U M : Nat) : Int) ≤ 60 * 60 := Int.mul_le_mul (by omega) (by have := HB.out k; omega) (by omega) (by omega)
          omega⟩
        have HX := Lib.hid (fun (k : Nat) => maxI_hi (f := fun x => devI N S (x : Int) U M) (B := 3600) (by omega) k (fun j hj => by have := HDb.out j; have e := HD.out j; show devI N S (j : Int) U M ≤ 3600 ∧ _ ≤ devI N S (j : Int) U M; rw [← e]; omega))
        have HP := Lib.hid (maxI_pos (fun x => devI N S (x : Int) U M))
        have HSu : Hid (∀ k, maxI (fun x => devI N S (x : Int) U M) (k + 1) = max (maxI (fun x => devI N S (x : Int) U M) k) (max (devI N S (k : Int) U M) (-(devI N S (k : Int) U M)))) := fun k => rfl
        have H0 : Hid (maxI (fun x => devI N S (x : Int) U M) 0 = 0) := rfl
        generalize hf : (fun x : Nat => devI N S (x : Int) U M) = f at *
        clear hN hf
        go_enter Try.func20, Try.ntmps20
        go_wp2_with fail
        refine (specTurnOk_any _ _ _).mono ?_; rintro e w1 ⟨rfl, hb1⟩
        have hz1 := hb1.size
        try simp at hz1
        have t1 : Two w1 (w.heap.size) (.int .i64 N) (.int .i64 S) 24 := Two.below (by repeat (first | assumption | exact Two.new' _ _ _ _ _ (by simp) | refine Two.alloc ?_ _ | refine Two.drewN ?_ _)) hb1 (by first | omega | (simp <;> omega))
        have hlt1 : (w.heap.size) < w1.heap.size := t1.lt
        have hnt1 : ¬ (w.heap.size) = w1.heap.size := Nat.ne_of_lt hlt1
        have t1c := t1.cell0
        have t1d := t1.cell1
        rw [ht]
        go_wp2_with fail
        refine (l1In_any _ _ _ _).mono ?_; rintro e w2 ⟨rfl, rfl⟩
        rw [hm]
        go_wp2_with fail
        refine (l1In_any _ _ _ _).mono ?_; rintro e w2 ⟨rfl, rfl⟩
        rw [hu]
        have hB1 : Below w.heap.size w w1 := (by repeat (first | exact Below.refl _ _ | assumption | (refine Below.trans ?_ (Below.mono (by assumption) (by first | omega | (simp <;> omega)))) | (refine Below.alloc ?_ (by first | omega | (simp <;> omega)) _) | (refine below_drewN ?_ _) | (refine Below.drew ?_) | (refine Below.setCell ?_ (by first | omega | (simp <;> omega)) _)))
        have hwm : IntKind.i64.wrap ((M : Int) * (U : Int)) = (M : Int) * (U : Int) := IntWalk.i64_in _ (by omega)
        clear hb1 ht hm hm' hu hu'
        go_wp2_with fail
        go_loopw [7, 8] (fun x y wr => ∃ k : Nat, x = .int .i64 (maxI f k) ∧ y = .int .i64 k ∧ k ≤ N ∧ Below w1.heap.size w1 wr) (fun _ y _ => N - (intOf y).toNat)
        case atStart => exact ⟨0, by rw [H0.out], rfl, by omega, Below.refl _ _⟩
        case round =>
          obtain ⟨k, rfl, rfl, hk, hBr⟩ := hrel
          have tr := t1.below hBr hlt1
          have hltr := tr.lt
          have trc := tr.cell0
          have trd := tr.cell1
          have hBw := hB1.trans (hBr.mono hB1.size)
          by_cases hkn : k < N
          · have hkn' : (k : Int) < N := by omega
            have hcall := Lib.hid (HE.out k hkn)
            have hdb := HDb.out k
            have hd := HD.out k
            have hx := HX.out k
            have hx0 := HP.out k
            have hsu := Lib.hid (HSu.out k)
            generalize hV : ((visC N S k U M : Nat) : Int) = V at *
            have hw1 : IntKind.i64.wrap ((N : Int) * V) = (N : Int) * V := IntWalk.i64_in _ (by omega)
            have hw2 : IntKind.i64.wrap ((N : Int) * V - (M : Int) * (U : Int)) = devI N S (k : Int) U M := by rw [← hd]; exact IntWalk.i64_in _ (by omega)
            have hbd : -3600 ≤ devI N S (k : Int) U M ∧ devI N S (k : Int) U M ≤ 3600 := by rw [← hd]; omega
            generalize devI N S (k : Int) U M = X at *
            generalize maxI f k = F at *
            have hw : IntKind.i64.wrap (-X) = -X := IntWalk.i64_in _ (by omega)
            obtain ⟨Y, hY⟩ : ∃ Y, max X (-X) = Y := ⟨_, rfl⟩
            have hY' : (if X < -X then -X else X) = Y := by split <;> omega
            obtain ⟨Z, hZ⟩ : ∃ Z, max F Y = Z := ⟨_, rfl⟩
            have hZ' : (if F < Y then Y else F) = Z := by split <;> omega
            rw [hY, hZ] at hsu
            clear hd hV
            go_wp2_with fail
            go_region_held3 (fun w' => w'.cell? ⟨w.heap.size, 0, none⟩ = some (.int .i64 (N : Int)) ∧ w'.cell? ⟨w.heap.size, 1, none⟩ = some (.int .i64 (S : Int)))
              (first | go_keep | exact ⟨t'c, t'd⟩)
              (first | (go_at_call 47; refine (hcall.out _).mono ?_; rintro e w' ⟨rfl, hb'⟩; have t' := Two.below (b := w.heap.size) (x := .int .i64 (N : Int)) (y := .int .i64 (S : Int)) (T := 24) (by repeat (first | assumption | refine Two.drew1 ?_)) hb' (by first | omega | (simp <;> omega)); have t'c := t'.cell0; have t'd := t'.cell1))
            have hB4 := (below_drewN hBr 1).trans (hb'.mono (by simpa using hBr.size))
            clear hcall hb' hBr hBw tr trc trd
            go_wp2_with fail
            go_roundw
            case rel => exact ⟨k + 1, by rw [hsu.out], by go_num, by omega, hB4⟩
            case measure => simp only [intOf]; omega
          · have hkn' : decide ((k : Int) < N) = false := decide_eq_false (by omega)
            have hkn2 : decide (k < N) = false := decide_eq_false hkn
            obtain rfl : k = N := by omega
            go_wp2
            go_ret
            exact ⟨rfl, hBw⟩
      | false =>
        
        rw [fromFF_no (fun h => by simp [h.2.1, h.2.2] at hu)]
        go_enter Try.func20, Try.ntmps20
        go_wp2_with fail
        refine (specTurnOk_any _ _ _).mono ?_; rintro e w1 ⟨rfl, hb1⟩
        have hz1 := hb1.size
        try simp at hz1
        have t1 : Two w1 (w.heap.size) (.int .i64 n) (.int .i64 s) 24 := Two.below (by repeat (first | assumption | exact Two.new' _ _ _ _ _ (by simp) | refine Two.alloc ?_ _ | refine Two.drewN ?_ _)) hb1 (by first | omega | (simp <;> omega))
        have hlt1 : (w.heap.size) < w1.heap.size := t1.lt
        have hnt1 : ¬ (w.heap.size) = w1.heap.size := Nat.ne_of_lt hlt1
        have t1c := t1.cell0
        have t1d := t1.cell1
        rw [ht]
        go_wp2_with fail
        refine (l1In_any _ _ _ _).mono ?_; rintro e w2 ⟨rfl, rfl⟩
        rw [hm]
        go_wp2_with fail
        refine (l1In_any _ _ _ _).mono ?_; rintro e w2 ⟨rfl, rfl⟩
        rw [hu]
        go_wp2
        go_ret
        exact ⟨rfl, (by repeat (first | exact Below.refl _ _ | assumption | (refine Below.trans ?_ (Below.mono (by assumption) (by first | omega | (simp <;> omega)))) | (refine Below.alloc ?_ (by first | omega | (simp <;> omega)) _) | (refine below_drewN ?_ _) | (refine Below.drew ?_) | (refine Below.setCell ?_ (by first | omega | (simp <;> omega)) _)))⟩
    | false =>
      
      rw [fromFF_no (fun h => by
        obtain ⟨_, a, b⟩ := farOk_iff.1 h.1
        simp [a, b] at hm)]
      go_enter Try.func20, Try.ntmps20
      go_wp2_with fail
      refine (specTurnOk_any _ _ _).mono ?_; rintro e w1 ⟨rfl, hb1⟩
      have hz1 := hb1.size
      try simp at hz1
      have t1 : Two w1 (w.heap.size) (.int .i64 n) (.int .i64 s) 24 := Two.below (by repeat (first | assumption | exact Two.new' _ _ _ _ _ (by simp) | refine Two.alloc ?_ _ | refine Two.drewN ?_ _)) hb1 (by first | omega | (simp <;> omega))
      have hlt1 : (w.heap.size) < w1.heap.size := t1.lt
      have hnt1 : ¬ (w.heap.size) = w1.heap.size := Nat.ne_of_lt hlt1
      have t1c := t1.cell0
      have t1d := t1.cell1
      rw [ht]
      go_wp2_with fail
      refine (l1In_any _ _ _ _).mono ?_; rintro e w2 ⟨rfl, rfl⟩
      rw [hm]
      go_wp2
      go_ret
      exact ⟨rfl, (by repeat (first | exact Below.refl _ _ | assumption | (refine Below.trans ?_ (Below.mono (by assumption) (by first | omega | (simp <;> omega)))) | (refine Below.alloc ?_ (by first | omega | (simp <;> omega)) _) | (refine below_drewN ?_ _) | (refine Below.drew ?_) | (refine Below.setCell ?_ (by first | omega | (simp <;> omega)) _)))⟩
  · 
    have ht' : tok n s = false := by simpa using ht
    rw [fromFF_no (fun h => ht (farOk_iff.1 h.1).1)]
    go_enter Try.func20, Try.ntmps20
    go_wp2_with fail
    refine (specTurnOk_any _ _ _).mono ?_; rintro e w1 ⟨rfl, hb1⟩
    have hz1 := hb1.size
    try simp at hz1
    have t1 : Two w1 (w.heap.size) (.int .i64 n) (.int .i64 s) 24 := Two.below (by repeat (first | assumption | exact Two.new' _ _ _ _ _ (by simp) | refine Two.alloc ?_ _ | refine Two.drewN ?_ _)) hb1 (by first | omega | (simp <;> omega))
    have hlt1 : (w.heap.size) < w1.heap.size := t1.lt
    have hnt1 : ¬ (w.heap.size) = w1.heap.size := Nat.ne_of_lt hlt1
    have t1c := t1.cell0
    have t1d := t1.cell1
    rw [ht']
    go_wp2
    go_ret
    exact ⟨rfl, (by repeat (first | exact Below.refl _ _ | assumption | (refine Below.trans ?_ (Below.mono (by assumption) (by first | omega | (simp <;> omega)))) | (refine Below.alloc ?_ (by first | omega | (simp <;> omega)) _) | (refine below_drewN ?_ _) | (refine Below.drew ?_) | (refine Below.setCell ?_ (by first | omega | (simp <;> omega)) _)))⟩

set_option maxHeartbeats 2000000 in
theorem specGreatestGap_any (n s m : Int) (w : World) :
    Calls Try.prog 24 #[(.agg #[.int .i64 (n), .int .i64 (s)]), .int .i64 m] w fun e w' => e = .returned (.int .i64 (greatF n s m)) ∧ Below w.heap.size w w' := by
  
  have hp := fun w => specGapsOf_any n s m w
  have hlen := gapsF_len n s m
  unfold greatF
  generalize gapsF n s m = L at hp hlen ⊢
  obtain ⟨K, hK⟩ : ∃ K, L.length = K := ⟨_, rfl⟩
  rw [hK]
  have HSu : Hid (∀ k, grK L (k + 1) = max (grK L k) (L.getD k 0)) := fun k => rfl
  have H0 : Hid (grK L 0 = -1) := rfl
  have HK := Lib.hid hK
  rw [hK] at hlen
  clear hK
  go_enter Try.func24, Try.ntmps24
  go_wp2_with fail
  refine (hp _).mono ?_; rintro e w1 ⟨v1, rfl, ho1, hb1⟩
  have hz1 := hb1.size
  try simp at hz1
  have t1 : Two w1 (w.heap.size) (.int .i64 n) (.int .i64 s) 24 := Two.below (by repeat (first | assumption | exact Two.new' _ _ _ _ _ (by simp) | refine Two.alloc ?_ _ | refine Two.drewN ?_ _)) hb1 (by first | omega | (simp <;> omega))
  have hlt1 : (w.heap.size) < w1.heap.size := t1.lt
  have hnt1 : ¬ (w.heap.size) = w1.heap.size := Nat.ne_of_lt hlt1
  have t1c := t1.cell0
  have t1d := t1.cell1
  obtain ⟨a1, cap1, rfl, hcells⟩ := ho1.reads.cells HK.out
  have hB1 : Below w.heap.size w w1 := (by repeat (first | exact Below.refl _ _ | assumption | (refine Below.trans ?_ (Below.mono (by assumption) (by first | omega | (simp <;> omega)))) | (refine Below.alloc ?_ (by first | omega | (simp <;> omega)) _) | (refine below_drewN ?_ _) | (refine Below.drew ?_) | (refine Below.setCell ?_ (by first | omega | (simp <;> omega)) _)))
  clear ho1 hp hb1 t1 t1c t1d
  go_wp2_with fail
  go_loopw [6, 7] (fun x y wr => ∃ k q : Nat, x = .int .i64 (grK L k) ∧ y = .int .i64 k ∧ k ≤ K ∧ wr = w1.drewN q) (fun _ y _ => K - (intOf y).toNat)
  case atStart => exact ⟨0, 0, by rw [H0.out], rfl, by omega, rfl⟩
  case round =>
    obtain ⟨k, q, rfl, rfl, hk, rfl⟩ := hrel
    by_cases hkn : k < K
    · have hkn' : (k : Int) < K := by omega
      obtain ⟨g, off, rfl, HC⟩ := hcells (by omega)
      have ck : (w1.drewN q).cell? ⟨g, off + k, none⟩ = some (.int .i64 (L.getD k 0)) := HC.out k hkn
      have hsu := Lib.hid (HSu.out k)
      generalize L.getD k 0 = X at *
      generalize grK L k = F at *
      obtain ⟨Z, hZ⟩ : ∃ Z, max F X = Z := ⟨_, rfl⟩
      have hZ' : (if F < X then X else F) = Z := by split <;> omega
      rw [hZ] at hsu
      go_wp2_with fail
      try go_quiet (fail)
      go_wp2_with fail
      go_roundw
      case rel => first | exact ⟨k + 1, q, by rw [hsu.out], by go_num, by omega, rfl⟩ | exact ⟨k + 1, q + nq, by rw [hsu.out], by go_num, by omega, by simp⟩
      case measure => simp only [intOf]; omega
    · have hkn' : decide ((k : Int) < K) = false := decide_eq_false (by omega)
      have hkn2 : decide (k < K) = false := decide_eq_false hkn
      obtain rfl : k = K := by omega
      go_wp2
      go_ret
      exact ⟨rfl, below_drewN hB1 q⟩

set_option maxHeartbeats 2000000 in
theorem specLeastGap_any (n s m : Int) (w : World) :
    Calls Try.prog 29 #[(.agg #[.int .i64 (n), .int .i64 (s)]), .int .i64 m] w fun e w' => e = .returned (.int .i64 (leastF n s m)) ∧ Below w.heap.size w w' := by
  
  have hp := fun w => specGapsOf_any n s m w
  have hlen := gapsF_len n s m
  unfold leastF
  generalize gapsF n s m = L at hp hlen ⊢
  obtain ⟨K, hK⟩ : ∃ K, L.length = K := ⟨_, rfl⟩
  rw [hK]
  have HSu : Hid (∀ k, leK L (k + 1) = if leK L k < 0 ∨ L.getD k 0 < leK L k then L.getD k 0 else leK L k) := fun k => rfl
  have H0 : Hid (leK L 0 = -1) := rfl
  have HK := Lib.hid hK
  rw [hK] at hlen
  clear hK
  go_enter Try.func29, Try.ntmps29
  go_wp2_with fail
  refine (hp _).mono ?_; rintro e w1 ⟨v1, rfl, ho1, hb1⟩
  have hz1 := hb1.size
  try simp at hz1
  have t1 : Two w1 (w.heap.size) (.int .i64 n) (.int .i64 s) 24 := Two.below (by repeat (first | assumption | exact Two.new' _ _ _ _ _ (by simp) | refine Two.alloc ?_ _ | refine Two.drewN ?_ _)) hb1 (by first | omega | (simp <;> omega))
  have hlt1 : (w.heap.size) < w1.heap.size := t1.lt
  have hnt1 : ¬ (w.heap.size) = w1.heap.size := Nat.ne_of_lt hlt1
  have t1c := t1.cell0
  have t1d := t1.cell1
  obtain ⟨a1, cap1, rfl, hcells⟩ := ho1.reads.cells HK.out
  have hB1 : Below w.heap.size w w1 := (by repeat (first | exact Below.refl _ _ | assumption | (refine Below.trans ?_ (Below.mono (by assumption) (by first | omega | (simp <;> omega)))) | (refine Below.alloc ?_ (by first | omega | (simp <;> omega)) _) | (refine below_drewN ?_ _) | (refine Below.drew ?_) | (refine Below.setCell ?_ (by first | omega | (simp <;> omega)) _)))
  clear ho1 hp hb1 t1 t1c t1d
  go_wp2_with fail
  go_loopw [6, 7] (fun x y wr => ∃ k q : Nat, x = .int .i64 (leK L k) ∧ y = .int .i64 k ∧ k ≤ K ∧ wr = w1.drewN q) (fun _ y _ => K - (intOf y).toNat)
  case atStart => exact ⟨0, 0, by rw [H0.out], rfl, by omega, rfl⟩
  case round =>
    obtain ⟨k, q, rfl, rfl, hk, rfl⟩ := hrel
    by_cases hkn : k < K
    · have hkn' : (k : Int) < K := by omega
      obtain ⟨g, off, rfl, HC⟩ := hcells (by omega)
      have ck : (w1.drewN q).cell? ⟨g, off + k, none⟩ = some (.int .i64 (L.getD k 0)) := HC.out k hkn
      have hsu := HSu.out k
      generalize L.getD k 0 = X at *
      generalize leK L k = F at *
      by_cases h0 : F < 0
      · rw [if_pos (.inl h0)] at hsu
        have HS := Lib.hid hsu
        clear hsu
        go_wp2_with fail
        try go_quiet (fail)
        go_wp2_with fail
        go_roundw
        case rel => first | exact ⟨k + 1, q, by rw [HS.out], by go_num, by omega, rfl⟩ | exact ⟨k + 1, q + nq, by rw [HS.out], by go_num, by omega, by simp⟩
        case measure => simp only [intOf]; omega
      · have h0' : decide (F < 0) = false := decide_eq_false h0
        by_cases hx : X < F
        · rw [if_pos (.inr hx)] at hsu
          have HS := Lib.hid hsu
          clear hsu
          go_wp2_with fail
          try go_quiet (fail)
          go_wp2_with fail
          go_roundw
          case rel => first | exact ⟨k + 1, q, by rw [HS.out], by go_num, by omega, rfl⟩ | exact ⟨k + 1, q + nq, by rw [HS.out], by go_num, by omega, by simp⟩
          case measure => simp only [intOf]; omega
        · rw [if_neg (by omega)] at hsu
          have HS := Lib.hid hsu
          have hx' : decide (X < F) = false := decide_eq_false hx
          clear hsu
          go_wp2_with fail
          try go_quiet (fail)
          go_wp2_with fail
          go_roundw
          case rel => first | exact ⟨k + 1, q, by rw [HS.out], by go_num, by omega, rfl⟩ | exact ⟨k + 1, q + nq, by rw [HS.out], by go_num, by omega, by simp⟩
          case measure => simp only [intOf]; omega
    · have hkn' : decide ((k : Int) < K) = false := decide_eq_false (by omega)
      have hkn2 : decide (k < K) = false := decide_eq_false hkn
      obtain rfl : k = K := by omega
      go_wp2
      go_ret
      exact ⟨rfl, below_drewN hB1 q⟩
end Go.Proofs.Ytnpaicdbmmfdhaa
