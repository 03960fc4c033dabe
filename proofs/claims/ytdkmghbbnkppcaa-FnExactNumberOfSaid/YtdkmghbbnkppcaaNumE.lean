/- Contracts of chapter 9's functions of the model: BasisOf, MostDigits, DigitsOf, DigitSum. -/
import Derived.Test.YtdkmghbbnkppcaaNumD
set_option linter.unusedVariables false
namespace Go.Proofs.Ytdkmghbbnkppcaa

set_option maxRecDepth 4000
open Go.ChangeShapes Go.WideShapes Go.ChangeAt Go.RowKit Go.Joins

set_option maxHeartbeats 1000000 in
theorem specBasisOf_any (n s : Int) (w : World) : Calls Try.prog 21 #[(.agg #[.int .i64 (n), .int .i64 (s)])] w (ListPost (basisF n s) w) := by
  
  by_cases ht : tok n s = true
  · obtain ⟨N, S, rfl, rfl, hN⟩ := tokN_of ht
    
    rw [basisF_yes hN]
    go_enter Try.func21, Try.ntmps21
    go_wp2_with fail
    refine (specTurnOk_any _ _ _).mono ?_; rintro e w1 ⟨rfl, hb1⟩
    have hz1 := hb1.size
    try simp at hz1
    have t1 : Two w1 (w.heap.size) (.int .i64 N) (.int .i64 S) 24 := Two.below (by repeat (first | assumption | exact Two.new' _ _ _ _ _ (by simp) | refine Two.alloc ?_ _ | refine Two.drewN ?_ _)) hb1 (by first | omega | (simp <;> omega))
    have hlt1 : (w.heap.size) < w1.heap.size := t1.lt
    have hnt1 : ¬ (w.heap.size) = w1.heap.size := Nat.ne_of_lt hlt1
    have t1c := t1.cell0
    have t1d := t1.cell1
    rw [ht]
    go_wp2_with fail
    refine (specBasis9_any hN _).mono ?_; rintro e w2 ⟨v1, v2, rfl, ho1, ho2, hb2⟩
    have hz2 := hb2.size
    try simp at hz2
    have t2 : Two w2 (w.heap.size) (.int .i64 N) (.int .i64 S) 24 := Two.below (by repeat (first | assumption | exact Two.new' _ _ _ _ _ (by simp) | refine Two.alloc ?_ _ | refine Two.drewN ?_ _)) hb2 (by first | omega | (simp <;> omega))
    have hlt2 : (w.heap.size) < w2.heap.size := t2.lt
    have hnt2 : ¬ (w.heap.size) = w2.heap.size := Nat.ne_of_lt hlt2
    have t2c := t2.cell0
    have t2d := t2.cell1
    have ho' : OwnL w2 w.heap.size v1 _ := ho1.mono (b' := w.heap.size) (by omega)
    clear ho1 ho2
    go_wp2
    go_ret
    exact ⟨_, rfl, ho', (by repeat (first | exact Below.refl _ _ | assumption | (refine Below.trans ?_ (Below.mono (by assumption) (by first | omega | (simp <;> omega)))) | (refine Below.alloc ?_ (by first | omega | (simp <;> omega)) _) | (refine below_drewN ?_ _) | (refine Below.drew ?_) | (refine Below.setCell ?_ (by first | omega | (simp <;> omega)) _)))⟩
  · 
    have ht' : tok n s = false := by simpa using ht
    rw [basisF_no ht]
    go_enter Try.func21, Try.ntmps21
    go_wp2_with fail
    refine (specTurnOk_any _ _ _).mono ?_; rintro e w1 ⟨rfl, hb1⟩
    have hz1 := hb1.size
    try simp at hz1
    have t1 : Two w1 (w.heap.size) (.int .i64 n) (.int .i64 s) 24 := Two.below (by repeat (first | assumption | exact Two.new' _ _ _ _ _ (by simp) | refine Two.alloc ?_ _ | refine Two.drewN ?_ _)) hb1 (by first | omega | (simp <;> omega))
    have hlt1 : (w.heap.size) < w1.heap.size := t1.lt
    have hnt1 : ¬ (w.heap.size) = w1.heap.size := Nat.ne_of_lt hlt1
    have t1c := t1.cell0
    have t1d := t1.cell1
    rw [ht']
    have hn1 := made_nil w1
    have hz1' : w.heap.size ≤ w1.heap.size := by omega
    go_wp2
    go_ret
    exact ⟨_, rfl, hn1.mono (b' := w.heap.size) (by omega), (by repeat (first | exact Below.refl _ _ | assumption | (refine Below.trans ?_ (Below.mono (by assumption) (by first | omega | (simp <;> omega)))) | (refine Below.alloc ?_ (by first | omega | (simp <;> omega)) _) | (refine below_drewN ?_ _) | (refine Below.drew ?_) | (refine Below.setCell ?_ (by first | omega | (simp <;> omega)) _)))⟩

set_option maxHeartbeats 1000000 in
theorem specMostDigits_any (n s : Int) (w : World) : Calls Try.prog 30 #[(.agg #[.int .i64 (n), .int .i64 (s)])] w (ListPost (mostF n s) w) := by
  
  by_cases ht : tok n s = true
  · obtain ⟨N, S, rfl, rfl, hN⟩ := tokN_of ht
    
    rw [mostF_yes hN]
    go_enter Try.func30, Try.ntmps30
    go_wp2_with fail
    refine (specTurnOk_any _ _ _).mono ?_; rintro e w1 ⟨rfl, hb1⟩
    have hz1 := hb1.size
    try simp at hz1
    have t1 : Two w1 (w.heap.size) (.int .i64 N) (.int .i64 S) 24 := Two.below (by repeat (first | assumption | exact Two.new' _ _ _ _ _ (by simp) | refine Two.alloc ?_ _ | refine Two.drewN ?_ _)) hb1 (by first | omega | (simp <;> omega))
    have hlt1 : (w.heap.size) < w1.heap.size := t1.lt
    have hnt1 : ¬ (w.heap.size) = w1.heap.size := Nat.ne_of_lt hlt1
    have t1c := t1.cell0
    have t1d := t1.cell1
    rw [ht]
    go_wp2_with fail
    refine (specBasis9_any hN _).mono ?_; rintro e w2 ⟨v1, v2, rfl, ho1, ho2, hb2⟩
    have hz2 := hb2.size
    try simp at hz2
    have t2 : Two w2 (w.heap.size) (.int .i64 N) (.int .i64 S) 24 := Two.below (by repeat (first | assumption | exact Two.new' _ _ _ _ _ (by simp) | refine Two.alloc ?_ _ | refine Two.drewN ?_ _)) hb2 (by first | omega | (simp <;> omega))
    have hlt2 : (w.heap.size) < w2.heap.size := t2.lt
    have hnt2 : ¬ (w.heap.size) = w2.heap.size := Nat.ne_of_lt hlt2
    have t2c := t2.cell0
    have t2d := t2.cell1
    have ho' : OwnL w2 w.heap.size v2 _ := ho2.mono (b' := w.heap.size) (by omega)
    clear ho1 ho2
    go_wp2
    go_ret
    exact ⟨_, rfl, ho', (by repeat (first | exact Below.refl _ _ | assumption | (refine Below.trans ?_ (Below.mono (by assumption) (by first | omega | (simp <;> omega)))) | (refine Below.alloc ?_ (by first | omega | (simp <;> omega)) _) | (refine below_drewN ?_ _) | (refine Below.drew ?_) | (refine Below.setCell ?_ (by first | omega | (simp <;> omega)) _)))⟩
  · 
    have ht' : tok n s = false := by simpa using ht
    rw [mostF_no ht]
    go_enter Try.func30, Try.ntmps30
    go_wp2_with fail
    refine (specTurnOk_any _ _ _).mono ?_; rintro e w1 ⟨rfl, hb1⟩
    have hz1 := hb1.size
    try simp at hz1
    have t1 : Two w1 (w.heap.size) (.int .i64 n) (.int .i64 s) 24 := Two.below (by repeat (first | assumption | exact Two.new' _ _ _ _ _ (by simp) | refine Two.alloc ?_ _ | refine Two.drewN ?_ _)) hb1 (by first | omega | (simp <;> omega))
    have hlt1 : (w.heap.size) < w1.heap.size := t1.lt
    have hnt1 : ¬ (w.heap.size) = w1.heap.size := Nat.ne_of_lt hlt1
    have t1c := t1.cell0
    have t1d := t1.cell1
    rw [ht']
    have hn1 := made_nil w1
    go_wp2
    go_ret
    exact ⟨_, rfl, hn1.mono (b' := w.heap.size) (by omega), (by repeat (first | exact Below.refl _ _ | assumption | (refine Below.trans ?_ (Below.mono (by assumption) (by first | omega | (simp <;> omega)))) | (refine Below.alloc ?_ (by first | omega | (simp <;> omega)) _) | (refine below_drewN ?_ _) | (refine Below.drew ?_) | (refine Below.setCell ?_ (by first | omega | (simp <;> omega)) _)))⟩

/-- the basis as it is read -/
theorem bas_read {N S : Nat} (hN : tokN N S = true) : (basN N S).length = bmN N S ∧ 1 ≤ bmN N S ∧ bmN N S ≤ 8 ∧ ∀ i, i < bmN N S → (basN N S).getD i 0 = basAt N S i ∧ 1 ≤ basAt N S i ∧ basAt N S i ≤ 60 := by
  obtain ⟨a, b, _⟩ := bas_facts hN
  obtain ⟨_, b2, _⟩ := tokN_bd hN
  refine ⟨rfl, a, b, fun i hi => ⟨(basAt_get hi).symm, (bas_scale hN).pos (by omega), ?_⟩⟩
  have := bas_lt hN hi
  omega

set_option maxHeartbeats 2000000 in
theorem specDigitsOf_any (n s k : Int) (w : World) : Calls Try.prog 33 #[(.agg #[.int .i64 (n), .int .i64 (s)]), .int .i64 k] w (ListPost (digF n s k) w) := by
  
  by_cases ht : tok n s = true
  · have hb := tok_bd ht
    have hwn : IntKind.i64.wrap (n - 1) = n - 1 := IntWalk.i64_in _ (by omega)
    by_cases hk : (decide (0 ≤ k) && decide (k ≤ n - 1)) = true
    · have hk' := hk
      simp at hk'
      obtain ⟨k0, k1⟩ := hk'
      have ht0 := ht
      obtain ⟨N, S, rfl, rfl, hN⟩ := tokN_of ht0
      
      obtain ⟨k, rfl⟩ := Int.eq_ofNat_of_zero_le k0
      rw [digF_yes hN (by omega)]
      obtain ⟨r1, r2, r3, r4⟩ := bas_read hN
      have HBs := Lib.hid (fun w => specBasisOf_any (N : Int) (S : Int) w)
      have hbe := basisF_yes hN
      have HD := Lib.hid (fun v b w hv => specDigits9_any v (basN N S) (basAt N S) (bmN N S) k b w hv r1 r2 r3 r4 (by omega))
      have HBE := Lib.hid hbe
      clear hbe hN ht0 r1 r2 r3 r4
      go_enter Try.func33, Try.ntmps33
      go_wp2_with fail
      refine (specTurnOk_any _ _ _).mono ?_; rintro e w1 ⟨rfl, hb1⟩
      have hz1 := hb1.size
      try simp at hz1
      have t1 : Two w1 (w.heap.size) (.int .i64 N) (.int .i64 S) 24 := Two.below (by repeat (first | assumption | exact Two.new' _ _ _ _ _ (by simp) | refine Two.alloc ?_ _ | refine Two.drewN ?_ _)) hb1 (by first | omega | (simp <;> omega))
      have hlt1 : (w.heap.size) < w1.heap.size := t1.lt
      have hnt1 : ¬ (w.heap.size) = w1.heap.size := Nat.ne_of_lt hlt1
      have t1c := t1.cell0
      have t1d := t1.cell1
      rw [ht]
      go_wp2_with fail
      refine (l1In_any _ _ _ _).mono ?_; rintro e w2 ⟨rfl, rfl⟩
      rw [hk]
      go_wp2_with fail
      refine (HBs.out _).mono ?_; rintro e w3 ⟨v3, rfl, ho3, hb3⟩
      rw [HBE.out] at ho3
      have hz3 := hb3.size
      go_wp2_with fail
      refine (HD.out v3 _ _ ho3).mono ?_; rintro e w4 ⟨v4, rfl, ho4, hb4⟩
      have hz4 := hb4.size
      have ho4' : OwnL w4 w.heap.size v4 (castL (digN N S k)) := OwnL.mono (b := w3.heap.size) ho4 (by omega)
      clear ho3 ho4
      go_wp2
      go_ret
      exact ⟨_, rfl, ho4', (by repeat (first | exact Below.refl _ _ | assumption | (refine Below.trans ?_ (Below.mono (by assumption) (by first | omega | (simp <;> omega)))) | (refine Below.alloc ?_ (by first | omega | (simp <;> omega)) _) | (refine below_drewN ?_ _) | (refine Below.drew ?_) | (refine Below.setCell ?_ (by first | omega | (simp <;> omega)) _)))⟩
    · 
      have hk' : (decide (0 ≤ k) && decide (k ≤ n - 1)) = false := by simpa using hk
      rw [digF_no (n := n) (s := s) (k := k) (fun h => hk (by simp; omega))]
      go_enter Try.func33, Try.ntmps33
      go_wp2_with fail
      refine (specTurnOk_any _ _ _).mono ?_; rintro e w1 ⟨rfl, hb1⟩
      have hz1 := hb1.size
      try simp at hz1
      have t1 : Two w1 (w.heap.size) (.int .i64 n) (.int .i64 s) 24 := Two.below (by repeat (first | assumption | exact Two.new' _ _ _ _ _ (by simp) | refine Two.alloc ?_ _ | refine Two.drewN ?_ _)) hb1 (by first | omega | (simp <;> omega))
      have hlt1 : (w.heap.size) < w1.heap.size := t1.lt
      have hnt1 : ¬ (w.heap.size) = w1.heap.size := Nat.ne_of_lt hlt1
      have t1c := t1.cell0
      have t1d := t1.cell1
      rw [ht]
      have hn1 := made_nil w1
      go_wp2_with fail
      refine (l1In_any _ _ _ _).mono ?_; rintro e w2 ⟨rfl, rfl⟩
      rw [hk']
      go_wp2
      go_ret
      exact ⟨_, rfl, hn1.mono (b' := w.heap.size) (by omega), (by repeat (first | exact Below.refl _ _ | assumption | (refine Below.trans ?_ (Below.mono (by assumption) (by first | omega | (simp <;> omega)))) | (refine Below.alloc ?_ (by first | omega | (simp <;> omega)) _) | (refine below_drewN ?_ _) | (refine Below.drew ?_) | (refine Below.setCell ?_ (by first | omega | (simp <;> omega)) _)))⟩
  · 
    have ht' : tok n s = false := by simpa using ht
    rw [digF_no (n := n) (s := s) (k := k) (fun h => ht h.1)]
    go_enter Try.func33, Try.ntmps33
    go_wp2_with fail
    refine (specTurnOk_any _ _ _).mono ?_; rintro e w1 ⟨rfl, hb1⟩
    have hz1 := hb1.size
    try simp at hz1
    have t1 : Two w1 (w.heap.size) (.int .i64 n) (.int .i64 s) 24 := Two.below (by repeat (first | assumption | exact Two.new' _ _ _ _ _ (by simp) | refine Two.alloc ?_ _ | refine Two.drewN ?_ _)) hb1 (by first | omega | (simp <;> omega))
    have hlt1 : (w.heap.size) < w1.heap.size := t1.lt
    have hnt1 : ¬ (w.heap.size) = w1.heap.size := Nat.ne_of_lt hlt1
    have t1c := t1.cell0
    have t1d := t1.cell1
    rw [ht']
    have hn1 := made_nil w1
    go_wp2
    go_ret
    exact ⟨_, rfl, hn1.mono (b' := w.heap.size) (by omega), (by repeat (first | exact Below.refl _ _ | assumption | (refine Below.trans ?_ (Below.mono (by assumption) (by first | omega | (simp <;> omega)))) | (refine Below.alloc ?_ (by first | omega | (simp <;> omega)) _) | (refine below_drewN ?_ _) | (refine Below.drew ?_) | (refine Below.setCell ?_ (by first | omega | (simp <;> omega)) _)))⟩

theorem sumD_le {d M : Nat → Nat} {m : Nat} (h : ∀ i, i < m → d i ≤ 60) : ∀ k, k ≤ m → sumD d k ≤ 60 * k := by
  intro k
  induction k with
  | zero => intro _; exact Nat.zero_le _
  | succ k ih => intro hk; have := ih (by omega); have := h k (by omega); show sumD d k + d k ≤ _; omega

theorem dig_le {B : Nat → Nat} {m K i : Nat} (hK : K ≤ 60) : digD B m K i ≤ 60 := by
  unfold digD
  exact Nat.le_trans (Nat.div_le_self _ _) (Nat.le_trans (remD_le B m K _) hK)

set_option maxHeartbeats 2000000 in
theorem specDigitSum_any (n s k : Int) (w : World) : Calls Try.prog 47 #[(.agg #[.int .i64 (n), .int .i64 (s)]), .int .i64 k] w fun e w' => e = .returned (.int .i64 (dsumF n s k)) ∧ Below w.heap.size w w' := by
  
  by_cases ht : tok n s = true
  · have hb := tok_bd ht
    have hwn : IntKind.i64.wrap (n - 1) = n - 1 := IntWalk.i64_in _ (by omega)
    by_cases hk : (decide (0 ≤ k) && decide (k ≤ n - 1)) = true
    · have hk' := hk
      simp at hk'
      obtain ⟨k0, k1⟩ := hk'
      have ht0 := ht
      obtain ⟨N, S, rfl, rfl, hN⟩ := tokN_of ht0
      
      obtain ⟨k, rfl⟩ := Int.eq_ofNat_of_zero_le k0
      rw [dsumF_yes hN (by omega)]
      obtain ⟨r1, r2, r3, r4⟩ := bas_read hN
      have HBs := Lib.hid (fun w => specBasisOf_any (N : Int) (S : Int) w)
      have hbe := basisF_yes hN
      have HD := Lib.hid (fun v b w hv => specDigits9_any v (basN N S) (basAt N S) (bmN N S) k b w hv r1 r2 r3 r4 (by omega))
      have HBE := Lib.hid hbe
      have hdl : ∀ i, digD (basAt N S) (bmN N S) k i ≤ 60 := fun i => dig_le (by omega)
      have HG : Hid (∀ i, i < bmN N S → (castL ((List.range (bmN N S)).map (digD (basAt N S) (bmN N S) k))).getD i 0 = ((digD (basAt N S) (bmN N S) k i : Nat) : Int)) := fun i hi => by
        rw [castL_getD]
        congr 1
        exact digN_get hi
      have HLn : Hid ((castL ((List.range (bmN N S)).map (digD (basAt N S) (bmN N S) k))).length = bmN N S) := by show _ = _; rw [castL_len]; simp
      generalize hm : bmN N S = m at *
      generalize digD (basAt N S) m k = d at *
      have HDL := Lib.hid hdl
      have hsl := Lib.hid (fun j (hj : j ≤ m) => sumD_le (M := d) (d := d) (m := m) (fun i _ => hdl i) j hj)
      clear hbe hN ht0 r1 r4 hm hdl
      go_enter Try.func47, Try.ntmps47
      go_wp2_with fail
      refine (specTurnOk_any _ _ _).mono ?_; rintro e w1 ⟨rfl, hb1⟩
      have hz1 := hb1.size
      try simp at hz1
      have t1 : Two w1 (w.heap.size) (.int .i64 N) (.int .i64 S) 24 := Two.below (by repeat (first | assumption | exact Two.new' _ _ _ _ _ (by simp) | refine Two.alloc ?_ _ | refine Two.drewN ?_ _)) hb1 (by first | omega | (simp <;> omega))
      have hlt1 : (w.heap.size) < w1.heap.size := t1.lt
      have hnt1 : ¬ (w.heap.size) = w1.heap.size := Nat.ne_of_lt hlt1
      have t1c := t1.cell0
      have t1d := t1.cell1
      rw [ht]
      go_wp2_with fail
      refine (l1In_any _ _ _ _).mono ?_; rintro e w2 ⟨rfl, rfl⟩
      rw [hk]
      go_wp2_with fail
      refine (HBs.out _).mono ?_; rintro e w3 ⟨v3, rfl, ho3, hb3⟩
      rw [HBE.out] at ho3
      have hz3 := hb3.size
      go_wp2_with fail
      refine (HD.out v3 _ _ ho3).mono ?_; rintro e w4 ⟨v4, rfl, ho4, hb4⟩
      have hz4 := hb4.size
      have hB4 : Below w.heap.size w w4 := (by repeat (first | exact Below.refl _ _ | assumption | (refine Below.trans ?_ (Below.mono (by assumption) (by first | omega | (simp <;> omega)))) | (refine Below.alloc ?_ (by first | omega | (simp <;> omega)) _) | (refine below_drewN ?_ _) | (refine Below.drew ?_) | (refine Below.setCell ?_ (by first | omega | (simp <;> omega)) _)))
      obtain ⟨g, cap, cur, rfl, hbg, hr, _, hnc, _, hc⟩ := ho4.rowI (N := m) HLn.out (by omega)
      have HC : Hid (∀ i, i < m → w4.cell? ⟨g, i, none⟩ = some (.int .i64 ((d i : Nat) : Int))) := fun i hi => by rw [hr.cell, hc i hi, HG.out i hi]
      clear ho3 ho4 hr hc t1 t1c t1d
      go_wp2_with fail
      go_loop [5, 7] (fun x y => ∃ j : Nat, x = .int .i64 ((sumD d j : Nat) : Int) ∧ y = .int .i64 j ∧ j ≤ m) (fun _ y => m - (intOf y).toNat)
      case atStart => exact ⟨0, rfl, rfl, by omega⟩
      case round =>
        obtain ⟨j, rfl, rfl, hj⟩ := hrel
        have hsj := hsl.out j hj
        by_cases hjm : j < m
        · have hjm' : (j : Int) < m := by omega
          have cj := HC.out j hjm
          have hdj := HDL.out j
          have hs1 := Lib.hid (show sumD d (j + 1) = sumD d j + d j from rfl)
          generalize sumD d j = S0 at *
          generalize d j = X at *
          go_wp2_with fail
          go_round
          case rel => exact ⟨j + 1, by rw [hs1.out]; go_num, by go_num, by omega⟩
          case measure => simp only [intOf]; omega
        · have hjm' : decide ((j : Int) < m) = false := by simp; omega
          obtain rfl : j = m := by omega
          go_wp2
          go_ret
          exact ⟨rfl, hB4⟩
    · 
      have hk' : (decide (0 ≤ k) && decide (k ≤ n - 1)) = false := by simpa using hk
      rw [dsumF_no (n := n) (s := s) (k := k) (fun h => hk (by simp; omega))]
      go_enter Try.func47, Try.ntmps47
      go_wp2_with fail
      refine (specTurnOk_any _ _ _).mono ?_; rintro e w1 ⟨rfl, hb1⟩
      have hz1 := hb1.size
      try simp at hz1
      have t1 : Two w1 (w.heap.size) (.int .i64 n) (.int .i64 s) 24 := Two.below (by repeat (first | assumption | exact Two.new' _ _ _ _ _ (by simp) | refine Two.alloc ?_ _ | refine Two.drewN ?_ _)) hb1 (by first | omega | (simp <;> omega))
      have hlt1 : (w.heap.size) < w1.heap.size := t1.lt
      have hnt1 : ¬ (w.heap.size) = w1.heap.size := Nat.ne_of_lt hlt1
      have t1c := t1.cell0
      have t1d := t1.cell1
      rw [ht]
      go_wp2_with fail
      refine (l1In_any _ _ _ _).mono ?_; rintro e w2 ⟨rfl, rfl⟩
      rw [hk']
      go_wp2
      go_ret
      exact ⟨rfl, (by repeat (first | exact Below.refl _ _ | assumption | (refine Below.trans ?_ (Below.mono (by assumption) (by first | omega | (simp <;> omega)))) | (refine Below.alloc ?_ (by first | omega | (simp <;> omega)) _) | (refine below_drewN ?_ _) | (refine Below.drew ?_) | (refine Below.setCell ?_ (by first | omega | (simp <;> omega)) _)))⟩
  · 
    have ht' : tok n s = false := by simpa using ht
    rw [dsumF_no (n := n) (s := s) (k := k) (fun h => ht h.1)]
    go_enter Try.func47, Try.ntmps47
    go_wp2_with fail
    refine (specTurnOk_any _ _ _).mono ?_; rintro e w1 ⟨rfl, hb1⟩
    have hz1 := hb1.size
    try simp at hz1
    have t1 : Two w1 (w.heap.size) (.int .i64 n) (.int .i64 s) 24 := Two.below (by repeat (first | assumption | exact Two.new' _ _ _ _ _ (by simp) | refine Two.alloc ?_ _ | refine Two.drewN ?_ _)) hb1 (by first | omega | (simp <;> omega))
    have hlt1 : (w.heap.size) < w1.heap.size := t1.lt
    have hnt1 : ¬ (w.heap.size) = w1.heap.size := Nat.ne_of_lt hlt1
    have t1c := t1.cell0
    have t1d := t1.cell1
    rw [ht']
    go_wp2
    go_ret
    exact ⟨rfl, (by repeat (first | exact Below.refl _ _ | assumption | (refine Below.trans ?_ (Below.mono (by assumption) (by first | omega | (simp <;> omega)))) | (refine Below.alloc ?_ (by first | omega | (simp <;> omega)) _) | (refine below_drewN ?_ _) | (refine Below.drew ?_) | (refine Below.setCell ?_ (by first | omega | (simp <;> omega)) _)))⟩
end Go.Proofs.Ytdkmghbbnkppcaa
