/- Contracts of chapter 14's functions of the program: years and days. -/
import Derived.Test.YtokmmbmkfpfmgaaYearS
import Derived.Test.YtokmmbmkfpfmgaaGFun
import Derived.Test.YtokmmbmkfpfmgaaPlace
import Derived.BigQuiet
import Derived.Deep.RegionHeld3
set_option linter.unusedVariables false
set_option linter.unusedSimpArgs false
namespace Go.Proofs.Ytokmmbmkfpfmgaa
set_option maxRecDepth 4000
open Go.ChangeShapes Go.WideShapes Go.ChangeAt Go.RowKit Go.Joins

/-- the turn is one, and the number at most the most years -/
def utyF (n s k : Int) : Bool := tok n s && (decide (0 ≤ k) && decide (k ≤ 200))

theorem utyF_yes {n s k : Int} (h : tok n s = true) (h0 : 0 ≤ k) (h1 : k ≤ 200) : utyF n s k = true := by unfold utyF; simp [h, h0, h1]

theorem utyF_no {n s k : Int} (h : ¬ (tok n s = true ∧ 0 ≤ k ∧ k ≤ 200)) : utyF n s k = false := by
  cases e : utyF n s k with
  | false => rfl
  | true => unfold utyF at e; simp at e; exact absurd ⟨e.1, e.2.1, e.2.2⟩ h

set_option maxHeartbeats 1000000 in
theorem upToYears_any (n s k : Int) (w : World) :
    Calls Try.prog 39 #[(.agg #[.int .i64 (n), .int .i64 (s)]), .int .i64 k] w fun e w' => e = .returned (.bool (utyF n s k)) ∧ Below w.heap.size w w' := by
  
  unfold utyF
  by_cases ht : tok n s = true
  · rw [ht]
    by_cases h0 : 0 ≤ k
    · go_enter Try.func39, Try.ntmps39
      go_wp2_with fail
      refine (turnOk_any _ _ _).mono ?_; rintro e w1 ⟨rfl, hb1⟩
      have hz1 := hb1.size
      try simp at hz1
      have t1 : Two w1 (w.heap.size) (.int .i64 n) (.int .i64 s) 24 := Two.below (by repeat (first | assumption | exact Two.new' _ _ _ _ _ (by simp) | refine Two.alloc ?_ _ | refine Two.drewN ?_ _)) hb1 (by first | omega | (simp <;> omega))
      have hlt1 : (w.heap.size) < w1.heap.size := t1.lt
      have hnt1 : ¬ (w.heap.size) = w1.heap.size := Nat.ne_of_lt hlt1
      have t1c := t1.cell0
      have t1d := t1.cell1
      rw [ht]
      go_wp2
      go_ret
      exact ⟨ret_bool (by simp [h0]), (by repeat (first | exact Below.refl _ _ | assumption | (refine Below.trans ?_ (Below.mono (by assumption) (by first | omega | (simp <;> omega)))) | (refine Below.alloc ?_ (by first | omega | (simp <;> omega)) _) | (refine below_drewN ?_ _) | (refine Below.drew ?_) | (refine Below.setCell ?_ (by first | omega | (simp <;> omega)) _)))⟩
    · have h0' : decide (0 ≤ k) = false := by simpa using h0
      rw [h0']
      go_enter Try.func39, Try.ntmps39
      go_wp2_with fail
      refine (turnOk_any _ _ _).mono ?_; rintro e w1 ⟨rfl, hb1⟩
      have hz1 := hb1.size
      try simp at hz1
      have t1 : Two w1 (w.heap.size) (.int .i64 n) (.int .i64 s) 24 := Two.below (by repeat (first | assumption | exact Two.new' _ _ _ _ _ (by simp) | refine Two.alloc ?_ _ | refine Two.drewN ?_ _)) hb1 (by first | omega | (simp <;> omega))
      have hlt1 : (w.heap.size) < w1.heap.size := t1.lt
      have hnt1 : ¬ (w.heap.size) = w1.heap.size := Nat.ne_of_lt hlt1
      have t1c := t1.cell0
      have t1d := t1.cell1
      rw [ht]
      go_wp2
      go_ret
      exact ⟨rfl, (by repeat (first | exact Below.refl _ _ | assumption | (refine Below.trans ?_ (Below.mono (by assumption) (by first | omega | (simp <;> omega)))) | (refine Below.alloc ?_ (by first | omega | (simp <;> omega)) _) | (refine below_drewN ?_ _) | (refine Below.drew ?_) | (refine Below.setCell ?_ (by first | omega | (simp <;> omega)) _)))⟩
  · have ht' : tok n s = false := by simpa using ht
    rw [ht']
    go_enter Try.func39, Try.ntmps39
    go_wp2_with fail
    refine (turnOk_any _ _ _).mono ?_; rintro e w1 ⟨rfl, hb1⟩
    have hz1 := hb1.size
    try simp at hz1
    have t1 : Two w1 (w.heap.size) (.int .i64 n) (.int .i64 s) 24 := Two.below (by repeat (first | assumption | exact Two.new' _ _ _ _ _ (by simp) | refine Two.alloc ?_ _ | refine Two.drewN ?_ _)) hb1 (by first | omega | (simp <;> omega))
    have hlt1 : (w.heap.size) < w1.heap.size := t1.lt
    have hnt1 : ¬ (w.heap.size) = w1.heap.size := Nat.ne_of_lt hlt1
    have t1c := t1.cell0
    have t1d := t1.cell1
    rw [ht']
    go_wp2
    go_ret
    exact ⟨rfl, (by repeat (first | exact Below.refl _ _ | assumption | (refine Below.trans ?_ (Below.mono (by assumption) (by first | omega | (simp <;> omega)))) | (refine Below.alloc ?_ (by first | omega | (simp <;> omega)) _) | (refine below_drewN ?_ _) | (refine Below.drew ?_) | (refine Below.setCell ?_ (by first | omega | (simp <;> omega)) _)))⟩

/-- the division, rounded up, of greater numbers -/
theorem dividedUpY_any (a b : Nat) (w : World) (ha : a ≤ 10000000) (hb : 1 ≤ b) (hb2 : b ≤ 100000) :
    Calls Try.prog 51 #[.int .i64 a, .int .i64 b] w fun e w' => e = .returned (.int .i64 (upN a b : Nat)) ∧ Below w.heap.size w w' := by
  have hE : ((a : Int) + b - 1) / (b : Int) = ((upN a b : Nat) : Int) := by
    unfold upN
    have e : ((a + b - 1 : Nat) : Int) = (a : Int) + b - 1 := by omega
    rw [← e]; simp
  have hE2 : ((a : Int) + b - 1).tdiv (b : Int) = ((upN a b : Nat) : Int) := by rw [Int.tdiv_eq_ediv_of_nonneg (by omega), hE]
  have hle : upN a b ≤ a + b := by unfold upN; exact Nat.le_trans (Nat.div_le_self _ _) (by omega)
  have hb0 : ¬ (b : Int) = 0 := by omega
  generalize upN a b = q at *
  go_enter Try.func51, Try.ntmps51
  go_wp2
  go_ret
  exact ⟨rfl, Below.refl _ _⟩

/-- the length of a year in parts -/
theorem partsOfYear_any (n s d : Int) (w : World) (n0 : 2 ≤ n) (n1 : n ≤ 60) (s0 : 0 ≤ s) (s1 : s ≤ 60) (d0 : 0 ≤ d) (d1 : d ≤ 400) :
    Calls Try.prog 48 #[(.agg #[.int .i64 (n), .int .i64 (s)]), .int .i64 d] w fun e w' => e = .returned (.int .i64 (d * n + s)) ∧ Below w.heap.size w w' := by
  have m0 : 0 ≤ d * n := Int.mul_nonneg d0 (by omega)
  have m1 : d * n ≤ 400 * 60 := Int.mul_le_mul d1 n1 (by omega) (by omega)
  go_enter Try.func48, Try.ntmps48
  go_wp2
  go_ret
  exact ⟨rfl, (by repeat (first | exact Below.refl _ _ | assumption | (refine Below.trans ?_ (Below.mono (by assumption) (by first | omega | (simp <;> omega)))) | (refine Below.alloc ?_ (by first | omega | (simp <;> omega)) _) | (refine below_drewN ?_ _) | (refine Below.drew ?_) | (refine Below.setCell ?_ (by first | omega | (simp <;> omega)) _)))⟩

/-- the letter of a year -/
theorem goesOver_any (N S : Nat) (k : Nat) (w : World) (ht : tokN N S = true) (hk : k ≤ 200) :
    Calls Try.prog 40 #[(.agg #[.int .i64 (N), .int .i64 (S)]), .int .i64 k] w fun e w' => e = .returned (.bool (letN N S k)) ∧ Below w.heap.size w w' := by
  obtain ⟨b1, b2, b3, b4, _⟩ := tokN_bd ht
  have hp := fun w => pointAt_any (N : Int) (S : Int) (k : Int) w (by omega) (by omega) (by omega) (by omega) (by omega) (by omega)
  have e : (k : Int) * (S : Int) % (N : Int) = ((k * S % N : Nat) : Int) := by simp
  rw [e] at hp
  have hlt := Nat.mod_lt (k * S) (show 0 < N by omega)
  have hL : letN N S k = decide ((N : Int) ≤ ((k * S % N : Nat) : Int) + (S : Int)) := by
    unfold letN
    by_cases c : N ≤ k * S % N + S
    · rw [decide_eq_true c, decide_eq_true (by omega)]
    · rw [decide_eq_false c, decide_eq_false (by omega)]
  rw [hL]
  clear e hL ht
  generalize k * S % N = p at *
  
  have hw1 : IntKind.i64.wrap ((p : Int) + (S : Int)) = (p : Int) + (S : Int) := IntWalk.i64_in _ (by omega)
  have tn : Two (w.alloc (.cells #[.int .i64 N, .int .i64 S] 24)) w.heap.size (.int .i64 N) (.int .i64 S) 24 := Two.new _ _ _ _
  have tnc := tn.cell0
  have tnd := tn.cell1
  go_enter Try.func40, Try.ntmps40
  go_wp2_with fail
  go_region_held3 (fun w' => w'.cell? ⟨w.heap.size, 0, none⟩ = some (.int .i64 N) ∧ w'.cell? ⟨w.heap.size, 1, none⟩ = some (.int .i64 S)) (first | go_keep | exact ⟨t'c, t'd⟩ | exact ⟨((t'.set (b := _) (by omega) 0 _).set (b := _) (by omega) 1 _).cell0, ((t'.set (b := _) (by omega) 0 _).set (b := _) (by omega) 1 _).cell1⟩) (first | (go_at_call 53; refine (hp _).mono ?_; rintro e w' ⟨rfl, hb'⟩; have t' := Two.below (b := w.heap.size) (x := .int .i64 N) (y := .int .i64 S) (T := 24) (by repeat (first | assumption | refine Two.alloc ?_ _)) hb' (by first | omega | (simp <;> omega)); have lt' := t'.lt; have t'c := t'.cell0; have t'd := t'.cell1; skip))
  go_wp2
  go_ret
  exact ⟨rfl, (by repeat (first | exact Below.refl _ _ | assumption | (refine Below.trans ?_ (Below.mono (by assumption) (by first | omega | (simp <;> omega)))) | (refine Below.alloc ?_ (by first | omega | (simp <;> omega)) _) | (refine below_drewN ?_ _) | (refine Below.drew ?_) | (refine Below.setCell ?_ (by first | omega | (simp <;> omega)) _)))⟩

/-- one year: so many long ones -/
theorem longBefore1_any (N S : Nat) (k : Nat) (w : World) (a : Nat) (ht : tokN N S = true) (hk : k ≤ 200)
    (ha : Two w a (.int .i64 N) (.int .i64 S) 24) :
    Calls Try.prog 46 #[.int .i64 k, .pointer (some ⟨a, 0, none⟩)] w fun e w' => e = .returned (.int .i64 ((letN N S k).toNat : Nat)) ∧ Below w.heap.size w w' := by
  have hg := Lib.hid (fun w => goesOver_any N S k w ht hk)
  have c0 := ha.cell0
  have c1 := ha.cell1
  have hl := ha.lt
  clear ht
  cases hb : letN N S k with
  | true =>
    rw [hb] at hg
    go_enter Try.func46, Try.ntmps46
    go_wp2_with fail
    refine (hg.out _).mono ?_; rintro e w1 ⟨rfl, hb1⟩
    go_wp2
    go_ret
    exact ⟨rfl, hb1⟩
  | false =>
    rw [hb] at hg
    go_enter Try.func46, Try.ntmps46
    go_wp2_with fail
    refine (hg.out _).mono ?_; rintro e w1 ⟨rfl, hb1⟩
    go_wp2
    go_ret
    exact ⟨rfl, hb1⟩

theorem flN_le {N S : Nat} (hn : 0 < N) (hs : S ≤ N) (k : Nat) : flN N S k ≤ k := by
  unfold flN
  have : k * S / N ≤ k * N / N := Nat.div_le_div_right (Nat.mul_le_mul_left k hs)
  rwa [Nat.mul_div_cancel _ hn] at this

set_option maxHeartbeats 1000000 in
theorem sumYears_any (N S : Nat) (m : Nat) (w : World) (a : Nat) (ht : tokN N S = true) (hm : m ≤ 200)
    (ha : Two w a (.int .i64 N) (.int .i64 S) 24) :
    Calls Try.prog 45 #[.int .i64 m, .func (.func 46) #[] #[.pointer (some ⟨a, 0, none⟩)]] w fun e w' => e = .returned (.int .i64 (flN N S m : Nat)) ∧ Below w.heap.size w w' := by
  obtain ⟨b1, b2, b3, b4, _⟩ := tokN_bd ht
  have HV := Lib.hid (fun (k : Nat) (wr : World) (hk : k ≤ 200) (hB : Below w.heap.size w wr) => longBefore1_any N S k wr a ht hk (ha.below hB ha.lt))
  have HS := Lib.hid (fun k => fl_succ (n := N) (s := S) (by omega) (by omega) k)
  have HL := fun k => flN_le (N := N) (S := S) (by omega) (by omega) k
  have h00 : flN N S 0 = 0 := by unfold flN; simp
  have hB0 := Below.refl w.heap.size w
  clear ht ha
  go_enter Try.func45, Try.ntmps45
  go_wp2_with fail
  go_loopw [5, 8] (fun x y wr => ∃ k : Nat, x = .int .i64 (flN N S k : Nat) ∧ y = .int .i64 k ∧ k ≤ m ∧ Below w.heap.size w wr) (fun _ y _ => m - (intOf y).toNat)
  case atStart => exact ⟨0, by rw [h00]; rfl, rfl, by omega, hB0⟩
  case round =>
    obtain ⟨k, rfl, rfl, hk, hB⟩ := hrel
    have hvb := HL k
    by_cases hkm : k < m
    · have hkm' : (k : Int) < m := by omega
      have hV := Lib.hid (HS.out k)
      have hd : (letN N S k).toNat ≤ 1 := by cases letN N S k <;> simp
      have hcall := HV.out k wr (by omega) hB
      generalize (letN N S k).toNat = d at *
      go_wp2_with fail
      refine hcall.mono ?_; rintro e w2 ⟨rfl, hb2⟩
      have hB2 := hB.trans (hb2.mono hB.size)
      clear hb2 hcall hB
      go_wp2_with fail
      go_roundw
      case rel => exact ⟨k + 1, by rw [hV.out]; go_num, by go_num, by omega, hB2⟩
      case measure => simp only [intOf]; omega
    · have hkm' : decide ((k : Int) < m) = false := by simp; omega
      obtain rfl : k = m := by omega
      go_wp2
      go_ret
      exact ⟨rfl, hB⟩

set_option maxHeartbeats 1000000 in
theorem longBefore_any (n s y : Int) (w : World) :
    Calls Try.prog 21 #[(.agg #[.int .i64 (n), .int .i64 (s)]), .int .i64 y] w fun e w' => e = .returned (.int .i64 (lbF n s y)) ∧ Below w.heap.size w w' := by
  by_cases hc : tok n s = true ∧ 0 ≤ y ∧ y ≤ 200
  · obtain ⟨ht, h0, h1⟩ := hc
    have hu := Lib.hid (utyF_yes ht h0 h1)
    obtain ⟨N, S, rfl, rfl, hN⟩ := tokN_of ht
    obtain ⟨Y, rfl⟩ := Int.eq_ofNat_of_zero_le h0
    rw [lbF_yes hN (by omega)]
    
    clear ht
    go_enter Try.func21, Try.ntmps21
    go_wp2_with fail
    refine (upToYears_any _ _ _ _).mono ?_; rintro e w1 ⟨rfl, hb1⟩
    have hz1 := hb1.size
    try simp at hz1
    have t1 : Two w1 (w.heap.size) (.int .i64 N) (.int .i64 S) 24 := Two.below (by repeat (first | assumption | exact Two.new' _ _ _ _ _ (by simp) | refine Two.alloc ?_ _ | refine Two.drewN ?_ _)) hb1 (by first | omega | (simp <;> omega))
    have hlt1 : (w.heap.size) < w1.heap.size := t1.lt
    have hnt1 : ¬ (w.heap.size) = w1.heap.size := Nat.ne_of_lt hlt1
    have t1c := t1.cell0
    have t1d := t1.cell1
    rw [hu.out]
    go_wp2_with fail
    refine (sumYears_any N S Y _ w.heap.size hN (by omega) (by assumption)).mono ?_; rintro e w2 ⟨rfl, hb2⟩
    go_wp2
    go_ret
    exact ⟨rfl, (by repeat (first | exact Below.refl _ _ | assumption | (refine Below.trans ?_ (Below.mono (by assumption) (by first | omega | (simp <;> omega)))) | (refine Below.alloc ?_ (by first | omega | (simp <;> omega)) _) | (refine below_drewN ?_ _) | (refine Below.drew ?_) | (refine Below.setCell ?_ (by first | omega | (simp <;> omega)) _)))⟩
  · rw [lbF_no hc]
    have hu := Lib.hid (utyF_no hc)
    
    go_enter Try.func21, Try.ntmps21
    go_wp2_with fail
    refine (upToYears_any _ _ _ _).mono ?_; rintro e w1 ⟨rfl, hb1⟩
    have hz1 := hb1.size
    try simp at hz1
    have t1 : Two w1 (w.heap.size) (.int .i64 n) (.int .i64 s) 24 := Two.below (by repeat (first | assumption | exact Two.new' _ _ _ _ _ (by simp) | refine Two.alloc ?_ _ | refine Two.drewN ?_ _)) hb1 (by first | omega | (simp <;> omega))
    have hlt1 : (w.heap.size) < w1.heap.size := t1.lt
    have hnt1 : ¬ (w.heap.size) = w1.heap.size := Nat.ne_of_lt hlt1
    have t1c := t1.cell0
    have t1d := t1.cell1
    rw [hu.out]
    go_wp2
    go_ret
    exact ⟨rfl, (by repeat (first | exact Below.refl _ _ | assumption | (refine Below.trans ?_ (Below.mono (by assumption) (by first | omega | (simp <;> omega)))) | (refine Below.alloc ?_ (by first | omega | (simp <;> omega)) _) | (refine below_drewN ?_ _) | (refine Below.drew ?_) | (refine Below.setCell ?_ (by first | omega | (simp <;> omega)) _)))⟩

set_option maxHeartbeats 1000000 in
theorem longYear_any (n s y : Int) (w : World) :
    Calls Try.prog 16 #[(.agg #[.int .i64 (n), .int .i64 (s)]), .int .i64 y] w fun e w' => e = .returned (.bool (lyF n s y)) ∧ Below w.heap.size w w' := by
  by_cases hc : tok n s = true ∧ 0 ≤ y ∧ y ≤ 200
  · obtain ⟨ht, h0, h1⟩ := hc
    have hu := Lib.hid (utyF_yes ht h0 h1)
    by_cases h2 : y < 200
    · obtain ⟨N, S, rfl, rfl, hN⟩ := tokN_of ht
      obtain ⟨Y, rfl⟩ := Int.eq_ofNat_of_zero_le h0
      rw [lyF_yes hN (by omega)]
      have hg := Lib.hid (fun w => goesOver_any N S Y w hN (by omega))
      
      clear ht
      go_enter Try.func16, Try.ntmps16
      go_wp2_with fail
      refine (upToYears_any _ _ _ _).mono ?_; rintro e w1 ⟨rfl, hb1⟩
      have hz1 := hb1.size
      try simp at hz1
      have t1 : Two w1 (w.heap.size) (.int .i64 N) (.int .i64 S) 24 := Two.below (by repeat (first | assumption | exact Two.new' _ _ _ _ _ (by simp) | refine Two.alloc ?_ _ | refine Two.drewN ?_ _)) hb1 (by first | omega | (simp <;> omega))
      have hlt1 : (w.heap.size) < w1.heap.size := t1.lt
      have hnt1 : ¬ (w.heap.size) = w1.heap.size := Nat.ne_of_lt hlt1
      have t1c := t1.cell0
      have t1d := t1.cell1
      rw [hu.out]
      go_wp2_with fail
      refine (hg.out _).mono ?_; rintro e w2 ⟨rfl, hb2⟩
      go_wp2
      go_ret
      exact ⟨rfl, (by repeat (first | exact Below.refl _ _ | assumption | (refine Below.trans ?_ (Below.mono (by assumption) (by first | omega | (simp <;> omega)))) | (refine Below.alloc ?_ (by first | omega | (simp <;> omega)) _) | (refine below_drewN ?_ _) | (refine Below.drew ?_) | (refine Below.setCell ?_ (by first | omega | (simp <;> omega)) _)))⟩
    · rw [lyF_no (by omega)]
      have h2' : decide (y < 200) = false := by simpa using h2
      
      go_enter Try.func16, Try.ntmps16
      go_wp2_with fail
      refine (upToYears_any _ _ _ _).mono ?_; rintro e w1 ⟨rfl, hb1⟩
      have hz1 := hb1.size
      try simp at hz1
      have t1 : Two w1 (w.heap.size) (.int .i64 n) (.int .i64 s) 24 := Two.below (by repeat (first | assumption | exact Two.new' _ _ _ _ _ (by simp) | refine Two.alloc ?_ _ | refine Two.drewN ?_ _)) hb1 (by first | omega | (simp <;> omega))
      have hlt1 : (w.heap.size) < w1.heap.size := t1.lt
      have hnt1 : ¬ (w.heap.size) = w1.heap.size := Nat.ne_of_lt hlt1
      have t1c := t1.cell0
      have t1d := t1.cell1
      rw [hu.out]
      go_wp2
      go_ret
      exact ⟨rfl, (by repeat (first | exact Below.refl _ _ | assumption | (refine Below.trans ?_ (Below.mono (by assumption) (by first | omega | (simp <;> omega)))) | (refine Below.alloc ?_ (by first | omega | (simp <;> omega)) _) | (refine below_drewN ?_ _) | (refine Below.drew ?_) | (refine Below.setCell ?_ (by first | omega | (simp <;> omega)) _)))⟩
  · rw [lyF_no (fun h => hc ⟨h.1, h.2.1, by omega⟩)]
    have hu := Lib.hid (utyF_no hc)
    
    go_enter Try.func16, Try.ntmps16
    go_wp2_with fail
    refine (upToYears_any _ _ _ _).mono ?_; rintro e w1 ⟨rfl, hb1⟩
    have hz1 := hb1.size
    try simp at hz1
    have t1 : Two w1 (w.heap.size) (.int .i64 n) (.int .i64 s) 24 := Two.below (by repeat (first | assumption | exact Two.new' _ _ _ _ _ (by simp) | refine Two.alloc ?_ _ | refine Two.drewN ?_ _)) hb1 (by first | omega | (simp <;> omega))
    have hlt1 : (w.heap.size) < w1.heap.size := t1.lt
    have hnt1 : ¬ (w.heap.size) = w1.heap.size := Nat.ne_of_lt hlt1
    have t1c := t1.cell0
    have t1d := t1.cell1
    rw [hu.out]
    go_wp2
    go_ret
    exact ⟨rfl, (by repeat (first | exact Below.refl _ _ | assumption | (refine Below.trans ?_ (Below.mono (by assumption) (by first | omega | (simp <;> omega)))) | (refine Below.alloc ?_ (by first | omega | (simp <;> omega)) _) | (refine below_drewN ?_ _) | (refine Below.drew ?_) | (refine Below.setCell ?_ (by first | omega | (simp <;> omega)) _)))⟩

set_option maxHeartbeats 1000000 in
theorem daysBefore_any (n s d y : Int) (w : World) :
    Calls Try.prog 24 #[(.agg #[.int .i64 (n), .int .i64 (s)]), .int .i64 d, .int .i64 y] w fun e w' => e = .returned (.int .i64 (dbF n s d y)) ∧ Below w.heap.size w w' := by
  by_cases hc : tok n s = true ∧ 0 ≤ y ∧ y ≤ 200
  · obtain ⟨ht, h0, h1⟩ := hc
    have hu := Lib.hid (utyF_yes ht h0 h1)
    by_cases d0 : d < 1
    · rw [dbF_no (by omega)]
      
      go_enter Try.func24, Try.ntmps24
      go_wp2_with fail
      refine (upToYears_any _ _ _ _).mono ?_; rintro e w1 ⟨rfl, hb1⟩
      have hz1 := hb1.size
      try simp at hz1
      have t1 : Two w1 (w.heap.size) (.int .i64 n) (.int .i64 s) 24 := Two.below (by repeat (first | assumption | exact Two.new' _ _ _ _ _ (by simp) | refine Two.alloc ?_ _ | refine Two.drewN ?_ _)) hb1 (by first | omega | (simp <;> omega))
      have hlt1 : (w.heap.size) < w1.heap.size := t1.lt
      have hnt1 : ¬ (w.heap.size) = w1.heap.size := Nat.ne_of_lt hlt1
      have t1c := t1.cell0
      have t1d := t1.cell1
      rw [hu.out]
      go_wp2
      go_ret
      exact ⟨rfl, (by repeat (first | exact Below.refl _ _ | assumption | (refine Below.trans ?_ (Below.mono (by assumption) (by first | omega | (simp <;> omega)))) | (refine Below.alloc ?_ (by first | omega | (simp <;> omega)) _) | (refine below_drewN ?_ _) | (refine Below.drew ?_) | (refine Below.setCell ?_ (by first | omega | (simp <;> omega)) _)))⟩
    · by_cases d1 : d > 400
      · rw [dbF_no (by omega)]
        have d0' : decide (d < 1) = false := by simpa using d0
        
        go_enter Try.func24, Try.ntmps24
        go_wp2_with fail
        refine (upToYears_any _ _ _ _).mono ?_; rintro e w1 ⟨rfl, hb1⟩
        have hz1 := hb1.size
        try simp at hz1
        have t1 : Two w1 (w.heap.size) (.int .i64 n) (.int .i64 s) 24 := Two.below (by repeat (first | assumption | exact Two.new' _ _ _ _ _ (by simp) | refine Two.alloc ?_ _ | refine Two.drewN ?_ _)) hb1 (by first | omega | (simp <;> omega))
        have hlt1 : (w.heap.size) < w1.heap.size := t1.lt
        have hnt1 : ¬ (w.heap.size) = w1.heap.size := Nat.ne_of_lt hlt1
        have t1c := t1.cell0
        have t1d := t1.cell1
        rw [hu.out]
        go_wp2
        go_ret
        exact ⟨rfl, (by repeat (first | exact Below.refl _ _ | assumption | (refine Below.trans ?_ (Below.mono (by assumption) (by first | omega | (simp <;> omega)))) | (refine Below.alloc ?_ (by first | omega | (simp <;> omega)) _) | (refine below_drewN ?_ _) | (refine Below.drew ?_) | (refine Below.setCell ?_ (by first | omega | (simp <;> omega)) _)))⟩
      · obtain ⟨N, S, rfl, rfl, hN⟩ := tokN_of ht
        obtain ⟨Y, rfl⟩ := Int.eq_ofNat_of_zero_le h0
        obtain ⟨D, rfl⟩ := Int.eq_ofNat_of_zero_le (show 0 ≤ d by omega)
        obtain ⟨b1, b2, b3, b4, _⟩ := tokN_bd hN
        have d0' : decide ((D : Int) < 1) = false := by simpa using d0
        have d1' : decide ((D : Int) > 400) = false := by simpa using d1
        have hp := Lib.hid (fun w => partsOfYear_any (N : Int) (S : Int) (D : Int) w (by omega) (by omega) (by omega) (by omega) (by omega) (by omega))
        have e1 : (D : Int) * (N : Int) + (S : Int) = ((D * N + S : Nat) : Int) := by simp
        rw [e1] at hp
        rw [dbF_yes hN (by omega) (by omega) (by omega), dbN_one (by omega)]
        have c1 : D * N ≤ 400 * 60 := Nat.mul_le_mul (by omega) (by omega)
        have c2 : Y * (D * N + S) ≤ 200 * 24060 := Nat.mul_le_mul (by omega) (by omega)
        have c3 : 0 ≤ (Y : Int) * ((D * N + S : Nat) : Int) := Int.mul_nonneg (by omega) (by omega)
        have c4 : (Y : Int) * ((D * N + S : Nat) : Int) ≤ 200 * 24060 := by
          have : (Y : Int) * ((D * N + S : Nat) : Int) = ((Y * (D * N + S) : Nat) : Int) := by simp
          omega
        have c5 : (Y : Int) * ((D * N + S : Nat) : Int) / (N : Int) = ((Y * (D * N + S) / N : Nat) : Int) := by simp
        have c6 : ((Y : Int) * ((D * N + S : Nat) : Int)).tdiv (N : Int) = ((Y * (D * N + S) / N : Nat) : Int) := by rw [Int.tdiv_eq_ediv_of_nonneg c3, c5]
        have c7 := Nat.div_le_self (Y * (D * N + S)) N
        generalize Y * (D * N + S) / N = q at *
        generalize D * N + S = p at *
        have hN0 : ¬ (N : Int) = 0 := by omega
        have w1 : IntKind.i64.wrap ((Y : Int) * (p : Int)) = (Y : Int) * (p : Int) := IntWalk.i64_in _ (by omega)
        have w2 : IntKind.i64.wrap (((Y : Int) * (p : Int)).tdiv (N : Int)) = (q : Int) := by rw [c6]; exact IntWalk.i64_in _ (by omega)
        have w3 : IntKind.i64.wrap (q : Int) = (q : Int) := IntWalk.i64_in _ (by omega)
        have q0 : (0 : Int) ≤ q := by omega
        have q1 : (q : Int) ≤ 4812000 := by omega
        have n0 : (2 : Int) ≤ N := by omega
        have n1 : (N : Int) ≤ 60 := by omega
        clear ht e1 c1 c2 c7 hN d0 d1 b1 b2 b3 b4 h0 h1
        generalize (Y : Int) = y at *
        generalize (p : Int) = p at *
        generalize (q : Int) = q at *
        generalize (N : Int) = n at *
        generalize (S : Int) = s at *
        
        go_enter Try.func24, Try.ntmps24
        go_wp2_with fail
        refine (upToYears_any _ _ _ _).mono ?_; rintro e w1 ⟨rfl, hb1⟩
        have hz1 := hb1.size
        try simp at hz1
        have t1 : Two w1 (w.heap.size) (.int .i64 n) (.int .i64 s) 24 := Two.below (by repeat (first | assumption | exact Two.new' _ _ _ _ _ (by simp) | refine Two.alloc ?_ _ | refine Two.drewN ?_ _)) hb1 (by first | omega | (simp <;> omega))
        have hlt1 : (w.heap.size) < w1.heap.size := t1.lt
        have hnt1 : ¬ (w.heap.size) = w1.heap.size := Nat.ne_of_lt hlt1
        have t1c := t1.cell0
        have t1d := t1.cell1
        rw [hu.out]
        go_wp2_with fail
        go_region_held3 (fun w' => w'.cell? ⟨w.heap.size, 0, none⟩ = some (.int .i64 n) ∧ w'.cell? ⟨w.heap.size, 1, none⟩ = some (.int .i64 s)) (first | go_keep | exact ⟨t'c, t'd⟩ | exact ⟨((t'.set (b := _) (by omega) 0 _).set (b := _) (by omega) 1 _).cell0, ((t'.set (b := _) (by omega) 0 _).set (b := _) (by omega) 1 _).cell1⟩) (first | (go_at_call 48; refine (hp.out _).mono ?_; rintro e w' ⟨rfl, hb'⟩; have t' := Two.below (b := w.heap.size) (x := .int .i64 n) (y := .int .i64 s) (T := 24) (by repeat (first | assumption | refine Two.alloc ?_ _)) hb' (by first | omega | (simp <;> omega)); have lt' := t'.lt; have t'c := t'.cell0; have t'd := t'.cell1; skip))
        go_wp2
        go_ret
        exact ⟨rfl, (by repeat (first | exact Below.refl _ _ | assumption | (refine Below.trans ?_ (Below.mono (by assumption) (by first | omega | (simp <;> omega)))) | (refine Below.alloc ?_ (by first | omega | (simp <;> omega)) _) | (refine below_drewN ?_ _) | (refine Below.drew ?_) | (refine Below.setCell ?_ (by first | omega | (simp <;> omega)) _)))⟩
  · rw [dbF_no (fun h => hc ⟨h.1, h.2.2⟩)]
    have hu := Lib.hid (utyF_no hc)
    
    go_enter Try.func24, Try.ntmps24
    go_wp2_with fail
    refine (upToYears_any _ _ _ _).mono ?_; rintro e w1 ⟨rfl, hb1⟩
    have hz1 := hb1.size
    try simp at hz1
    have t1 : Two w1 (w.heap.size) (.int .i64 n) (.int .i64 s) 24 := Two.below (by repeat (first | assumption | exact Two.new' _ _ _ _ _ (by simp) | refine Two.alloc ?_ _ | refine Two.drewN ?_ _)) hb1 (by first | omega | (simp <;> omega))
    have hlt1 : (w.heap.size) < w1.heap.size := t1.lt
    have hnt1 : ¬ (w.heap.size) = w1.heap.size := Nat.ne_of_lt hlt1
    have t1c := t1.cell0
    have t1d := t1.cell1
    rw [hu.out]
    go_wp2
    go_ret
    exact ⟨rfl, (by repeat (first | exact Below.refl _ _ | assumption | (refine Below.trans ?_ (Below.mono (by assumption) (by first | omega | (simp <;> omega)))) | (refine Below.alloc ?_ (by first | omega | (simp <;> omega)) _) | (refine below_drewN ?_ _) | (refine Below.drew ?_) | (refine Below.setCell ?_ (by first | omega | (simp <;> omega)) _)))⟩

/-- how many days a year has -/
theorem daysIn_any (N S : Nat) (d : Int) (k : Nat) (w : World) (ht : tokN N S = true) (hk : k ≤ 200) (d0 : 0 ≤ d) (d1 : d ≤ 400) :
    Calls Try.prog 50 #[(.agg #[.int .i64 (N), .int .i64 (S)]), .int .i64 d, .int .i64 k] w fun e w' => e = .returned (.int .i64 (d + ((letN N S k).toNat : Nat))) ∧ Below w.heap.size w w' := by
  have hg := Lib.hid (fun w => goesOver_any N S k w ht hk)
  
  clear ht
  cases hb : letN N S k with
  | true =>
    rw [hb] at hg
    go_enter Try.func50, Try.ntmps50
    go_wp2_with fail
    refine (hg.out _).mono ?_; rintro e w1 ⟨rfl, hb1⟩
    go_wp2
    go_ret
    exact ⟨rfl, (by repeat (first | exact Below.refl _ _ | assumption | (refine Below.trans ?_ (Below.mono (by assumption) (by first | omega | (simp <;> omega)))) | (refine Below.alloc ?_ (by first | omega | (simp <;> omega)) _) | (refine below_drewN ?_ _) | (refine Below.drew ?_) | (refine Below.setCell ?_ (by first | omega | (simp <;> omega)) _)))⟩
  | false =>
    rw [hb] at hg
    go_enter Try.func50, Try.ntmps50
    go_wp2_with fail
    refine (hg.out _).mono ?_; rintro e w1 ⟨rfl, hb1⟩
    go_wp2
    go_ret
    exact ⟨by simp, (by repeat (first | exact Below.refl _ _ | assumption | (refine Below.trans ?_ (Below.mono (by assumption) (by first | omega | (simp <;> omega)))) | (refine Below.alloc ?_ (by first | omega | (simp <;> omega)) _) | (refine below_drewN ?_ _) | (refine Below.drew ?_) | (refine Below.setCell ?_ (by first | omega | (simp <;> omega)) _)))⟩

set_option maxHeartbeats 1000000 in
theorem driftOf_any (n s y : Int) (w : World) :
    Calls Try.prog 33 #[(.agg #[.int .i64 (n), .int .i64 (s)]), .int .i64 y] w fun e w' => e = .returned (.int .i64 (driftF n s y)) ∧ Below w.heap.size w w' := by
  by_cases hc : tok n s = true ∧ 0 ≤ y ∧ y ≤ 200
  · obtain ⟨ht, h0, h1⟩ := hc
    have hu := Lib.hid (utyF_yes ht h0 h1)
    obtain ⟨N, S, rfl, rfl, hN⟩ := tokN_of ht
    obtain ⟨Y, rfl⟩ := Int.eq_ofNat_of_zero_le h0
    obtain ⟨b1, b2, b3, b4, _⟩ := tokN_bd hN
    rw [driftF_yes hN (by omega), ← drift_calc]
    have hp := Lib.hid (fun w => longBefore_any (N : Int) (S : Int) (Y : Int) w)
    rw [lbF_yes hN (by omega)] at hp
    have hL := flN_le (N := N) (S := S) (by omega) (by omega) Y
    generalize flN N S Y = L at *
    have c0 : 0 ≤ (Y : Int) * (S : Int) := Int.mul_nonneg (by omega) (by omega)
    have c1 : (Y : Int) * (S : Int) ≤ 200 * 60 := Int.mul_le_mul (by omega) (by omega) (by omega) (by omega)
    have c2 : 0 ≤ (N : Int) * (L : Int) := Int.mul_nonneg (by omega) (by omega)
    have c3 : (N : Int) * (L : Int) ≤ 60 * 200 := Int.mul_le_mul (by omega) (by omega) (by omega) (by omega)
    have w1 : IntKind.i64.wrap ((Y : Int) * (S : Int)) = (Y : Int) * (S : Int) := IntWalk.i64_in _ (by omega)
    have w2 : IntKind.i64.wrap ((N : Int) * (L : Int)) = (N : Int) * (L : Int) := IntWalk.i64_in _ (by omega)
    have w3 : IntKind.i64.wrap ((Y : Int) * (S : Int) - (N : Int) * (L : Int)) = (Y : Int) * (S : Int) - (N : Int) * (L : Int) := IntWalk.i64_in _ (by omega)
    
    clear ht hN
    go_enter Try.func33, Try.ntmps33
    go_wp2_with fail
    refine (upToYears_any _ _ _ _).mono ?_; rintro e w1 ⟨rfl, hb1⟩
    have hz1 := hb1.size
    try simp at hz1
    have t1 : Two w1 (w.heap.size) (.int .i64 N) (.int .i64 S) 24 := Two.below (by repeat (first | assumption | exact Two.new' _ _ _ _ _ (by simp) | refine Two.alloc ?_ _ | refine Two.drewN ?_ _)) hb1 (by first | omega | (simp <;> omega))
    have hlt1 : (w.heap.size) < w1.heap.size := t1.lt
    have hnt1 : ¬ (w.heap.size) = w1.heap.size := Nat.ne_of_lt hlt1
    have t1c := t1.cell0
    have t1d := t1.cell1
    rw [hu.out]
    go_wp2_with fail
    go_region_held3 (fun w' => w'.cell? ⟨w.heap.size, 0, none⟩ = some (.int .i64 N) ∧ w'.cell? ⟨w.heap.size, 1, none⟩ = some (.int .i64 S)) (first | go_keep | exact ⟨t'c, t'd⟩ | exact ⟨((t'.set (b := _) (by omega) 0 _).set (b := _) (by omega) 1 _).cell0, ((t'.set (b := _) (by omega) 0 _).set (b := _) (by omega) 1 _).cell1⟩) (first | (go_at_call 21; refine (hp.out _).mono ?_; rintro e w' ⟨rfl, hb'⟩; have t' := Two.below (b := w.heap.size) (x := .int .i64 N) (y := .int .i64 S) (T := 24) (by repeat (first | assumption | refine Two.alloc ?_ _)) hb' (by first | omega | (simp <;> omega)); have lt' := t'.lt; have t'c := t'.cell0; have t'd := t'.cell1; skip))
    go_wp2
    go_ret
    exact ⟨rfl, (by repeat (first | exact Below.refl _ _ | assumption | (refine Below.trans ?_ (Below.mono (by assumption) (by first | omega | (simp <;> omega)))) | (refine Below.alloc ?_ (by first | omega | (simp <;> omega)) _) | (refine below_drewN ?_ _) | (refine Below.drew ?_) | (refine Below.setCell ?_ (by first | omega | (simp <;> omega)) _)))⟩
  · rw [driftF_no hc]
    have hu := Lib.hid (utyF_no hc)
    
    go_enter Try.func33, Try.ntmps33
    go_wp2_with fail
    refine (upToYears_any _ _ _ _).mono ?_; rintro e w1 ⟨rfl, hb1⟩
    have hz1 := hb1.size
    try simp at hz1
    have t1 : Two w1 (w.heap.size) (.int .i64 n) (.int .i64 s) 24 := Two.below (by repeat (first | assumption | exact Two.new' _ _ _ _ _ (by simp) | refine Two.alloc ?_ _ | refine Two.drewN ?_ _)) hb1 (by first | omega | (simp <;> omega))
    have hlt1 : (w.heap.size) < w1.heap.size := t1.lt
    have hnt1 : ¬ (w.heap.size) = w1.heap.size := Nat.ne_of_lt hlt1
    have t1c := t1.cell0
    have t1d := t1.cell1
    rw [hu.out]
    go_wp2
    go_ret
    exact ⟨rfl, (by repeat (first | exact Below.refl _ _ | assumption | (refine Below.trans ?_ (Below.mono (by assumption) (by first | omega | (simp <;> omega)))) | (refine Below.alloc ?_ (by first | omega | (simp <;> omega)) _) | (refine below_drewN ?_ _) | (refine Below.drew ?_) | (refine Below.setCell ?_ (by first | omega | (simp <;> omega)) _)))⟩

set_option maxHeartbeats 2000000 in
theorem dayNumber_any (n s d y x : Int) (w : World) :
    Calls Try.prog 27 #[(.agg #[.int .i64 (n), .int .i64 (s)]), .int .i64 d, .int .i64 y, .int .i64 x] w fun e w' => e = .returned (.int .i64 (dayF n s d y x)) ∧ Below w.heap.size w w' := by
  by_cases hc : tok n s = true ∧ (1 ≤ d ∧ d ≤ 400) ∧ (0 ≤ y ∧ y ≤ 200)
  · obtain ⟨ht, ⟨d0, d1⟩, h0, h1⟩ := hc
    obtain ⟨N, S, rfl, rfl, hN⟩ := tokN_of ht
    obtain ⟨Y, rfl⟩ := Int.eq_ofNat_of_zero_le h0
    obtain ⟨D, rfl⟩ := Int.eq_ofNat_of_zero_le (show 0 ≤ d by omega)
    obtain ⟨b1, b2, b3, b4, _⟩ := tokN_bd hN
    have hp := Lib.hid (dbF_yes (N := N) (S := S) (D := D) (Y := Y) hN (by omega) (by omega) (by omega))
    have hle := dbN_le (n := N) (s := S) (by omega) (by omega) (show D ≤ 400 by omega) (show Y ≤ 201 by omega)
    have p0 : decide (((dbN N S D Y : Nat) : Int) < 0) = false := by rw [decide_eq_false]; omega
    by_cases hy : (Y : Int) = 200
    · rw [dayF_no (by omega)]
      generalize dbN N S D Y = p at *
      have hy' : ((Y : Int) == 200) = true := by simpa using hy
      clear hy ht hN
      
      go_enter Try.func27, Try.ntmps27
      go_wp2_with fail
      refine (daysBefore_any _ _ _ _ _).mono ?_; rintro e w1 ⟨rfl, hb1⟩
      have hz1 := hb1.size
      try simp at hz1
      have t1 : Two w1 (w.heap.size) (.int .i64 N) (.int .i64 S) 24 := Two.below (by repeat (first | assumption | exact Two.new' _ _ _ _ _ (by simp) | refine Two.alloc ?_ _ | refine Two.drewN ?_ _)) hb1 (by first | omega | (simp <;> omega))
      have hlt1 : (w.heap.size) < w1.heap.size := t1.lt
      have hnt1 : ¬ (w.heap.size) = w1.heap.size := Nat.ne_of_lt hlt1
      have t1c := t1.cell0
      have t1d := t1.cell1
      rw [hp.out]
      go_wp2
      go_ret
      exact ⟨rfl, (by repeat (first | exact Below.refl _ _ | assumption | (refine Below.trans ?_ (Below.mono (by assumption) (by first | omega | (simp <;> omega)))) | (refine Below.alloc ?_ (by first | omega | (simp <;> omega)) _) | (refine below_drewN ?_ _) | (refine Below.drew ?_) | (refine Below.setCell ?_ (by first | omega | (simp <;> omega)) _)))⟩
    · have hy' : ((Y : Int) == 200) = false := by simpa using hy
      by_cases hx : x < 0
      · rw [dayF_no (by omega)]
        generalize dbN N S D Y = p at *
        clear hy ht hN
        
        go_enter Try.func27, Try.ntmps27
        go_wp2_with fail
        refine (daysBefore_any _ _ _ _ _).mono ?_; rintro e w1 ⟨rfl, hb1⟩
        have hz1 := hb1.size
        try simp at hz1
        have t1 : Two w1 (w.heap.size) (.int .i64 N) (.int .i64 S) 24 := Two.below (by repeat (first | assumption | exact Two.new' _ _ _ _ _ (by simp) | refine Two.alloc ?_ _ | refine Two.drewN ?_ _)) hb1 (by first | omega | (simp <;> omega))
        have hlt1 : (w.heap.size) < w1.heap.size := t1.lt
        have hnt1 : ¬ (w.heap.size) = w1.heap.size := Nat.ne_of_lt hlt1
        have t1c := t1.cell0
        have t1d := t1.cell1
        rw [hp.out]
        go_wp2
        go_ret
        exact ⟨rfl, (by repeat (first | exact Below.refl _ _ | assumption | (refine Below.trans ?_ (Below.mono (by assumption) (by first | omega | (simp <;> omega)))) | (refine Below.alloc ?_ (by first | omega | (simp <;> omega)) _) | (refine below_drewN ?_ _) | (refine Below.drew ?_) | (refine Below.setCell ?_ (by first | omega | (simp <;> omega)) _)))⟩
      · obtain ⟨X, rfl⟩ := Int.eq_ofNat_of_zero_le (show 0 ≤ x by omega)
        have hx' : decide ((X : Int) < 0) = false := by rw [decide_eq_false]; omega
        have hg := Lib.hid (fun w => daysIn_any N S (D : Int) Y w hN (by omega) (by omega) (by omega))
        have hd : (letN N S Y).toNat ≤ 1 := by cases letN N S Y <;> simp
        by_cases hX : X < D + (letN N S Y).toNat
        · rw [dayF_yes hN (by omega) (by omega) (by omega) hX]
          generalize dbN N S D Y = p at *
          generalize (letN N S Y).toNat = l at *
          have hX' : decide ((X : Int) ≥ (D : Int) + (l : Int)) = false := by rw [decide_eq_false]; omega
          have hXb : X ≤ 500 := by omega
          clear hy ht hN hx hX
          
          go_enter Try.func27, Try.ntmps27
          go_wp2_with fail
          refine (daysBefore_any _ _ _ _ _).mono ?_; rintro e w1 ⟨rfl, hb1⟩
          have hz1 := hb1.size
          try simp at hz1
          have t1 : Two w1 (w.heap.size) (.int .i64 N) (.int .i64 S) 24 := Two.below (by repeat (first | assumption | exact Two.new' _ _ _ _ _ (by simp) | refine Two.alloc ?_ _ | refine Two.drewN ?_ _)) hb1 (by first | omega | (simp <;> omega))
          have hlt1 : (w.heap.size) < w1.heap.size := t1.lt
          have hnt1 : ¬ (w.heap.size) = w1.heap.size := Nat.ne_of_lt hlt1
          have t1c := t1.cell0
          have t1d := t1.cell1
          rw [hp.out]
          go_wp2_with fail
          refine (hg.out _).mono ?_; rintro e w2 ⟨rfl, hb2⟩
          go_wp2
          go_ret
          exact ⟨by go_num, (by repeat (first | exact Below.refl _ _ | assumption | (refine Below.trans ?_ (Below.mono (by assumption) (by first | omega | (simp <;> omega)))) | (refine Below.alloc ?_ (by first | omega | (simp <;> omega)) _) | (refine below_drewN ?_ _) | (refine Below.drew ?_) | (refine Below.setCell ?_ (by first | omega | (simp <;> omega)) _)))⟩
        · rw [dayF_no (by rw [lyF_yes hN (by omega)]; omega)]
          generalize dbN N S D Y = p at *
          generalize (letN N S Y).toNat = l at *
          have hX' : (X : Int) ≥ (D : Int) + (l : Int) := by omega
          clear hy ht hN hx hX
          
          go_enter Try.func27, Try.ntmps27
          go_wp2_with fail
          refine (daysBefore_any _ _ _ _ _).mono ?_; rintro e w1 ⟨rfl, hb1⟩
          have hz1 := hb1.size
          try simp at hz1
          have t1 : Two w1 (w.heap.size) (.int .i64 N) (.int .i64 S) 24 := Two.below (by repeat (first | assumption | exact Two.new' _ _ _ _ _ (by simp) | refine Two.alloc ?_ _ | refine Two.drewN ?_ _)) hb1 (by first | omega | (simp <;> omega))
          have hlt1 : (w.heap.size) < w1.heap.size := t1.lt
          have hnt1 : ¬ (w.heap.size) = w1.heap.size := Nat.ne_of_lt hlt1
          have t1c := t1.cell0
          have t1d := t1.cell1
          rw [hp.out]
          go_wp2_with fail
          refine (hg.out _).mono ?_; rintro e w2 ⟨rfl, hb2⟩
          go_wp2
          go_ret
          exact ⟨rfl, (by repeat (first | exact Below.refl _ _ | assumption | (refine Below.trans ?_ (Below.mono (by assumption) (by first | omega | (simp <;> omega)))) | (refine Below.alloc ?_ (by first | omega | (simp <;> omega)) _) | (refine below_drewN ?_ _) | (refine Below.drew ?_) | (refine Below.setCell ?_ (by first | omega | (simp <;> omega)) _)))⟩
  · rw [dayF_no (fun h => hc ⟨h.1.1, h.1.2.1, h.1.2.2.1, by omega⟩)]
    have hp := Lib.hid (dbF_no hc)
    
    go_enter Try.func27, Try.ntmps27
    go_wp2_with fail
    refine (daysBefore_any _ _ _ _ _).mono ?_; rintro e w1 ⟨rfl, hb1⟩
    have hz1 := hb1.size
    try simp at hz1
    have t1 : Two w1 (w.heap.size) (.int .i64 n) (.int .i64 s) 24 := Two.below (by repeat (first | assumption | exact Two.new' _ _ _ _ _ (by simp) | refine Two.alloc ?_ _ | refine Two.drewN ?_ _)) hb1 (by first | omega | (simp <;> omega))
    have hlt1 : (w.heap.size) < w1.heap.size := t1.lt
    have hnt1 : ¬ (w.heap.size) = w1.heap.size := Nat.ne_of_lt hlt1
    have t1c := t1.cell0
    have t1d := t1.cell1
    rw [hp.out]
    go_wp2
    go_ret
    exact ⟨rfl, (by repeat (first | exact Below.refl _ _ | assumption | (refine Below.trans ?_ (Below.mono (by assumption) (by first | omega | (simp <;> omega)))) | (refine Below.alloc ?_ (by first | omega | (simp <;> omega)) _) | (refine below_drewN ?_ _) | (refine Below.drew ?_) | (refine Below.setCell ?_ (by first | omega | (simp <;> omega)) _)))⟩

set_option maxHeartbeats 2000000 in
theorem dateOf_any (n s d x : Int) (w : World) :
    Calls Try.prog 29 #[(.agg #[.int .i64 (n), .int .i64 (s)]), .int .i64 d, .int .i64 x] w fun e w' => e = .returned (.tuple #[.int .i64 (dateY n s d x), .int .i64 (dateD n s d x), .bool (dateP n s d x)]) ∧ Below w.heap.size w w' := by
  by_cases hx : x < 0
  · obtain ⟨e1, e2, e3⟩ := date_no (n := n) (s := s) (d := d) (x := x) (by omega)
    rw [e1, e2, e3]
    
    clear e1 e2 e3
    go_enter Try.func29, Try.ntmps29
    go_wp2
    refine bodyPost_ret (v := .tuple #[.int .i64 (-1), .int .i64 (-1), .bool false]) (by simp [results, Try.results29, go_sem]) rfl ?_
    exact ⟨rfl, (by repeat (first | exact Below.refl _ _ | assumption | (refine Below.trans ?_ (Below.mono (by assumption) (by first | omega | (simp <;> omega)))) | (refine Below.alloc ?_ (by first | omega | (simp <;> omega)) _) | (refine below_drewN ?_ _) | (refine Below.drew ?_) | (refine Below.setCell ?_ (by first | omega | (simp <;> omega)) _)))⟩
  · have hx' : decide (x < 0) = false := by simpa using hx
    by_cases hc : (tok n s = true ∧ (1 ≤ d ∧ d ≤ 400)) ∧ 0 ≤ x ∧ x < dbF n s d 200
    · obtain ⟨⟨ht, d0, d1⟩, h0, h1⟩ := hc
      obtain ⟨N, S, rfl, rfl, hN⟩ := tokN_of ht
      obtain ⟨X, rfl⟩ := Int.eq_ofNat_of_zero_le h0
      obtain ⟨D, rfl⟩ := Int.eq_ofNat_of_zero_le (show 0 ≤ d by omega)
      obtain ⟨b1, b2, b3, b4, _⟩ := tokN_bd hN
      have hp := dbF_yes (N := N) (S := S) (D := D) (Y := 200) hN (by omega) (by omega) (by omega)
      have hX : X < dbN N S D 200 := by
        have : dbF (N : Int) (S : Int) (D : Int) 200 = ((dbN N S D 200 : Nat) : Int) := hp
        omega
      obtain ⟨e1, e2, e3, e4, e5, e6, e7⟩ := date_yes hN (by omega) (by omega) hX
      rw [e1, e2, e3]
      have hp := Lib.hid hp
      have hq := Lib.hid (dbF_yes (N := N) (S := S) (D := D) (Y := yearN N S D X) hN (by omega) (by omega) (by omega))
      have hu : upN ((X + 1) * N) (D * N + S) = yearN N S D X + 1 := (yearN_up (by omega) (by omega) X).symm
      have m1 : D * N ≤ 400 * 60 := Nat.mul_le_mul (by omega) (by omega)
      have m2 : (X + 1) * N ≤ 100001 * 60 := Nat.mul_le_mul (by omega) (by omega)
      have hd := Lib.hid (fun w => dividedUpY_any ((X + 1) * N) (D * N + S) w (by omega) (by omega) (by omega))
      rw [hu] at hd
      have hg := Lib.hid (fun w => partsOfYear_any (N : Int) (S : Int) (D : Int) w (by omega) (by omega) (by omega) (by omega) (by omega) (by omega))
      have f1 : (D : Int) * (N : Int) + (S : Int) = ((D * N + S : Nat) : Int) := by simp
      rw [f1] at hg
      have f2 : ((X : Int) + 1) * (N : Int) = (((X + 1) * N : Nat) : Int) := by simp
      have w1 : IntKind.i64.wrap ((X : Int) + 1) = (X : Int) + 1 := IntWalk.i64_in _ (by omega)
      have w2 : IntKind.i64.wrap (((X : Int) + 1) * (N : Int)) = (((X + 1) * N : Nat) : Int) := by rw [f2]; exact IntWalk.i64_in _ (by omega)
      have lt1 := dbN_le (n := N) (s := S) (by omega) (by omega) (show D ≤ 400 by omega) (show 200 ≤ 201 by omega)
      generalize yearN N S D X = q at *
      generalize dbN N S D q = p at *
      generalize (X + 1) * N = a at *
      generalize D * N + S = b at *
      generalize dbN N S D 200 = z at *
      have hX' : decide (z ≤ X) = false := by rw [decide_eq_false]; omega
      
      clear ht hN e1 e2 e3 f1 f2 m1 m2 hu hX
      go_enter Try.func29, Try.ntmps29
      go_wp2_with fail
      refine (daysBefore_any _ _ _ _ _).mono ?_; rintro e w1 ⟨rfl, hb1⟩
      have hz1 := hb1.size
      try simp at hz1
      have t1 : Two w1 (w.heap.size) (.int .i64 N) (.int .i64 S) 24 := Two.below (by repeat (first | assumption | exact Two.new' _ _ _ _ _ (by simp) | refine Two.alloc ?_ _ | refine Two.drewN ?_ _)) hb1 (by first | omega | (simp <;> omega))
      have hlt1 : (w.heap.size) < w1.heap.size := t1.lt
      have hnt1 : ¬ (w.heap.size) = w1.heap.size := Nat.ne_of_lt hlt1
      have t1c := t1.cell0
      have t1d := t1.cell1
      rw [show dbF (N : Int) (S : Int) (D : Int) 200 = (z : Int) from hp.out]
      go_wp2_with fail
      go_region_held3 (fun w' => w'.cell? ⟨w.heap.size, 0, none⟩ = some (.int .i64 N) ∧ w'.cell? ⟨w.heap.size, 1, none⟩ = some (.int .i64 S)) (first | go_keep | exact ⟨t'c, t'd⟩ | exact ⟨((t'.set (b := _) (by omega) 0 _).set (b := _) (by omega) 1 _).cell0, ((t'.set (b := _) (by omega) 0 _).set (b := _) (by omega) 1 _).cell1⟩) (first | (go_at_call 48; refine (hg.out _).mono ?_; rintro e w' ⟨rfl, hb'⟩; have t' := Two.below (b := w.heap.size) (x := .int .i64 N) (y := .int .i64 S) (T := 24) (by repeat (first | assumption | refine Two.alloc ?_ _)) hb' (by first | omega | (simp <;> omega)); have lt' := t'.lt; have t'c := t'.cell0; have t'd := t'.cell1; skip) | (go_at_call 51; refine (hd.out _).mono ?_; rintro e w' ⟨rfl, hb'⟩; have t' := Two.below (b := w.heap.size) (x := .int .i64 N) (y := .int .i64 S) (T := 24) (by repeat (first | assumption | refine Two.alloc ?_ _)) hb' (by first | omega | (simp <;> omega)); have lt' := t'.lt; have t'c := t'.cell0; have t'd := t'.cell1; skip))
      go_wp2_with fail
      refine (daysBefore_any _ _ _ _ _).mono ?_; rintro e w3 ⟨rfl, hb3⟩
      rw [hq.out]
      have wq : IntKind.i64.wrap (q : Int) = q := IntWalk.i64_in _ (by omega)
      have xp : (X : Int) - (p : Int) = ((X - p : Nat) : Int) := by omega
      go_wp2
      refine bodyPost_ret (v := .tuple #[.int .i64 q, .int .i64 ((X - p : Nat) : Int), .bool true]) (by simp [results, Try.results29, go_sem, wq, xp]) rfl ?_
      exact ⟨rfl, (by repeat (first | exact Below.refl _ _ | assumption | (refine Below.trans ?_ (Below.mono (by assumption) (by first | omega | (simp <;> omega)))) | (refine Below.alloc ?_ (by first | omega | (simp <;> omega)) _) | (refine below_drewN ?_ _) | (refine Below.drew ?_) | (refine Below.setCell ?_ (by first | omega | (simp <;> omega)) _)))⟩
    · obtain ⟨e1, e2, e3⟩ := date_no hc
      rw [e1, e2, e3]
      have hX' : x ≥ dbF n s d 200 := by
        by_cases h : tok n s = true ∧ (1 ≤ d ∧ d ≤ 400)
        · exact Int.not_lt.mp (fun c => hc ⟨h, by omega, c⟩)
        · rw [dbF_no (fun hh => h ⟨hh.1, hh.2.1⟩)]; omega
      generalize hz : dbF n s d 200 = z at *
      have hz := Lib.hid hz
      
      clear e1 e2 e3 hc
      go_enter Try.func29, Try.ntmps29
      go_wp2_with fail
      refine (daysBefore_any _ _ _ _ _).mono ?_; rintro e w1 ⟨rfl, hb1⟩
      have hz1 := hb1.size
      try simp at hz1
      have t1 : Two w1 (w.heap.size) (.int .i64 n) (.int .i64 s) 24 := Two.below (by repeat (first | assumption | exact Two.new' _ _ _ _ _ (by simp) | refine Two.alloc ?_ _ | refine Two.drewN ?_ _)) hb1 (by first | omega | (simp <;> omega))
      have hlt1 : (w.heap.size) < w1.heap.size := t1.lt
      have hnt1 : ¬ (w.heap.size) = w1.heap.size := Nat.ne_of_lt hlt1
      have t1c := t1.cell0
      have t1d := t1.cell1
      rw [hz.out]
      go_wp2
      refine bodyPost_ret (v := .tuple #[.int .i64 (-1), .int .i64 (-1), .bool false]) (by simp [results, Try.results29, go_sem]) rfl ?_
      exact ⟨rfl, (by repeat (first | exact Below.refl _ _ | assumption | (refine Below.trans ?_ (Below.mono (by assumption) (by first | omega | (simp <;> omega)))) | (refine Below.alloc ?_ (by first | omega | (simp <;> omega)) _) | (refine below_drewN ?_ _) | (refine Below.drew ?_) | (refine Below.setCell ?_ (by first | omega | (simp <;> omega)) _)))⟩
end Go.Proofs.Ytokmmbmkfpfmgaa
