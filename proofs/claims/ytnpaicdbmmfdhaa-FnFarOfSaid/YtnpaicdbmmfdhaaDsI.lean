/- Contract of DigitSum of the program: a sum over a closure. -/
import Derived.Test.YtnpaicdbmmfdhaaDigI
import Derived.BigQuiet
set_option linter.unusedVariables false
namespace Go.Proofs.Ytnpaicdbmmfdhaa

set_option maxRecDepth 4000
open Go.ChangeShapes Go.WideShapes Go.ChangeAt Go.RowKit Go.Joins

theorem dsum1_any (d : Nat → Nat) (m : Nat) (k : Nat) (w : World) (a g off cap : Nat) (hm : m ≤ 8) (hk : k < m)
    (ha : One w a (.slice (some ⟨g, off, none⟩) m cap) 30) (hc : w.cell? ⟨g, off + k, none⟩ = some (.int .i64 ((d k : Nat) : Int))) :
    Calls Try.prog 44 #[.int .i64 k, .pointer (some ⟨a, 0, none⟩)] w fun e w' => e = .returned (.int .i64 ((d k : Nat) : Int)) ∧ Below w.heap.size w w' := by
  have c0 := ha.cell
  have hk' : (k : Int) < m := by omega
  generalize d k = X at *
  go_enter Try.func44, Try.ntmps44
  go_wp2
  go_ret
  exact ⟨rfl, (by repeat (first | exact Below.refl _ _ | assumption | (refine Below.trans ?_ (Below.mono (by assumption) (by first | omega | (simp <;> omega)))) | (refine Below.alloc ?_ (by first | omega | (simp <;> omega)) _) | (refine below_drewN ?_ _) | (refine Below.drew ?_) | (refine Below.setCell ?_ (by first | omega | (simp <;> omega)) _)))⟩

theorem sumD_60 (d : Nat → Nat) {m : Nat} (hd : ∀ i, i < m → d i ≤ 60) : ∀ k, k ≤ m → sumD d k ≤ 60 * k := by
  intro k
  induction k with
  | zero => intro _; exact Nat.le_refl _
  | succ k ih =>
    intro hk
    have h1 := ih (by omega)
    have h2 := hd k (by omega)
    show sumD d k + d k ≤ 60 * (k + 1)
    omega

set_option maxHeartbeats 1000000 in
theorem sumDig_any (d : Nat → Nat) (m : Nat) (w : World) (a g off cap : Nat) (hm : m ≤ 8) (hd : ∀ i, i < m → d i ≤ 60)
    (ha : One w a (.slice (some ⟨g, off, none⟩) m cap) 30) (hc : ∀ i, i < m → w.cell? ⟨g, off + i, none⟩ = some (.int .i64 ((d i : Nat) : Int))) :
    Calls Try.prog 43 #[.int .i64 m, .func (.func 44) #[] #[.pointer (some ⟨a, 0, none⟩)]] w fun e w' => e = .returned (.int .i64 ((sumD d m : Nat) : Int)) ∧ Below w.heap.size w w' := by
  have HV := Lib.hid (fun (k : Nat) (wr : World) (hk : k < m) (hB : Below w.heap.size w wr) => dsum1_any d m k wr a g off cap hm hk (ha.below hB ha.lt) ((hB.cell (p := ⟨g, off + k, none⟩) (World.block_lt_of_cell? w _ (hc k hk))).trans (hc k hk)))
  have HL := Lib.hid (sumD_60 d hd)
  have HD := Lib.hid hd
  have HS : Hid (∀ k, ((sumD d (k + 1) : Nat) : Int) = ((sumD d k : Nat) : Int) + ((d k : Nat) : Int)) := fun k => by show ((sumD d k + d k : Nat) : Int) = _; omega
  have H0 : Hid (((sumD d 0 : Nat) : Int) = 0) := rfl
  have hB0 := Below.refl w.heap.size w
  clear ha hc hd
  go_enter Try.func43, Try.ntmps43
  go_wp2_with fail
  go_loopw [5, 8] (fun x y wr => ∃ k : Nat, x = .int .i64 ((sumD d k : Nat) : Int) ∧ y = .int .i64 k ∧ k ≤ m ∧ Below w.heap.size w wr) (fun _ y _ => m - (intOf y).toNat)
  case atStart => exact ⟨0, by rw [H0.out], rfl, by omega, hB0⟩
  case round =>
    obtain ⟨k, rfl, rfl, hk, hB⟩ := hrel
    by_cases hkm : k < m
    · have hkm' : (k : Int) < m := by omega
      have hcall := HV.out k wr hkm hB
      have hs := Lib.hid (HS.out k)
      have hl := HL.out k hk
      have hdk := HD.out k hkm
      generalize d k = X at *
      generalize sumD d k = Y at *
      go_wp2_with fail
      refine hcall.mono ?_; rintro e w2 ⟨rfl, hb2⟩
      have hB2 := hB.trans (hb2.mono hB.size)
      clear hb2 hcall hB
      go_wp2_with fail
      go_roundw
      case rel => exact ⟨k + 1, by rw [hs.out], by go_num, by omega, hB2⟩
      case measure => simp only [intOf]; omega
    · have hkm' : decide ((k : Int) < m) = false := by simp; omega
      obtain rfl : k = m := by omega
      go_wp2
      go_ret
      exact ⟨rfl, hB⟩

set_option maxHeartbeats 2000000 in
theorem digitSum_any (n s k : Int) (w : World) : Calls Try.prog 15 #[(.agg #[.int .i64 (n), .int .i64 (s)]), .int .i64 k] w fun e w' => e = .returned (.int .i64 (dsumF n s k)) ∧ Below w.heap.size w w' := by
  
  by_cases h : tok n s = true ∧ 0 ≤ k ∧ k < n
  · obtain ⟨ht, k0, k1⟩ := h
    obtain ⟨N, S, rfl, rfl, hN⟩ := tokN_of ht
    obtain ⟨k, rfl⟩ := Int.eq_ofNat_of_zero_le k0
    
    rw [dsumF_yes hN (by omega)]
    obtain ⟨r1, r2, r3, r4⟩ := bas_read hN
    have hdo := digitsOf_any (N : Int) (S : Int) (k : Int)
    rw [digF_yes hN (by omega)] at hdo
    have HDO := Lib.hid hdo
    have hlen : Hid ((castL (digN N S k)).length = bmN N S) := by show _ = _; rw [castL_len, digN_len]
    have hget : Hid (∀ i, i < bmN N S → (castL (digN N S k)).getD i 0 = ((digD (basAt N S) (bmN N S) k i : Nat) : Int)) := fun i hi => by rw [castL_getD, digN_get hi]
    have hd60 : Hid (∀ i, i < bmN N S → digD (basAt N S) (bmN N S) k i ≤ 60) := fun i hi => by
      have hb := tokN_bd hN
      unfold digD
      exact Nat.le_trans (Nat.div_le_self _ _) (Nat.le_trans (remD_le _ _ _ _) (by omega))
    generalize digN N S k = DL at *
    generalize bmN N S = m at *
    generalize digD (basAt N S) m k = d at *
    clear r1 r4 hdo hN ht
    go_enter Try.func15, Try.ntmps15
    go_wp2_with fail
    refine (HDO.out _).mono ?_; rintro e w1 ⟨v1, rfl, ho1, hb1⟩
    have hz1 := hb1.size
    try simp at hz1
    have t1 : Two w1 (w.heap.size) (.int .i64 N) (.int .i64 S) 24 := Two.below (by repeat (first | assumption | exact Two.new' _ _ _ _ _ (by simp) | refine Two.alloc ?_ _ | refine Two.drewN ?_ _)) hb1 (by first | omega | (simp <;> omega))
    have hlt1 : (w.heap.size) < w1.heap.size := t1.lt
    have hnt1 : ¬ (w.heap.size) = w1.heap.size := Nat.ne_of_lt hlt1
    have t1c := t1.cell0
    have t1d := t1.cell1
    obtain ⟨g, cap, cur, rfl, hbg, hr, hs, hnc, _, hcu⟩ := ho1.rowI (N := m) hlen.out (by omega)
    have hcs : Hid (∀ i, i < m → w1.cell? ⟨g, 0 + i, none⟩ = some (.int .i64 ((d i : Nat) : Int))) := fun i hi => by rw [Nat.zero_add, hr.cell, hcu i hi, hget.out i hi]
    have hlg := hr.lt
    have hB1 : Below w.heap.size w w1 := (by repeat (first | exact Below.refl _ _ | assumption | (refine Below.trans ?_ (Below.mono (by assumption) (by first | omega | (simp <;> omega)))) | (refine Below.alloc ?_ (by first | omega | (simp <;> omega)) _) | (refine below_drewN ?_ _) | (refine Below.drew ?_) | (refine Below.setCell ?_ (by first | omega | (simp <;> omega)) _)))
    have hm0 : ((m : Int) == 0) = false := by simp; omega
    clear ho1 hr hcu hb1
    obtain ⟨W2, hW2⟩ : ∃ W2, w1.alloc (.cells #[.slice (some ⟨g, 0, none⟩) m cap] 30) = W2 := ⟨_, rfl⟩
    have o2 : One W2 w1.heap.size (.slice (some ⟨g, 0, none⟩) m cap) 30 := by
      rw [← hW2]; exact One.new _ _ _
    have hb2 : Below w1.heap.size w1 W2 := by
      rw [← hW2]; exact (Below.refl _ _).alloc (Nat.le_refl _) _
    have hB2 := hB1.trans (hb2.mono hB1.size)
    have c2 := o2.cell
    have HC := Lib.hid (sumDig_any d m W2 w1.heap.size g 0 cap r3 hd60.out o2 (fun i hi => (hb2.cell (p := ⟨g, 0 + i, none⟩) hlg).trans (hcs.out i hi)))
    clear hb2
    go_wp2_with fail
    refine (HC.out).mono ?_; rintro e w3 ⟨rfl, hb3⟩
    have hB3 := hB2.trans (hb3.mono hB2.size)
    go_wp2
    go_ret
    exact ⟨rfl, hB3⟩
  · 
    have hdo := Lib.hid (digitsOf_any n s k)
    have hdn := digF_no h
    rw [dsumF_no h]
    go_enter Try.func15, Try.ntmps15
    go_wp2_with fail
    refine (hdo.out _).mono ?_; rintro e w1 ⟨v1, rfl, ho1, hb1⟩
    have hz1 := hb1.size
    try simp at hz1
    have t1 : Two w1 (w.heap.size) (.int .i64 n) (.int .i64 s) 24 := Two.below (by repeat (first | assumption | exact Two.new' _ _ _ _ _ (by simp) | refine Two.alloc ?_ _ | refine Two.drewN ?_ _)) hb1 (by first | omega | (simp <;> omega))
    have hlt1 : (w.heap.size) < w1.heap.size := t1.lt
    have hnt1 : ¬ (w.heap.size) = w1.heap.size := Nat.ne_of_lt hlt1
    have t1c := t1.cell0
    have t1d := t1.cell1
    rw [hdn] at ho1
    obtain ⟨a1, cap1, rfl, _⟩ := ho1.reads.cells (N := 0) rfl
    have hB1 : Below w.heap.size w w1 := (by repeat (first | exact Below.refl _ _ | assumption | (refine Below.trans ?_ (Below.mono (by assumption) (by first | omega | (simp <;> omega)))) | (refine Below.alloc ?_ (by first | omega | (simp <;> omega)) _) | (refine below_drewN ?_ _) | (refine Below.drew ?_) | (refine Below.setCell ?_ (by first | omega | (simp <;> omega)) _)))
    clear ho1
    go_wp2
    go_ret
    exact ⟨rfl, (by repeat (first | exact Below.refl _ _ | assumption | (refine Below.trans ?_ (Below.mono (by assumption) (by first | omega | (simp <;> omega)))) | (refine Below.alloc ?_ (by first | omega | (simp <;> omega)) _) | (refine below_drewN ?_ _) | (refine Below.drew ?_) | (refine Below.setCell ?_ (by first | omega | (simp <;> omega)) _)))⟩
end Go.Proofs.Ytnpaicdbmmfdhaa
