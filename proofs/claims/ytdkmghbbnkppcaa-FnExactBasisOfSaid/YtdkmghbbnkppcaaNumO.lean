/- Contracts of chapter 9's functions of the model: DigitsOk, NumberOf, NextDigits. -/
import Derived.Test.YtdkmghbbnkppcaaNumE
set_option linter.unusedVariables false
namespace Go.Proofs.Ytdkmghbbnkppcaa

set_option maxRecDepth 4000
open Go.ChangeShapes Go.WideShapes Go.ChangeAt Go.RowKit Go.Joins

theorem okB_succ (M : Nat → Nat) (D : List Int) (k : Nat) : okB M D (k + 1) = (okB M D k && (decide (0 ≤ D.getD k 0 ∧ D.getD k 0 ≤ (M k : Int)) && !decide (0 < k ∧ D.getD k 0 = (M k : Int) ∧ D.getD (k - 1) 0 ≠ 0))) := rfl

theorem l1In_quiet (n lo hi : Int) (w : World) {c : Bool} (h : (decide (lo ≤ n) && decide (n ≤ hi)) = c) : Calls Try.prog 65 #[.int .i64 n, .int .i64 lo, .int .i64 hi] w fun e w' => e = .returned (.bool c) ∧ ∃ q, w' = w.drewN q :=
  (l1In_any n lo hi w).mono fun e w' ⟨h1, h2⟩ => ⟨by rw [h1, h], 0, by rw [← h2]; rfl⟩

set_option maxHeartbeats 4000000 in
theorem specDigitsOk_any (n s : Int) (v : Value) (D : List Int) (w : World) (hv : Reads w v D) (hD : D.length ≤ 2000000) :
    Calls Try.prog 37 #[(.agg #[.int .i64 (n), .int .i64 (s)]), v] w fun e w' => e = .returned (.bool (okF n s D)) ∧ Below w.heap.size w w' := by
  
  obtain ⟨LD, hLD⟩ : ∃ L, D.length = L := ⟨_, rfl⟩
  obtain ⟨a, cap, rfl, hcells⟩ := hv.cells hLD
  by_cases ht : tok n s = true
  · have ht0 := ht
    obtain ⟨N, S, rfl, rfl, hN⟩ := tokN_of ht0
    
    obtain ⟨m1, m8, ml, hsc, m60, _⟩ := bas_facts hN
    have hmost := fun w => specMostDigits_any (N : Int) (S : Int) w
    rw [mostF_yes hN] at hmost
    have hG : ∀ i, (castL (mostN N S)).getD i 0 = ((mostAt N S i : Nat) : Int) := fun i => by rw [castL_getD]; rfl
    have hok : okF N S D = (decide (LD = bmN N S) && okB (mostAt N S) D (bmN N S)) := by unfold okF; rw [ht, hLD]; rfl
    have hml : (castL (mostN N S)).length = bmN N S := by rw [castL_len]; exact ml
    rw [hok]
    generalize mostN N S = MN at *
    generalize mostAt N S = M at *
    generalize bmN N S = m at *
    have HMost := Lib.hid hmost
    clear hok hmost hsc ml hN
    by_cases hlm : LD = m
    · subst hlm
      obtain ⟨g, off, rfl, HD⟩ := hcells (by omega)
      have lgD := World.block_lt_of_cell? w _ (HD.out 0 (by omega))
      rw [decide_eq_true rfl, Bool.true_and]
      have HG := Lib.hid hG
      have HML := Lib.hid hml
      have H60 := Lib.hid m60
      clear hG hml m60 hv hcells hLD ht0
      go_enter Try.func37, Try.ntmps37
      go_wp2_with fail
      refine (HMost.out _).mono ?_; rintro e w1 ⟨v5, rfl, ho1, hb1⟩
      have hz1 := hb1.size
      try simp at hz1
      have t1 : Two w1 (w.heap.size) (.int .i64 N) (.int .i64 S) 24 := Two.below (by repeat (first | assumption | exact Two.new' _ _ _ _ _ (by simp) | refine Two.alloc ?_ _ | refine Two.drewN ?_ _)) hb1 (by first | omega | (simp <;> omega))
      have hlt1 : (w.heap.size) < w1.heap.size := t1.lt
      have hnt1 : ¬ (w.heap.size) = w1.heap.size := Nat.ne_of_lt hlt1
      have t1c := t1.cell0
      have t1d := t1.cell1
      obtain ⟨gM, capM, cur, rfl, hbg, hr, _, hnc, _, hc⟩ := ho1.rowI (N := LD) HML.out (by omega)
      have HM : Hid (∀ i, i < LD → w1.cell? ⟨gM, i, none⟩ = some (.int .i64 ((M i : Nat) : Int))) := fun i hi => by rw [hr.cell, hc i hi, HG.out i]
      have HDD : Hid (∀ i, i < LD → w1.cell? ⟨g, off + i, none⟩ = some (.int .i64 (D.getD i 0))) := fun i hi => (Below.cell (p := ⟨g, off + i, none⟩) hb1 (by simp; omega)).trans ((World.cell?_of_block (w := w) (Below.heap_alloc _ _ _ lgD)).trans (HD.out i hi))
      have hB1 : Below w.heap.size w w1 := (by repeat (first | exact Below.refl _ _ | assumption | (refine Below.trans ?_ (Below.mono (by assumption) (by first | omega | (simp <;> omega)))) | (refine Below.alloc ?_ (by first | omega | (simp <;> omega)) _) | (refine below_drewN ?_ _) | (refine Below.drew ?_) | (refine Below.setCell ?_ (by first | omega | (simp <;> omega)) _)))
      clear ho1 hr hc hb1 HD
      have hnn : ((LD : Int) != (LD : Int)) = false := by simp
      go_wp2_with fail
      refine (specTurnOk_any _ _ _).mono ?_; rintro e w2 ⟨rfl, hb2⟩
      rw [ht]
      have hB2 := hB1.trans (hb2.mono hB1.size)
      have lgM : gM < w1.heap.size := World.block_lt_of_cell? w1 _ (HM.out 0 (by omega))
      have lg1 : g < w1.heap.size := by omega
      clear t1 t1c t1d hnn
      go_wp2_with fail
      go_loopw [6] (fun x wr => ∃ k : Nat, x = .int .i64 k ∧ k ≤ LD ∧ Hid (okB M D k = true) ∧ Below w2.heap.size w2 wr) (fun x _ => LD - (intOf x).toNat)
      case atStart => exact ⟨0, rfl, by omega, rfl, Below.refl _ _⟩
      case round =>
        obtain ⟨k, rfl, hk, hO, hBr⟩ := hrel
        have hBq := hB2.trans (hBr.mono hB2.size)
        by_cases hkL : k < LD
        · have hkL' : (k : Int) < LD := by omega
          have cm := (hBr.cell (p := ⟨gM, k, none⟩) (Nat.lt_of_lt_of_le lgM hb2.size)).trans ((hb2.cell (p := ⟨gM, k, none⟩) lgM).trans (HM.out k hkL))
          have cd := (hBr.cell (p := ⟨g, off + k, none⟩) (Nat.lt_of_lt_of_le lg1 hb2.size)).trans ((hb2.cell (p := ⟨g, off + k, none⟩) lg1).trans (HDD.out k hkL))
          have cm' := cm
          have cd' := cd
          have hsu := okB_succ M D k
          rw [hO.out, Bool.true_and] at hsu
          have hm60 := H60.out k hkL
          clear cm cd
          by_cases hin : (decide (0 ≤ D.getD k 0) && decide (D.getD k 0 ≤ ((M k : Nat) : Int))) = true
          · have hin' := hin
            simp at hin'
            have hin2 : 0 ≤ D.getD k 0 ∧ D.getD k 0 ≤ ((M k : Nat) : Int) := by simpa using hin
            rw [decide_eq_true hin2, Bool.true_and] at hsu
            cases k with
            | zero =>
              have hsu' : Hid (okB M D 1 = true) := by show _ = _; rw [hsu]; simp
              generalize D.getD 0 0 = X at *
              generalize M 0 = Mk at *
              clear hsu hin' hin2
              simp only [Nat.add_zero] at cd'
              go_wp2_with fail
              go_quiet ((go_at_call 65; exact Calls.quiet_of (l1In_quiet _ _ _ _ hin)))
              go_wp2_with fail
              go_roundw
              case rel => exact ⟨1, by go_num, by omega, hsu'.out, below_drewN hBr nq⟩
              case measure => simp only [intOf]; omega
            | succ j =>
              have cj := (hBr.cell (p := ⟨g, off + j, none⟩) (Nat.lt_of_lt_of_le lg1 hb2.size)).trans ((hb2.cell (p := ⟨g, off + j, none⟩) lg1).trans (HDD.out j (by omega)))
              rw [Nat.add_sub_cancel] at hsu
              have hj0 : (0 : Int) < (j : Int) + 1 := by omega
              have hjL : (j : Int) < LD := by omega
              have hjL1 : (j : Int) + 1 < LD := by omega
              have hwj : IntKind.i64.wrap ((j : Int) + 1 - 1) = j := by rw [show (j : Int) + 1 - 1 = j by omega]; exact IntWalk.i64_in _ (by omega)
              have hwj2 : IntKind.i64.wrap (j : Int) = j := IntWalk.i64_in _ (by omega)
              have hj00 : (0 : Int) ≤ j := by omega
              by_cases he : D.getD (j + 1) 0 = ((M (j + 1) : Nat) : Int)
              · by_cases hz : D.getD j 0 = 0
                · have hsu' : Hid (okB M D (j + 1 + 1) = true) := by show _ = _; rw [hsu, decide_eq_false (fun h => h.2.2 hz)]; rfl
                  rw [hz] at cj
                  rw [he] at cd' hin
                  generalize M (j + 1) = Mk at *
                  clear hsu hin' hin2 he hz
                  go_wp2_with fail
                  go_quiet ((go_at_call 65; exact Calls.quiet_of (l1In_quiet _ _ _ _ hin)))
                  go_wp2_with fail
                  go_roundw
                  case rel => exact ⟨j + 1 + 1, by go_num, by omega, hsu'.out, below_drewN hBr nq⟩
                  case measure => simp only [intOf]; omega
                · have hsu' : okB M D (j + 1 + 1) = false := by rw [hsu, decide_eq_true ⟨by omega, he, hz⟩]; rfl
                  have hF := Lib.hid (okB_less hsu' LD (by omega))
                  have hzz : (D.getD j 0 != 0) = true := by simpa using hz
                  generalize D.getD j 0 = Z at *
                  rw [he] at cd' hin
                  generalize M (j + 1) = Mk at *
                  clear hsu hsu' hin' hin2 he
                  go_wp2_with fail
                  go_quiet ((go_at_call 65; exact Calls.quiet_of (l1In_quiet _ _ _ _ hin)))
                  go_wp2
                  go_ret
                  exact ⟨ret_bool hF.out.symm, below_drewN hBq nq⟩
              · have hsu' : Hid (okB M D (j + 1 + 1) = true) := by show _ = _; rw [hsu, decide_eq_false (fun h => he h.2.1)]; rfl
                have hee : (D.getD (j + 1) 0 == ((M (j + 1) : Nat) : Int)) = false := by simpa using he
                generalize D.getD (j + 1) 0 = X at *
                generalize D.getD j 0 = Z at *
                generalize M (j + 1) = Mk at *
                clear hsu hin' hin2
                go_wp2_with fail
                go_quiet ((go_at_call 65; exact Calls.quiet_of (l1In_quiet _ _ _ _ hin)))
                go_wp2_with fail
                go_roundw
                case rel => exact ⟨j + 1 + 1, by go_num, by omega, hsu'.out, below_drewN hBr nq⟩
                case measure => simp only [intOf]; omega
          · have hin' : (decide (0 ≤ D.getD k 0) && decide (D.getD k 0 ≤ ((M k : Nat) : Int))) = false := by simpa using hin
            have hin2 : ¬ (0 ≤ D.getD k 0 ∧ D.getD k 0 ≤ ((M k : Nat) : Int)) := by simpa using hin
            rw [decide_eq_false hin2, Bool.false_and] at hsu
            have hF := Lib.hid (okB_less hsu LD (by omega))
            generalize D.getD k 0 = X at *
            generalize M k = Mk at *
            clear hsu hin hin2
            go_wp2_with fail
            go_quiet ((go_at_call 65; exact Calls.quiet_of (l1In_quiet _ _ _ _ hin')))
            go_wp2
            go_ret
            exact ⟨ret_bool hF.out.symm, below_drewN hBq nq⟩
        · have hkE : k = LD := by omega
          subst hkE
          have hkL' : decide ((k : Int) < k) = false := by simp
          have hO' := hO.out
          go_wp2
          go_ret
          exact ⟨ret_bool hO.out.symm, hBq⟩
    · rw [decide_eq_false hlm, Bool.false_and]
      have hne : ((LD : Int) != (m : Int)) = true := by simp; omega
      have HML := Lib.hid hml
      clear hG hml m60 hv hcells hLD ht0
      go_enter Try.func37, Try.ntmps37
      go_wp2_with fail
      refine (HMost.out _).mono ?_; rintro e w1 ⟨v5, rfl, ho1, hb1⟩
      have hz1 := hb1.size
      try simp at hz1
      have t1 : Two w1 (w.heap.size) (.int .i64 N) (.int .i64 S) 24 := Two.below (by repeat (first | assumption | exact Two.new' _ _ _ _ _ (by simp) | refine Two.alloc ?_ _ | refine Two.drewN ?_ _)) hb1 (by first | omega | (simp <;> omega))
      have hlt1 : (w.heap.size) < w1.heap.size := t1.lt
      have hnt1 : ¬ (w.heap.size) = w1.heap.size := Nat.ne_of_lt hlt1
      have t1c := t1.cell0
      have t1d := t1.cell1
      obtain ⟨a5, cap5, rfl, _⟩ := ho1.reads.cells HML.out
      clear ho1
      go_wp2
      go_ret
      exact ⟨rfl, (by repeat (first | exact Below.refl _ _ | assumption | (refine Below.trans ?_ (Below.mono (by assumption) (by first | omega | (simp <;> omega)))) | (refine Below.alloc ?_ (by first | omega | (simp <;> omega)) _) | (refine below_drewN ?_ _) | (refine Below.drew ?_) | (refine Below.setCell ?_ (by first | omega | (simp <;> omega)) _)))⟩
  · 
    have ht' : tok n s = false := by simpa using ht
    have hmost := fun w => specMostDigits_any n s w
    rw [mostF_no ht] at hmost
    rw [okF_no ht]
    have HMost := Lib.hid hmost
    clear hmost hcells hv hLD
    by_cases h0 : LD = 0
    · subst h0
      go_enter Try.func37, Try.ntmps37
      go_wp2_with fail
      refine (HMost.out _).mono ?_; rintro e w1 ⟨v5, rfl, ho1, hb1⟩
      have hz1 := hb1.size
      try simp at hz1
      have t1 : Two w1 (w.heap.size) (.int .i64 n) (.int .i64 s) 24 := Two.below (by repeat (first | assumption | exact Two.new' _ _ _ _ _ (by simp) | refine Two.alloc ?_ _ | refine Two.drewN ?_ _)) hb1 (by first | omega | (simp <;> omega))
      have hlt1 : (w.heap.size) < w1.heap.size := t1.lt
      have hnt1 : ¬ (w.heap.size) = w1.heap.size := Nat.ne_of_lt hlt1
      have t1c := t1.cell0
      have t1d := t1.cell1
      obtain ⟨a5, cap5, rfl, _⟩ := ho1.reads.cells (N := 0) rfl
      clear ho1
      go_wp2_with fail
      refine (specTurnOk_any _ _ _).mono ?_; rintro e w2 ⟨rfl, hb2⟩
      have hz2 := hb2.size
      try simp at hz2
      have t2 : Two w2 (w.heap.size) (.int .i64 n) (.int .i64 s) 24 := Two.below (by repeat (first | assumption | exact Two.new' _ _ _ _ _ (by simp) | refine Two.alloc ?_ _ | refine Two.drewN ?_ _)) hb2 (by first | omega | (simp <;> omega))
      have hlt2 : (w.heap.size) < w2.heap.size := t2.lt
      have hnt2 : ¬ (w.heap.size) = w2.heap.size := Nat.ne_of_lt hlt2
      have t2c := t2.cell0
      have t2d := t2.cell1
      rw [ht']
      go_wp2
      go_ret
      exact ⟨rfl, (by repeat (first | exact Below.refl _ _ | assumption | (refine Below.trans ?_ (Below.mono (by assumption) (by first | omega | (simp <;> omega)))) | (refine Below.alloc ?_ (by first | omega | (simp <;> omega)) _) | (refine below_drewN ?_ _) | (refine Below.drew ?_) | (refine Below.setCell ?_ (by first | omega | (simp <;> omega)) _)))⟩
    · have hne : ((LD : Int) != 0) = true := by simp; omega
      go_enter Try.func37, Try.ntmps37
      go_wp2_with fail
      refine (HMost.out _).mono ?_; rintro e w1 ⟨v5, rfl, ho1, hb1⟩
      have hz1 := hb1.size
      try simp at hz1
      have t1 : Two w1 (w.heap.size) (.int .i64 n) (.int .i64 s) 24 := Two.below (by repeat (first | assumption | exact Two.new' _ _ _ _ _ (by simp) | refine Two.alloc ?_ _ | refine Two.drewN ?_ _)) hb1 (by first | omega | (simp <;> omega))
      have hlt1 : (w.heap.size) < w1.heap.size := t1.lt
      have hnt1 : ¬ (w.heap.size) = w1.heap.size := Nat.ne_of_lt hlt1
      have t1c := t1.cell0
      have t1d := t1.cell1
      obtain ⟨a5, cap5, rfl, _⟩ := ho1.reads.cells (N := 0) rfl
      clear ho1
      go_wp2
      go_ret
      exact ⟨rfl, (by repeat (first | exact Below.refl _ _ | assumption | (refine Below.trans ?_ (Below.mono (by assumption) (by first | omega | (simp <;> omega)))) | (refine Below.alloc ?_ (by first | omega | (simp <;> omega)) _) | (refine below_drewN ?_ _) | (refine Below.drew ?_) | (refine Below.setCell ?_ (by first | omega | (simp <;> omega)) _)))⟩
end Go.Proofs.Ytdkmghbbnkppcaa
