/- Letters and words of a turn: contracts of the model's l5Letter, CodeOf and OnesUpTo. Contract of the model's CodeOf. Contract of the model's OnesUpTo. -/
import Derived.Test.YtppahekbgbbidabDoorGCode
import Derived.Test.YtppahekbgbbidabDoorGFun
import Derived.Laws.Concat
set_option linter.unusedVariables false
namespace Go.Proofs.YtppahekbgbbidabDoor
open Go.ChangeShapes Go.WideShapes Go.ChangeAt Go.RowKit Go.Joins

theorem let_int {n s : Int} (ht : tok n s = true) (k : Nat) : letN n.toNat s.toNat k = decide (n ≤ (k : Int) * s % n + s) := by
  obtain ⟨h1, _, h3, h4, _⟩ := (tok_iff n s).1 ht
  obtain ⟨N, rfl⟩ := Int.eq_ofNat_of_zero_le (by omega : 0 ≤ n)
  obtain ⟨S, rfl⟩ := Int.eq_ofNat_of_zero_le (by omega : 0 ≤ s)
  unfold letN
  rw [Int.toNat_natCast, Int.toNat_natCast]
  apply decide_eq_decide.2
  have : ((k : Int) * S % N + S) = ((k * S % N + S : Nat) : Int) := by simp
  rw [this]
  omega

def codeF (n s a m : Int) : List Bool := if tok n s = true ∧ (0 ≤ a ∧ a < n) ∧ (0 ≤ m ∧ m ≤ 60) then wordL n.toNat s.toNat a.toNat m.toNat else []

theorem codeF_yes {n s a m : Int} (h : tok n s = true) (h0 : 0 ≤ a) (h1 : a < n) (h2 : 0 ≤ m) (h3 : m ≤ 60) : codeF n s a m = wordL n.toNat s.toNat a.toNat m.toNat := if_pos ⟨h, ⟨h0, h1⟩, h2, h3⟩

theorem codeF_no {n s a m : Int} (h : ¬ (tok n s = true ∧ (0 ≤ a ∧ a < n) ∧ (0 ≤ m ∧ m ≤ 60))) : codeF n s a m = [] := if_neg h

theorem codeF_len (n s a m : Int) : (codeF n s a m).length ≤ 60 := by
  unfold codeF
  split
  · rw [wordL_length]; omega
  · simp

def StrPost (u : List Bool) (w : World) (e : Ending) (w' : World) : Prop := e = .returned (.string (txtB u)) ∧ Below w.heap.size w w'

theorem txtB_nil : txtB [] = ⟨#[]⟩ := rfl

theorem txtB_one (b : Bool) : txtB [b] = if b then ⟨#[49]⟩ else ⟨#[48]⟩ := by cases b <;> rfl

theorem ret_str {a b : ByteArray} (h : a = b) : Ending.returned (.string a) = .returned (.string b) := by rw [h]

set_option maxHeartbeats 1000000 in
theorem l5Letter_any (n s : Int) (k : Nat) (w : World) (ht : tok n s = true) (hk : k ≤ 1000) :
    Calls Tryd.prog 17 #[(.agg #[.int .i64 (n), .int .i64 (s)]), .int .i64 k] w (StrPost [letN n.toNat s.toNat k] w) := by
  
  have hb := tok_bd ht
  have E := Lib.hid (let_int ht k)
  have m0 : 0 ≤ (k : Int) * s := Int.mul_nonneg (by omega) (by omega)
  have m1 : (k : Int) * s ≤ 1000 * 60 := Int.mul_le_mul (by omega) (by omega) (by omega) (by omega)
  have r0 : 0 ≤ (k : Int) * s % n := Int.emod_nonneg _ (by omega)
  have r1 : (k : Int) * s % n < n := Int.emod_lt_of_pos _ (by omega)
  by_cases c : n ≤ (k : Int) * s % n + s
  · have e : letN n.toNat s.toNat k = true := by rw [E.out]; simpa using c
    have R : Hid (txtB [letN n.toNat s.toNat k] = ⟨#[49]⟩) := by rw [e]; exact rfl
    clear e E
    go_enter Tryd.func17, Tryd.ntmps17
    go_wp2_with fail
    go_region
    go_wp2
    go_ret
    exact ⟨ret_str R.out.symm, (by repeat (first | exact Below.refl _ _ | assumption | (refine Below.trans ?_ (Below.mono (by assumption) (by first | omega | (simp <;> omega)))) | (refine Below.alloc ?_ (by first | omega | (simp <;> omega)) _) | (refine below_drewN ?_ _) | (refine Below.drew ?_) | (refine Below.setCell ?_ (by first | omega | (simp <;> omega)) _)))⟩
  · have e : letN n.toNat s.toNat k = false := by rw [E.out]; simpa using c
    have R : Hid (txtB [letN n.toNat s.toNat k] = ⟨#[48]⟩) := by rw [e]; exact rfl
    clear e E
    go_enter Tryd.func17, Tryd.ntmps17
    go_wp2_with fail
    go_region
    go_wp2
    go_ret
    exact ⟨ret_str R.out.symm, (by repeat (first | exact Below.refl _ _ | assumption | (refine Below.trans ?_ (Below.mono (by assumption) (by first | omega | (simp <;> omega)))) | (refine Below.alloc ?_ (by first | omega | (simp <;> omega)) _) | (refine below_drewN ?_ _) | (refine Below.drew ?_) | (refine Below.setCell ?_ (by first | omega | (simp <;> omega)) _)))⟩

theorem l5Letter_int (n s k : Int) (w : World) (ht : tok n s = true) (h0 : 0 ≤ k) (hk : k ≤ 1000) :
    Calls Tryd.prog 17 #[(.agg #[.int .i64 (n), .int .i64 (s)]), .int .i64 k] w (StrPost [letN n.toNat s.toNat k.toNat] w) := by
  obtain ⟨k, rfl⟩ := Int.eq_ofNat_of_zero_le h0
  rw [Int.toNat_natCast]
  exact l5Letter_any n s k w ht (by omega)
end Go.Proofs.YtppahekbgbbidabDoor

set_option linter.unusedVariables false
namespace Go.Proofs.YtppahekbgbbidabDoor
open Go.ChangeShapes Go.WideShapes Go.ChangeAt Go.RowKit Go.Joins

set_option maxHeartbeats 2000000 in
theorem specCodeOf_any (n s a m : Int) (w : World) :
    Calls Tryd.prog 6 #[(.agg #[.int .i64 (n), .int .i64 (s)]), .int .i64 a, .int .i64 m] w (StrPost (codeF n s a m) w) := by
  
  by_cases h : tok n s = true ∧ (0 ≤ a ∧ a < n) ∧ (0 ≤ m ∧ m ≤ 60)
  · obtain ⟨ht, ⟨h0, h1⟩, h2, h3⟩ := h
    rw [codeF_yes ht h0 h1 h2 h3]
    have hb := tok_bd ht
    obtain ⟨m, rfl⟩ := Int.eq_ofNat_of_zero_le h2
    obtain ⟨a, rfl⟩ := Int.eq_ofNat_of_zero_le h0
    rw [Int.toNat_natCast, Int.toNat_natCast]
    have HT := Lib.hid ht
    clear ht
    go_enter Tryd.func6, Tryd.ntmps6
    go_wp2_with fail
    go_loopw [7, 8] (fun y x wr => ∃ k : Nat, x = .int .i64 k ∧ y = .string (txtB (wordL n.toNat s.toNat a k)) ∧ k ≤ m ∧ Two wr w.heap.size (.int .i64 n) (.int .i64 s) 24 ∧ Below w.heap.size w wr) (fun _ x _ => m - (intOf x).toNat)
    case atStart => exact ⟨0, rfl, rfl, by omega, Two.new _ _ _ _, (by repeat (first | exact Below.refl _ _ | assumption | (refine Below.trans ?_ (Below.mono (by assumption) (by first | omega | (simp <;> omega)))) | (refine Below.alloc ?_ (by first | omega | (simp <;> omega)) _) | (refine below_drewN ?_ _) | (refine Below.drew ?_) | (refine Below.setCell ?_ (by first | omega | (simp <;> omega)) _)))⟩
    case round =>
      obtain ⟨k, rfl, rfl, hk, t1, hB1⟩ := hrel
      have c0 := t1.cell0
      have c1 := t1.cell1
      have l1 := t1.lt
      by_cases hkm : k < m
      · have hkm' : (k : Int) < m := by omega
        go_wp2_with fail
        refine (specTurnOk_any _ _ _).mono ?_; rintro e w2 ⟨rfl, hb2⟩
        rw [HT.out]
        have t2 := t1.below hb2 l1
        have hB2 := hB1.trans (hb2.mono hB1.size)
        have d0 := t2.cell0
        have d1 := t2.cell1
        have l2 := t2.lt
        clear hb2 t1 hB1 c0 c1 l1
        go_wp2_with fail
        refine (l1In_any _ _ _ _).mono ?_; rintro e w3 ⟨rfl, rfl⟩
        rw [decide_eq_true (by omega : (0 : Int) ≤ a), decide_eq_true (by omega : (a : Int) ≤ n - 1)]
        go_wp2_with fail
        refine (l5Letter_int n s _ _ HT.out (by omega) (by omega)).mono ?_; rintro e w4 ⟨rfl, hb4⟩
        have e1 : ((a : Int) + k).toNat = a + k := by omega
        rw [e1]
        have t4 := t2.below hb4 l2
        have hB4 := hB2.trans (hb4.mono hB2.size)
        have hsz : (txtB (wordL n.toNat s.toNat a k)).size = k := by rw [txtB_size, wordL_length]
        have hsz2 : (txtB [letN n.toNat s.toNat (a + k)]).size = 1 := txtB_size _
        have E := Lib.hid (show txtB (wordL n.toNat s.toNat a k) ++ txtB [letN n.toNat s.toNat (a + k)] = txtB (wordL n.toNat s.toNat a (k + 1)) by rw [txtB_append, wordL_succ])
        clear hb4 t2 hB2 d0 d1
        go_wp2_with fail
        go_roundw
        case rel => exact ⟨k + 1, by go_num, by rw [E.out], by omega, t4, hB4⟩
        case measure => simp only [intOf]; omega
      · obtain rfl : k = m := by omega
        have hkm' : decide ((k : Int) < k) = false := by simp
        go_wp2
        go_ret
        exact ⟨rfl, hB1⟩
  · rw [codeF_no h]
    go_enter Tryd.func6, Tryd.ntmps6
    go_wp2_with fail
    go_loopw [7, 8] (fun y x wr => x = .int .i64 0 ∧ y = .string ⟨#[]⟩ ∧ Two wr w.heap.size (.int .i64 n) (.int .i64 s) 24 ∧ Below w.heap.size w wr) (fun _ x _ => 0)
    case atStart => exact ⟨rfl, rfl, Two.new _ _ _ _, (by repeat (first | exact Below.refl _ _ | assumption | (refine Below.trans ?_ (Below.mono (by assumption) (by first | omega | (simp <;> omega)))) | (refine Below.alloc ?_ (by first | omega | (simp <;> omega)) _) | (refine below_drewN ?_ _) | (refine Below.drew ?_) | (refine Below.setCell ?_ (by first | omega | (simp <;> omega)) _)))⟩
    case round =>
      obtain ⟨rfl, rfl, t1, hB1⟩ := hrel
      have c0 := t1.cell0
      have c1 := t1.cell1
      have l1 := t1.lt
      by_cases hm : 0 < m
      · go_wp2_with fail
        refine (specTurnOk_any _ _ _).mono ?_; rintro e w2 ⟨rfl, hb2⟩
        have t2 := t1.below hb2 l1
        have hB2 := hB1.trans (hb2.mono hB1.size)
        have d0 := t2.cell0
        have d1 := t2.cell1
        have l2 := t2.lt
        clear hb2 t1 hB1 c0 c1 l1
        by_cases ht : tok n s = true
        · rw [ht]
          have hb := tok_bd ht
          by_cases ha : 0 ≤ a ∧ a ≤ n - 1
          · have hm6 : decide (m ≤ 60) = false := by
              rw [decide_eq_false_iff_not]
              intro hm6
              exact h ⟨ht, ⟨ha.1, by omega⟩, by omega, hm6⟩
            go_wp2_with fail
            refine (l1In_any _ _ _ _).mono ?_; rintro e w3 ⟨rfl, rfl⟩
            rw [decide_eq_true ha.1, decide_eq_true ha.2]
            go_wp2
            go_ret
            exact ⟨rfl, hB2⟩
          · go_wp2_with fail
            refine (l1In_any _ _ _ _).mono ?_; rintro e w3 ⟨rfl, rfl⟩
            have e : (decide (0 ≤ a) && decide (a ≤ n - 1)) = false := by
              rw [← Bool.decide_and]
              exact decide_eq_false ha
            rw [e]
            go_wp2
            go_ret
            exact ⟨rfl, hB2⟩
        · have ht' : tok n s = false := by simpa using ht
          rw [ht']
          go_wp2
          go_ret
          exact ⟨rfl, hB2⟩
      · have hm' : decide (0 < m) = false := by simpa using hm
        go_wp2
        go_ret
        exact ⟨rfl, hB1⟩
end Go.Proofs.YtppahekbgbbidabDoor

set_option linter.unusedVariables false
namespace Go.Proofs.YtppahekbgbbidabDoor
open Go.ChangeShapes Go.WideShapes Go.ChangeAt Go.RowKit Go.Joins

def onesF (n s m : Int) : Int := if tok n s = true ∧ 0 ≤ m ∧ m ≤ n then m * s / n else -1

theorem onesF_yes {n s m : Int} (h : tok n s = true) (h0 : 0 ≤ m) (h1 : m ≤ n) : onesF n s m = m * s / n := if_pos ⟨h, h0, h1⟩

theorem onesF_no {n s m : Int} (h : ¬ (tok n s = true ∧ 0 ≤ m ∧ m ≤ n)) : onesF n s m = -1 := if_neg h

theorem onesF_fl {n s : Int} {m : Nat} (h : tok n s = true) (h1 : (m : Int) ≤ n) : onesF n s m = ((flN n.toNat s.toNat m : Nat) : Int) := by
  rw [onesF_yes h (by omega) h1]
  obtain ⟨h1, _, h3, h4, _⟩ := (tok_iff n s).1 h
  obtain ⟨N, rfl⟩ := Int.eq_ofNat_of_zero_le (by omega : 0 ≤ n)
  obtain ⟨S, rfl⟩ := Int.eq_ofNat_of_zero_le (by omega : 0 ≤ s)
  unfold flN
  simp

end Go.Proofs.YtppahekbgbbidabDoor
