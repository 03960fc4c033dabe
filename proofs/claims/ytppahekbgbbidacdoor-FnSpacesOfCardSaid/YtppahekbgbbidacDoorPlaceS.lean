/- Contracts of chapter 8's functions of the model. -/
import Derived.Test.YtppahekbgbbidacDoorPlaceF
import Derived.Test.YtppahekbgbbidacDoorGList
set_option linter.unusedVariables false
namespace Go.Proofs.YtppahekbgbbidacDoor

set_option maxRecDepth 4000
open Go.ChangeShapes Go.WideShapes Go.ChangeAt Go.RowKit Go.Joins

set_option maxHeartbeats 2000000 in
theorem specPlaceOfOne_any (n s q : Int) (w : World) :
    Calls Tryd.prog 17 #[(.agg #[.int .i64 (n), .int .i64 (s)]), .int .i64 q] w fun e w' => e = .returned (.int .i64 (oneF n s q)) ∧ Below w.heap.size w w' := by
  
  by_cases ht : tok n s = true
  · have hb := tok_bd ht
    by_cases hm : 1 ≤ q ∧ q ≤ s
    · obtain ⟨h0, h1⟩ := hm
      obtain ⟨q, rfl⟩ := Int.eq_ofNat_of_zero_le (by omega : 0 ≤ q)
      rw [oneF_yes ht h0 h1, Int.toNat_natCast]
      have HT := Lib.hid ht
      have HF : Hid (∀ k, flN n.toNat s.toNat k < q → q ≤ flN n.toNat s.toNat (k + 1) → oneAt n.toNat s.toNat q = k + 1) := fun k a b => oneAt_of (by omega) (by omega) a b
      have HA : Hid (flN n.toNat s.toNat n.toNat = s.toNat) := fl_all (by omega)
      go_enter Tryd.func17, Tryd.ntmps17
      go_wp2_with fail
      refine (specTurnOk_any _ _ _).mono ?_; rintro e w1 ⟨rfl, hb1⟩
      have hz1 := hb1.size
      try simp at hz1
      have t1 : Two w1 (w.heap.size) (.int .i64 n) (.int .i64 s) 24 := Two.below (by repeat (first | assumption | exact Two.new' _ _ _ _ _ (by simp) | refine Two.alloc ?_ _ | refine Two.drewN ?_ _)) hb1 (by first | omega | (simp <;> omega))
      have hlt1 : (w.heap.size) < w1.heap.size := t1.lt
      have hnt1 : ¬ (w.heap.size) = w1.heap.size := Nat.ne_of_lt hlt1
      have t1c := t1.cell0
      have t1d := t1.cell1
      rw [ht]
      clear ht
      go_wp2_with fail
      refine (l1In_any _ _ _ _).mono ?_; rintro e w2 ⟨rfl, rfl⟩
      rw [decide_eq_true h0, decide_eq_true h1]
      go_wp2_with fail
      go_loopw [5, 6] (fun y x wr => ∃ k : Nat, x = .int .i64 k ∧ y = .int .i64 (flN n.toNat s.toNat k : Nat) ∧ k ≤ n.toNat ∧ flN n.toNat s.toNat k < q ∧ flN n.toNat s.toNat k ≤ k ∧ Two wr w.heap.size (.int .i64 n) (.int .i64 s) 24 ∧ Below w.heap.size w wr) (fun _ x _ => n.toNat - (intOf x).toNat)
      case atStart =>
        have e0 : flN n.toNat s.toNat 0 = 0 := by unfold flN; simp
        exact ⟨0, rfl, by rw [e0]; rfl, by omega, by omega, by omega, t1, (by repeat (first | exact Below.refl _ _ | assumption | (refine Below.trans ?_ (Below.mono (by assumption) (by first | omega | (simp <;> omega)))) | (refine Below.alloc ?_ (by first | omega | (simp <;> omega)) _) | (refine below_drewN ?_ _) | (refine Below.drew ?_) | (refine Below.setCell ?_ (by first | omega | (simp <;> omega)) _)))⟩
      case round =>
        obtain ⟨k, rfl, rfl, hk, hlt, hf, t3, hB3⟩ := hrel
        have c0 := t3.cell0
        have c1 := t3.cell1
        have l3 := t3.lt
        clear t1 hb1
        by_cases hkm : k < n.toNat
        · have hkm' : (k : Int) < n := by omega
          have hs := fl_succ (n := n.toNat) (s := s.toNat) (by omega) (by omega) k
          have hfk := HF.out k hlt
          go_wp2_with fail
          refine (l5Letter_int n s _ _ HT.out (by omega) (by omega)).mono ?_; rintro e w4 ⟨rfl, hb4⟩
          rw [Int.toNat_natCast]
          have t4 := t3.below hb4 l3
          have hB4 := hB3.trans (hb4.mono hB3.size)
          clear hb4 t3 hB3 c0 c1
          cases hL : letN n.toNat s.toNat k with
          | false =>
            rw [hL] at hs
            have hs' : flN n.toNat s.toNat (k + 1) = flN n.toNat s.toNat k := hs
            have e : txtB [false] = ⟨#[48]⟩ := rfl
            rw [e]
            have hne : (((flN n.toNat s.toNat k : Nat) : Int) == (q : Int)) = false := by simp; omega
            clear hfk
            go_wp2_with fail
            go_roundw
            case rel => exact ⟨k + 1, by go_num, by rw [hs'], by omega, by omega, by omega, t4, hB4⟩
            case measure => simp only [intOf]; omega
          | true =>
            rw [hL] at hs
            have hs' : flN n.toNat s.toNat (k + 1) = flN n.toNat s.toNat k + 1 := hs
            have e : txtB [true] = ⟨#[49]⟩ := rfl
            rw [e]
            rw [hs'] at hfk
            by_cases hq : flN n.toNat s.toNat k + 1 = q
            · have hE := Lib.hid (hfk (by omega))
              have heq : ((flN n.toNat s.toNat k : Nat) : Int) + 1 = (q : Int) := by omega
              clear hfk hs
              go_wp2
              go_ret
              exact ⟨ret_int (by rw [hE.out]; omega), hB4⟩
            · have hne : (((flN n.toNat s.toNat k : Nat) : Int) + 1 == (q : Int)) = false := by simp; omega
              clear hfk
              go_wp2_with fail
              go_roundw
              case rel => exact ⟨k + 1, by go_num, by rw [hs']; go_num, by omega, by omega, by omega, t4, hB4⟩
              case measure => simp only [intOf]; omega
        · have := HA.out
          obtain rfl : k = n.toNat := by omega
          omega
    · have e := oneF_no (n := n) (s := s) (k := q) (by omega)
      have e2 : (decide (1 ≤ q) && decide (q ≤ s)) = false := by
        rw [← Bool.decide_and]
        exact decide_eq_false hm
      rw [e]
      go_enter Tryd.func17, Tryd.ntmps17
      go_wp2_with fail
      refine (specTurnOk_any _ _ _).mono ?_; rintro e w1 ⟨rfl, hb1⟩
      have hz1 := hb1.size
      try simp at hz1
      have t1 : Two w1 (w.heap.size) (.int .i64 n) (.int .i64 s) 24 := Two.below (by repeat (first | assumption | exact Two.new' _ _ _ _ _ (by simp) | refine Two.alloc ?_ _ | refine Two.drewN ?_ _)) hb1 (by first | omega | (simp <;> omega))
      have hlt1 : (w.heap.size) < w1.heap.size := t1.lt
      have hnt1 : ¬ (w.heap.size) = w1.heap.size := Nat.ne_of_lt hlt1
      have t1c := t1.cell0
      have t1d := t1.cell1
      rw [ht]
      go_wp2_with fail
      refine (l1In_any _ _ _ _).mono ?_; rintro e w2 ⟨rfl, rfl⟩
      rw [e2]
      go_wp2
      go_ret
      exact ⟨rfl, (by repeat (first | exact Below.refl _ _ | assumption | (refine Below.trans ?_ (Below.mono (by assumption) (by first | omega | (simp <;> omega)))) | (refine Below.alloc ?_ (by first | omega | (simp <;> omega)) _) | (refine below_drewN ?_ _) | (refine Below.drew ?_) | (refine Below.setCell ?_ (by first | omega | (simp <;> omega)) _)))⟩
  · have e := oneF_no (n := n) (s := s) (k := q) (by simp [ht])
    have ht' : tok n s = false := by simpa using ht
    rw [e]
    go_enter Tryd.func17, Tryd.ntmps17
    go_wp2_with fail
    refine (specTurnOk_any _ _ _).mono ?_; rintro e w1 ⟨rfl, hb1⟩
    have hz1 := hb1.size
    try simp at hz1
    have t1 : Two w1 (w.heap.size) (.int .i64 n) (.int .i64 s) 24 := Two.below (by repeat (first | assumption | exact Two.new' _ _ _ _ _ (by simp) | refine Two.alloc ?_ _ | refine Two.drewN ?_ _)) hb1 (by first | omega | (simp <;> omega))
    have hlt1 : (w.heap.size) < w1.heap.size := t1.lt
    have hnt1 : ¬ (w.heap.size) = w1.heap.size := Nat.ne_of_lt hlt1
    have t1c := t1.cell0
    have t1d := t1.cell1
    rw [ht']
    go_wp2
    go_ret
    exact ⟨rfl, (by repeat (first | exact Below.refl _ _ | assumption | (refine Below.trans ?_ (Below.mono (by assumption) (by first | omega | (simp <;> omega)))) | (refine Below.alloc ?_ (by first | omega | (simp <;> omega)) _) | (refine below_drewN ?_ _) | (refine Below.drew ?_) | (refine Below.setCell ?_ (by first | omega | (simp <;> omega)) _)))⟩

set_option maxHeartbeats 2000000 in
theorem specSpacesOf_any (n s : Int) (w : World) :
    Calls Tryd.prog 7 #[(.agg #[.int .i64 (n), .int .i64 (s)])] w (ListPost (spacesF n s) w) := by
  have hnil := made_nil (w.alloc (.cells #[.int .i64 n, .int .i64 s] 24))
  rw [World.size_alloc] at hnil
  have ht0 : Two ((w.alloc (.cells #[.int .i64 n, .int .i64 s] 24)).alloc (.cells #[] 3)) w.heap.size (.int .i64 n) (.int .i64 s) 24 := (Two.new _ _ _ _).alloc _
  have hB0 : Below w.heap.size w ((w.alloc (.cells #[.int .i64 n, .int .i64 s] 24)).alloc (.cells #[] 3)) := (by repeat (first | exact Below.refl _ _ | assumption | (refine Below.trans ?_ (Below.mono (by assumption) (by first | omega | (simp <;> omega)))) | (refine Below.alloc ?_ (by first | omega | (simp <;> omega)) _) | (refine below_drewN ?_ _) | (refine Below.drew ?_) | (refine Below.setCell ?_ (by first | omega | (simp <;> omega)) _)))
  have hsz0 : w.heap.size + 1 < ((w.alloc (.cells #[.int .i64 n, .int .i64 s] 24)).alloc (.cells #[] 3)).heap.size := by simp
  by_cases ht : tok n s = true
  · have hb := tok_bd ht
    rw [spacesF_yes ht]
    have HT := Lib.hid ht
    clear ht
    obtain ⟨S, hS⟩ : ∃ S, s.toNat = S := ⟨_, rfl⟩
    have hs : s = (S : Int) := by omega
    subst hs
    obtain ⟨N, rfl⟩ := Int.eq_ofNat_of_zero_le (by omega : 0 ≤ n)
    rw [Int.toNat_natCast, Int.toNat_natCast]
    clear hS
    go_enter Tryd.func7, Tryd.ntmps7
    go_wp2_with fail
    go_loopw [3, 4, 5] (fun o la x wr => ∃ (k : Nat) (v0 : Value), x = .int .i64 ((k : Int) + 1) ∧ v0 = o ∧ la = .int .i64 (((oneAt N S k : Nat) : Int) - 1) ∧ k ≤ S ∧ OwnL wr (w.heap.size + 1) v0 (spL N S k) ∧ Two wr w.heap.size (.int .i64 N) (.int .i64 S) 24 ∧ w.heap.size + 1 < wr.heap.size ∧ Below w.heap.size w wr) (fun _ _ x _ => S + 1 - (intOf x).toNat)
    case atStart => exact ⟨0, _, rfl, rfl, by rw [oneAt_zero (by omega)]; rfl, by omega, hnil, ht0, hsz0, hB0⟩
    case round =>
      obtain ⟨k, v0, rfl, rfl, rfl, hk, ho, t, hz, hB⟩ := hrel
      clear hnil ht0 hB0 hsz0
      have c0 := t.cell0
      have c1 := t.cell1
      have lt := t.lt
      go_wp2_with fail
      refine (specTurnOk_any _ _ _).mono ?_; rintro e w1 ⟨rfl, hb1⟩
      rw [HT.out]
      have t1 := t.below hb1 lt
      have ho1 := ho.below hb1
      have hz1 := hb1.size
      have hB1 := hB.trans (hb1.mono hB.size)
      have d0 := t1.cell0
      have d1 := t1.cell1
      have lt1 := t1.lt
      clear hb1 t ho hB c0 c1 lt
      by_cases hkm : k < S
      · have hkm' : (k : Int) + 1 ≤ S := by omega
        have hone : oneF N S ((k : Int) + 1) = ((oneAt N S (k + 1) : Nat) : Int) - 1 := by
          rw [oneF_yes HT.out (by omega) hkm']
          rfl
        have hle : oneAt N S (k + 1) ≤ N := oneAt_le (by omega) (by omega)
        have hle0 : oneAt N S k ≤ N := oneAt_le (by omega) (by omega)
        have hsp := space_int (N := N) (S := S) (k := k) (by omega) (by omega)
        have hsu := spL_succ N S k
        have HL : Hid ((spL N S k).length = k) := spL_len N S k
        have HSU := Lib.hid hsu
        have HO := Lib.hid hone
        clear hsu hone
        go_wp2_with fail
        refine (specPlaceOfOne_any _ _ _ _).mono ?_; rintro e w2 ⟨rfl, hb2⟩
        rw [HO.out]
        have t2 := t1.below hb2 lt1
        have ho2 := ho1.below hb2
        have hz2 := hb2.size
        have hB2 := hB1.trans (hb2.mono hB1.size)
        clear hb2 t1 ho1 hB1 d0 d1 lt1
        generalize hX : ((oneAt N S (k + 1) : Nat) : Int) - 1 = X at *
        generalize hY : ((oneAt N S k : Nat) : Int) - 1 = Y at *
        have HX := Lib.hid hX
        have HY := Lib.hid hY
        have bX : -1 ≤ X ∧ X ≤ 60 := by omega
        have bY : -1 ≤ Y ∧ Y ≤ 60 := by omega
        have HSP := Lib.hid hsp
        clear hX hY hle hle0 hsp
        go_wp2_with (at_builtin; refine append_int rfl _ _ rfl (w.heap.size + 1) v0 (spL N S k) k HL (by omega) rfl ho2 (by omega) rfl ?_)
        intro v5 w5 ho5 hn5 hb5
        rw [HSP.out, ← HSU.out] at ho5
        have t5 := t2.below hb5 (by omega)
        have hB5 := hB2.trans (hb5.mono (by omega))
        have hz5 := hb5.size
        clear ho2 hB2 hb5 t2
        go_wp2_with fail
        go_roundw
        case rel => exact ⟨k + 1, v5, by go_num, rfl, by rw [HX.out], by omega, ho5, t5, by omega, hB5⟩
        case measure => simp only [intOf]; omega
      · have hkm' : ¬ (k : Int) + 1 ≤ S := by omega
        obtain rfl : k = S := by omega
        have ho' : OwnL w1 w.heap.size v0 (spL N k k) := OwnL.mono (b := w.heap.size + 1) ho1 (by omega)
        clear ho1
        go_wp2
        go_ret
        exact ⟨_, rfl, ho', hB1⟩
  · have ht' : tok n s = false := by simpa using ht
    rw [spacesF_no ht]
    go_enter Tryd.func7, Tryd.ntmps7
    go_wp2_with fail
    go_loopw [3, 4, 5] (fun o la x wr => ∃ (v0 : Value), x = .int .i64 1 ∧ v0 = o ∧ la = .int .i64 (-1) ∧ OwnL wr (w.heap.size + 1) v0 [] ∧ Two wr w.heap.size (.int .i64 n) (.int .i64 s) 24 ∧ Below w.heap.size w wr) (fun _ _ x _ => 0)
    case atStart => exact ⟨_, rfl, rfl, rfl, hnil, ht0, hB0⟩
    case round =>
      obtain ⟨v0, rfl, rfl, rfl, ho, t, hB⟩ := hrel
      clear hnil ht0 hB0 hsz0
      have c0 := t.cell0
      have c1 := t.cell1
      have lt := t.lt
      go_wp2_with fail
      refine (specTurnOk_any _ _ _).mono ?_; rintro e w1 ⟨rfl, hb1⟩
      rw [ht']
      have ho1 := ho.below hb1
      have hB1 := hB.trans (hb1.mono hB.size)
      have ho' : OwnL w1 w.heap.size v0 [] := OwnL.mono (b := w.heap.size + 1) ho1 (by omega)
      clear hb1 t ho hB c0 c1 lt ho1
      go_wp2
      go_ret
      exact ⟨_, rfl, ho', hB1⟩
end Go.Proofs.YtppahekbgbbidacDoor
