/- Contracts of chapter 12's functions of the model: scales. Contracts of chapter 12's functions of the model: spans and patterns. -/
import Derived.Test.YtcfhjkaemhhndaaGScl
import Derived.Test.YtcfhjkaemhhndaaGNear
import Derived.Test.YtcfhjkaemhhndaaGKinds
import Derived.Test.YtcfhjkaemhhndaaFarS
import Derived.Test.YtcfhjkaemhhndaaGWord
import Derived.Test.YtcfhjkaemhhndaaGSort
set_option linter.unusedVariables false
namespace Go.Proofs.Ytcfhjkaemhhndaa

set_option maxRecDepth 4000
open Go.ChangeShapes Go.WideShapes Go.ChangeAt Go.RowKit Go.Joins N

theorem near_bds (n s m : Int) : (-1 ≤ nearA n s m ∧ nearA n s m ≤ 60) ∧ (-1 ≤ nearB n s m ∧ nearB n s m ≤ 60) := by
  by_cases c : tok n s = true ∧ 2 ≤ m ∧ m ≤ n
  · have a := nearA_is c.1 c.2.1 c.2.2
    have b := nearB_is c.1 c.2.1 c.2.2
    have h := tok_bd c.1
    have a1 := a.1; have a2 := a.2.1; have b1 := b.1; have b2 := b.2.1
    omega
  · rw [nearA_no c, nearB_no c]; omega

set_option maxHeartbeats 1000000 in
theorem specScaleOk_any (n s m : Int) (w : World) :
    Calls Try.prog 13 #[(.agg #[.int .i64 (n), .int .i64 (s)]), .int .i64 m] w fun e w' => e = .returned (.bool (scaleF n s m)) ∧ Below w.heap.size w w' := by
  have h1 := fun w => specNearAbove_any n s m w
  have h2 := fun w => specNearBelow_any n s m w
  unfold IntPost at h1 h2
  have hb := near_bds n s m
  unfold scaleF
  generalize nearA n s m = p at *
  generalize nearB n s m = q at *
  have hw : IntKind.i64.wrap (p + q) = p + q := IntWalk.i64_in _ (by omega)
  
  by_cases hp : 0 < p
  · rw [decide_eq_true hp]
    by_cases he : p + q = m
    · have he' : ((p + q) == m) = true := by simpa using he
      rw [decide_eq_true he]
      clear he
      go_enter Try.func13, Try.ntmps13
      go_wp2_with fail
      refine (h1 _).mono ?_; rintro e w1 ⟨rfl, hb1⟩
      have hz1 := hb1.size
      try simp at hz1
      have t1 : Two w1 (w.heap.size) (.int .i64 n) (.int .i64 s) 24 := Two.below (by repeat (first | assumption | exact Two.new' _ _ _ _ _ (by simp) | refine Two.alloc ?_ _ | refine Two.drewN ?_ _)) hb1 (by first | omega | (simp <;> omega))
      have hlt1 : (w.heap.size) < w1.heap.size := t1.lt
      have hnt1 : ¬ (w.heap.size) = w1.heap.size := Nat.ne_of_lt hlt1
      have t1c := t1.cell0
      have t1d := t1.cell1
      go_wp2_with fail
      refine (h2 _).mono ?_; rintro e w2 ⟨rfl, hb2⟩
      have hz2 := hb2.size
      try simp at hz2
      have t2 : Two w2 (w.heap.size) (.int .i64 n) (.int .i64 s) 24 := Two.below (by repeat (first | assumption | exact Two.new' _ _ _ _ _ (by simp) | refine Two.alloc ?_ _ | refine Two.drewN ?_ _)) hb2 (by first | omega | (simp <;> omega))
      have hlt2 : (w.heap.size) < w2.heap.size := t2.lt
      have hnt2 : ¬ (w.heap.size) = w2.heap.size := Nat.ne_of_lt hlt2
      have t2c := t2.cell0
      have t2d := t2.cell1
      go_wp2
      go_ret
      exact ⟨rfl, (by repeat (first | exact Below.refl _ _ | assumption | (refine Below.trans ?_ (Below.mono (by assumption) (by first | omega | (simp <;> omega)))) | (refine Below.alloc ?_ (by first | omega | (simp <;> omega)) _) | (refine below_drewN ?_ _) | (refine Below.drew ?_) | (refine Below.setCell ?_ (by first | omega | (simp <;> omega)) _)))⟩
    · have he' : ((p + q) == m) = false := by simpa using he
      rw [decide_eq_false he]
      clear he
      go_enter Try.func13, Try.ntmps13
      go_wp2_with fail
      refine (h1 _).mono ?_; rintro e w1 ⟨rfl, hb1⟩
      have hz1 := hb1.size
      try simp at hz1
      have t1 : Two w1 (w.heap.size) (.int .i64 n) (.int .i64 s) 24 := Two.below (by repeat (first | assumption | exact Two.new' _ _ _ _ _ (by simp) | refine Two.alloc ?_ _ | refine Two.drewN ?_ _)) hb1 (by first | omega | (simp <;> omega))
      have hlt1 : (w.heap.size) < w1.heap.size := t1.lt
      have hnt1 : ¬ (w.heap.size) = w1.heap.size := Nat.ne_of_lt hlt1
      have t1c := t1.cell0
      have t1d := t1.cell1
      go_wp2_with fail
      refine (h2 _).mono ?_; rintro e w2 ⟨rfl, hb2⟩
      have hz2 := hb2.size
      try simp at hz2
      have t2 : Two w2 (w.heap.size) (.int .i64 n) (.int .i64 s) 24 := Two.below (by repeat (first | assumption | exact Two.new' _ _ _ _ _ (by simp) | refine Two.alloc ?_ _ | refine Two.drewN ?_ _)) hb2 (by first | omega | (simp <;> omega))
      have hlt2 : (w.heap.size) < w2.heap.size := t2.lt
      have hnt2 : ¬ (w.heap.size) = w2.heap.size := Nat.ne_of_lt hlt2
      have t2c := t2.cell0
      have t2d := t2.cell1
      go_wp2
      go_ret
      exact ⟨rfl, (by repeat (first | exact Below.refl _ _ | assumption | (refine Below.trans ?_ (Below.mono (by assumption) (by first | omega | (simp <;> omega)))) | (refine Below.alloc ?_ (by first | omega | (simp <;> omega)) _) | (refine below_drewN ?_ _) | (refine Below.drew ?_) | (refine Below.setCell ?_ (by first | omega | (simp <;> omega)) _)))⟩
  · have hp' : decide (0 < p) = false := decide_eq_false hp
    rw [hp']
    go_enter Try.func13, Try.ntmps13
    go_wp2_with fail
    refine (h1 _).mono ?_; rintro e w1 ⟨rfl, hb1⟩
    have hz1 := hb1.size
    try simp at hz1
    have t1 : Two w1 (w.heap.size) (.int .i64 n) (.int .i64 s) 24 := Two.below (by repeat (first | assumption | exact Two.new' _ _ _ _ _ (by simp) | refine Two.alloc ?_ _ | refine Two.drewN ?_ _)) hb1 (by first | omega | (simp <;> omega))
    have hlt1 : (w.heap.size) < w1.heap.size := t1.lt
    have hnt1 : ¬ (w.heap.size) = w1.heap.size := Nat.ne_of_lt hlt1
    have t1c := t1.cell0
    have t1d := t1.cell1
    go_wp2
    go_ret
    exact ⟨rfl, (by repeat (first | exact Below.refl _ _ | assumption | (refine Below.trans ?_ (Below.mono (by assumption) (by first | omega | (simp <;> omega)))) | (refine Below.alloc ?_ (by first | omega | (simp <;> omega)) _) | (refine below_drewN ?_ _) | (refine Below.drew ?_) | (refine Below.setCell ?_ (by first | omega | (simp <;> omega)) _)))⟩

set_option maxHeartbeats 4000000 in
theorem specScaleSizes_any (n s : Int) (w : World) :
    Calls Try.prog 23 #[(.agg #[.int .i64 (n), .int .i64 (s)])] w (ListPost (scalesF n s) w) := by
  have hnil := made_nil (w.alloc (.cells #[.int .i64 n, .int .i64 s] 24))
  rw [World.size_alloc] at hnil
  have ht0 : Two ((w.alloc (.cells #[.int .i64 n, .int .i64 s] 24)).alloc (.cells #[] 3)) w.heap.size (.int .i64 n) (.int .i64 s) 24 := (Two.new _ _ _ _).alloc _
  have hB0 : Below w.heap.size w ((w.alloc (.cells #[.int .i64 n, .int .i64 s] 24)).alloc (.cells #[] 3)) := (by repeat (first | exact Below.refl _ _ | assumption | (refine Below.trans ?_ (Below.mono (by assumption) (by first | omega | (simp <;> omega)))) | (refine Below.alloc ?_ (by first | omega | (simp <;> omega)) _) | (refine below_drewN ?_ _) | (refine Below.drew ?_) | (refine Below.setCell ?_ (by first | omega | (simp <;> omega)) _)))
  have hsz0 : w.heap.size + 1 < ((w.alloc (.cells #[.int .i64 n, .int .i64 s] 24)).alloc (.cells #[] 3)).heap.size := by simp
  have c0 := ht0.cell0
  have c1 := ht0.cell1
  by_cases h2 : 2 ≤ n
  · by_cases ht : tok n s = true
    · have hb := tok_bd ht
      obtain ⟨N, S, rfl, rfl, hN⟩ := tokN_of ht
      have HT := Lib.hid ht
      have HF : Hid (scalesF N S = scUp N S (N + 1)) := rfl
      have H2 : Hid (scUp (N : Int) S 2 = []) := scUp_two _ _
      have HY : Hid (∀ k : Nat, scaleF (N : Int) S k = true → scUp (N : Int) S (k + 1) = scUp N S k ++ [(k : Int)]) := fun k h => scUp_yes h
      have HNo : Hid (∀ k : Nat, scaleF (N : Int) S k = false → scUp (N : Int) S (k + 1) = scUp N S k) := fun k h => scUp_no (by simp [h])
      have HLn : Hid (∀ k, (scUp (N : Int) S k).length ≤ k) := fun k => (scUp_facts _ _ k).2.2
      clear ht hN
      rw [HF.out]
      go_enter Try.func23, Try.ntmps23
      go_wp2_with fail
      go_loopw [3, 4] (fun o x wr => ∃ (k : Nat) (v0 : Value), x = .int .i64 k ∧ v0 = o ∧ 2 ≤ k ∧ k ≤ N + 1 ∧ OwnL wr (w.heap.size + 1) v0 (scUp N S k) ∧ Two wr w.heap.size (.int .i64 N) (.int .i64 S) 24 ∧ w.heap.size + 1 < wr.heap.size ∧ Below w.heap.size w wr) (fun _ x _ => N + 1 - (intOf x).toNat)
      case atStart => exact ⟨2, _, rfl, rfl, by omega, by omega, by rw [H2.out]; exact hnil, ht0, hsz0, hB0⟩
      case round =>
        obtain ⟨k, v0, rfl, rfl, hk2, hk, ho, t, hz, hB⟩ := hrel
        clear hnil ht0 hB0 hsz0 c0 c1
        have c0 := t.cell0
        have c1 := t.cell1
        have lt := t.lt
        by_cases hkm : k ≤ N
        · have hkm' : (k : Int) ≤ N := by omega
          go_wp2_with fail
          refine (specTurnOk_any _ _ _).mono ?_; rintro e w1 ⟨rfl, hb1⟩
          rw [HT.out]
          have t1 := t.below hb1 lt
          have ho1 := ho.below hb1
          have hz1 := hb1.size
          have hB1 := hB.trans (hb1.mono hB.size)
          have d0 := t1.cell0
          have d1 := t1.cell1
          have lt1 := t1.lt
          clear hb1 t ho hB c0 c1 lt
          go_wp2_with fail
          refine (specScaleOk_any _ _ _ _).mono ?_; rintro e w2 ⟨rfl, hb2⟩
          have t2 := t1.below hb2 lt1
          have ho2 := ho1.below hb2
          have hz2 := hb2.size
          have hB2 := hB1.trans (hb2.mono hB1.size)
          clear hb2 t1 ho1 hB1 d0 d1 lt1
          have hy := Lib.hid (HY.out k)
          have hno := Lib.hid (HNo.out k)
          have hln := HLn.out k
          obtain ⟨L, hL⟩ : ∃ L, (scUp (N : Int) S k).length = L := ⟨_, rfl⟩
          rw [hL] at hln
          have HL := Lib.hid hL
          clear hL
          cases hsc : scaleF (N : Int) S k with
          | true =>
            have hs1 := Lib.hid (hy.out hsc)
            clear hsc hy hno
            go_wp2_with (at_builtin; refine append_int rfl _ _ rfl (w.heap.size + 1) v0 (scUp (N : Int) S k) L HL (by omega) rfl ho2 (by omega) rfl ?_)
            intro v5 w5 ho5 hn5 hb5
            rw [← hs1.out] at ho5
            have t5 := t2.below hb5 (by omega)
            have hB5 := hB2.trans (hb5.mono (by omega))
            have hz5 := hb5.size
            clear ho2 hB2 hb5 t2
            go_wp2_with fail
            go_roundw
            case rel => exact ⟨k + 1, v5, by go_num, rfl, by omega, by omega, ho5, t5, by omega, hB5⟩
            case measure => simp only [intOf]; omega
          | false =>
            have hs1 := Lib.hid (hno.out hsc)
            clear hsc hy hno
            rw [← hs1.out] at ho2
            go_wp2_with fail
            go_roundw
            case rel => exact ⟨k + 1, v0, by go_num, rfl, by omega, by omega, ho2, t2, by omega, hB2⟩
            case measure => simp only [intOf]; omega
        · have hkm' : decide ((k : Int) ≤ N) = false := decide_eq_false (by omega)
          obtain rfl : k = N + 1 := by omega
          have ho' : OwnL wr w.heap.size v0 (scUp N S (N + 1)) := OwnL.mono (b := w.heap.size + 1) ho (by omega)
          clear ho
          go_wp2
          go_ret
          exact ⟨_, rfl, ho', hB⟩
    · have ht' : tok n s = false := by simpa using ht
      rw [scalesF_no ht]
      clear ht
      go_enter Try.func23, Try.ntmps23
      go_wp2_with fail
      go_loopw [3, 4] (fun o x wr => x = .int .i64 2 ∧ o = .slice (some ⟨w.heap.size + 1, 0, none⟩) 0 0 ∧ OwnL wr (w.heap.size + 1) (.slice (some ⟨w.heap.size + 1, 0, none⟩) 0 0) [] ∧ Two wr w.heap.size (.int .i64 n) (.int .i64 s) 24 ∧ Below w.heap.size w wr) (fun _ x _ => 0)
      case atStart => exact ⟨rfl, rfl, hnil, ht0, hB0⟩
      case round =>
        obtain ⟨rfl, rfl, ho, t, hB⟩ := hrel
        clear hnil ht0 hB0 hsz0 c0 c1
        have c0 := t.cell0
        have c1 := t.cell1
        go_wp2_with fail
        refine (specTurnOk_any _ _ _).mono ?_; rintro e w1 ⟨rfl, hb1⟩
        rw [ht']
        have ho1 := ho.below hb1
        have hB1 := hB.trans (hb1.mono hB.size)
        go_wp2
        go_ret
        exact ⟨_, rfl, OwnL.mono (b := w.heap.size + 1) ho1 (by omega), hB1⟩
  · have h2' : decide (2 ≤ n) = false := decide_eq_false h2
    have ht : ¬ tok n s = true := fun h => by have := tok_bd h; omega
    rw [scalesF_no ht]
    clear ht
    go_enter Try.func23, Try.ntmps23
    go_wp2_with fail
    go_loopw [3, 4] (fun o x wr => x = .int .i64 2 ∧ o = .slice (some ⟨w.heap.size + 1, 0, none⟩) 0 0 ∧ OwnL wr (w.heap.size + 1) (.slice (some ⟨w.heap.size + 1, 0, none⟩) 0 0) [] ∧ Two wr w.heap.size (.int .i64 n) (.int .i64 s) 24 ∧ Below w.heap.size w wr) (fun _ x _ => 0)
    case atStart => exact ⟨rfl, rfl, hnil, ht0, hB0⟩
    case round =>
      obtain ⟨rfl, rfl, ho, t, hB⟩ := hrel
      clear hnil ht0 hB0 hsz0 c0 c1
      have c0 := t.cell0
      have c1 := t.cell1
      go_wp2
      go_ret
      exact ⟨_, rfl, OwnL.mono (b := w.heap.size + 1) ho (by omega), hB⟩
end Go.Proofs.Ytcfhjkaemhhndaa

set_option linter.unusedVariables false
namespace Go.Proofs.Ytcfhjkaemhhndaa

set_option maxRecDepth 4000
open Go.ChangeShapes Go.WideShapes Go.ChangeAt Go.RowKit Go.Joins N

theorem mod_castS (a b : Nat) : (a : Int).tmod (b : Int) = ((a % b : Nat) : Int) := by rw [Int.tmod_eq_emod_of_nonneg (by omega)]; simp

theorem spanL_take (G : List Int) (k : Nat) {f : Nat} (hf : f < G.length) : (spanL G k).take (f + 1) = (spanL G k).take f ++ [spanS G f k] := by
  have hl := spanL_length G k
  rw [List.take_add_one, List.getElem?_eq_getElem (by rw [hl]; exact hf), Option.toList_some]
  have a := spanL_getD (k := k) hf
  rw [List.getD_eq_getElem?_getD, List.getElem?_eq_getElem (by rw [hl]; exact hf)] at a
  rw [show (spanL G k)[f]'(by rw [hl]; exact hf) = spanS G f k from a]

theorem sizesF_yes {n s m : Int} {K : Nat} (h1 : 1 ≤ K) (h2 : K ≤ (gapsF n s m).length) : sizesF n s m K = kindsL (spanL (gapsF n s m) K) := by
  unfold sizesF
  rw [if_pos ⟨by omega, by omega⟩, Int.toNat_natCast]

theorem patF_take {n s m : Int} (h : scaleF n s m = true) {j : Nat} (hj : j < (gapsF n s m).length) : (patF n s m).take (j + 1) = (patF n s m).take j ++ [!decide ((gapsF n s m).getD j 0 = leastF n s m)] := by
  rw [patF_yes h, List.take_add_one, List.getElem?_map, List.getElem?_eq_getElem hj, List.getD_eq_getElem?_getD, List.getElem?_eq_getElem hj]
  rfl

set_option maxHeartbeats 4000000 in
theorem specPatternOf_any (n s m : Int) (w : World) :
    Calls Try.prog 35 #[(.agg #[.int .i64 (n), .int .i64 (s)]), .int .i64 m] w (StrPost (patF n s m) w) := by
  
  have h1 := Lib.hid (fun w => specScaleOk_any n s m w)
  cases hs : scaleF n s m with
  | false =>
    rw [patF_no (by simp [hs])]
    rw [hs] at h1
    go_enter Try.func35, Try.ntmps35
    go_wp2_with fail
    refine (h1.out _).mono ?_; rintro e w1 ⟨rfl, hb1⟩
    have hz1 := hb1.size
    try simp at hz1
    have t1 : Two w1 (w.heap.size) (.int .i64 n) (.int .i64 s) 24 := Two.below (by repeat (first | assumption | exact Two.new' _ _ _ _ _ (by simp) | refine Two.alloc ?_ _ | refine Two.drewN ?_ _)) hb1 (by first | omega | (simp <;> omega))
    have hlt1 : (w.heap.size) < w1.heap.size := t1.lt
    have hnt1 : ¬ (w.heap.size) = w1.heap.size := Nat.ne_of_lt hlt1
    have t1c := t1.cell0
    have t1d := t1.cell1
    go_wp2
    go_ret
    exact ⟨rfl, (by repeat (first | exact Below.refl _ _ | assumption | (refine Below.trans ?_ (Below.mono (by assumption) (by first | omega | (simp <;> omega)))) | (refine Below.alloc ?_ (by first | omega | (simp <;> omega)) _) | (refine below_drewN ?_ _) | (refine Below.drew ?_) | (refine Below.setCell ?_ (by first | omega | (simp <;> omega)) _)))⟩
  | true =>
    rw [hs] at h1
    have h2 := fun w => specGapsOf_any n s m w
    have h3 := Lib.hid (fun w => specLeastGap_any n s m w)
    have hlen := gapsF_len n s m
    have hPl : (patF n s m).length = (gapsF n s m).length := by rw [patF_yes hs, List.length_map]
    have HP : Hid (∀ j, j < (gapsF n s m).length → (patF n s m).take (j + 1) = (patF n s m).take j ++ [!decide ((gapsF n s m).getD j 0 = leastF n s m)]) := fun j hj => patF_take hs hj
    generalize patF n s m = P at *
    generalize gapsF n s m = L at *
    generalize leastF n s m = E at *
    obtain ⟨K, hK⟩ : ∃ K, L.length = K := ⟨_, rfl⟩
    rw [hK] at hlen hPl HP
    have HPK : Hid (P.take K = P) := List.take_of_length_le (by omega)
    have HZ : Hid (∀ j, j ≤ K → (txtB (P.take j)).size = j) := fun j hj => by rw [txtB_size, List.length_take, hPl]; omega
    have HK := Lib.hid hK
    clear hK hPl hs
    go_enter Try.func35, Try.ntmps35
    go_wp2_with fail
    refine (h1.out _).mono ?_; rintro e w1 ⟨rfl, hb1⟩
    have hz1 := hb1.size
    try simp at hz1
    have t1 : Two w1 (w.heap.size) (.int .i64 n) (.int .i64 s) 24 := Two.below (by repeat (first | assumption | exact Two.new' _ _ _ _ _ (by simp) | refine Two.alloc ?_ _ | refine Two.drewN ?_ _)) hb1 (by first | omega | (simp <;> omega))
    have hlt1 : (w.heap.size) < w1.heap.size := t1.lt
    have hnt1 : ¬ (w.heap.size) = w1.heap.size := Nat.ne_of_lt hlt1
    have t1c := t1.cell0
    have t1d := t1.cell1
    go_wp2_with fail
    refine (h2 _).mono ?_; rintro e w2 ⟨v1, rfl, ho1, hb2⟩
    have hz2 := hb2.size
    try simp at hz2
    have t2 : Two w2 (w.heap.size) (.int .i64 n) (.int .i64 s) 24 := Two.below (by repeat (first | assumption | exact Two.new' _ _ _ _ _ (by simp) | refine Two.alloc ?_ _ | refine Two.drewN ?_ _)) hb2 (by first | omega | (simp <;> omega))
    have hlt2 : (w.heap.size) < w2.heap.size := t2.lt
    have hnt2 : ¬ (w.heap.size) = w2.heap.size := Nat.ne_of_lt hlt2
    have t2c := t2.cell0
    have t2d := t2.cell1
    go_wp2_with fail
    refine (h3.out _).mono ?_; rintro e w3 ⟨rfl, hb3⟩
    have hz3 := hb3.size
    try simp at hz3
    have t3 : Two w3 (w.heap.size) (.int .i64 n) (.int .i64 s) 24 := Two.below (by repeat (first | assumption | exact Two.new' _ _ _ _ _ (by simp) | refine Two.alloc ?_ _ | refine Two.drewN ?_ _)) hb3 (by first | omega | (simp <;> omega))
    have hlt3 : (w.heap.size) < w3.heap.size := t3.lt
    have hnt3 : ¬ (w.heap.size) = w3.heap.size := Nat.ne_of_lt hlt3
    have t3c := t3.cell0
    have t3d := t3.cell1
    have ho2 := ho1.below hb3
    obtain ⟨a1, cap1, rfl, hcells⟩ := ho2.reads.cells HK.out
    have hB1 : Below w.heap.size w w3 := (by repeat (first | exact Below.refl _ _ | assumption | (refine Below.trans ?_ (Below.mono (by assumption) (by first | omega | (simp <;> omega)))) | (refine Below.alloc ?_ (by first | omega | (simp <;> omega)) _) | (refine below_drewN ?_ _) | (refine Below.drew ?_) | (refine Below.setCell ?_ (by first | omega | (simp <;> omega)) _)))
    clear ho1 ho2 h2 hb1 hb2 hb3 t3 t3c t3d
    go_wp2_with fail
    go_loopw [5, 8] (fun y x wr => ∃ k q : Nat, y = .string (txtB (P.take k)) ∧ x = .int .i64 k ∧ k ≤ K ∧ wr = w3.drewN q) (fun _ x _ => K - (intOf x).toNat)
    case atStart => exact ⟨0, 0, rfl, rfl, by omega, rfl⟩
    case round =>
      obtain ⟨k, q, rfl, rfl, hk, rfl⟩ := hrel
      by_cases hkn : k < K
      · have hkn' : (k : Int) < K := by omega
        obtain ⟨g, off, rfl, HC⟩ := hcells (by omega)
        have ck : (w3.drewN q).cell? ⟨g, off + k, none⟩ = some (.int .i64 (L.getD k 0)) := HC.out k hkn
        have hp := Lib.hid (HP.out k hkn)
        have hz := HZ.out k hk
        generalize L.getD k 0 = X at *
        by_cases hx : X = E
        · have hx' : (X == E) = true := by simpa using hx
          have E2 : Hid (txtB (P.take k) ++ ⟨#[48]⟩ = txtB (P.take (k + 1))) := by
            have := hp.out
            rw [decide_eq_true hx] at this
            rw [show (⟨#[48]⟩ : ByteArray) = txtB [false] from rfl, txtB_append]
            show _ = _
            rw [this]; rfl
          clear hp hx
          go_wp2_with fail
          try go_quiet (fail)
          go_wp2_with fail
          go_roundw
          case rel => first | exact ⟨k + 1, q, by rw [E2.out], by go_num, by omega, rfl⟩ | exact ⟨k + 1, q + nq, by rw [E2.out], by go_num, by omega, by simp⟩
          case measure => simp only [intOf]; omega
        · have hx' : (X == E) = false := by simpa using hx
          have E2 : Hid (txtB (P.take k) ++ ⟨#[49]⟩ = txtB (P.take (k + 1))) := by
            have := hp.out
            rw [decide_eq_false hx] at this
            rw [show (⟨#[49]⟩ : ByteArray) = txtB [true] from rfl, txtB_append]
            show _ = _
            rw [this]; rfl
          clear hp hx
          go_wp2_with fail
          try go_quiet (fail)
          go_wp2_with fail
          go_roundw
          case rel => first | exact ⟨k + 1, q, by rw [E2.out], by go_num, by omega, rfl⟩ | exact ⟨k + 1, q + nq, by rw [E2.out], by go_num, by omega, by simp⟩
          case measure => simp only [intOf]; omega
      · have hkn' : decide ((k : Int) < K) = false := decide_eq_false (by omega)
        have hkn2 : decide (k < K) = false := decide_eq_false hkn
        obtain rfl : k = K := by omega
        go_wp2
        go_ret
        refine ⟨?_, below_drewN hB1 q⟩
        rw [HPK.out]; rfl

set_option maxHeartbeats 4000000 in
theorem specSizesOf_any (n s m k : Int) (w : World) :
    Calls Try.prog 29 #[(.agg #[.int .i64 (n), .int .i64 (s)]), .int .i64 m, .int .i64 k] w (ListPost (sizesF n s m k) w) := by
  
  have h1 := fun w => specGapsOf_any n s m w
  have hlen := gapsF_len n s m
  have hbd : ∀ i, i < (gapsF n s m).length → 1 ≤ (gapsF n s m).getD i 0 ∧ (gapsF n s m).getD i 0 ≤ 60 := fun i hi => by
    by_cases c : tok n s = true ∧ 1 ≤ m ∧ m ≤ n
    · obtain ⟨ht, m1, m2⟩ := c
      obtain ⟨M, rfl⟩ := Int.eq_ofNat_of_zero_le (by omega : 0 ≤ m)
      rw [gapsF_yes ht (by omega) m2] at hi ⊢
      rw [gapsT_length] at hi
      have := gaps_pos (turns_of ht) m2 hi 0
      have := tok_bd ht
      omega
    · rw [gapsF_no c] at hi; simp at hi
  by_cases hc : 1 ≤ k ∧ k ≤ (gapsF n s m).length
  · obtain ⟨k1, k2⟩ := hc
    obtain ⟨K, rfl⟩ := Int.eq_ofNat_of_zero_le (by omega : 0 ≤ k)
    rw [sizesF_yes (by omega) (by omega)]
    generalize gapsF n s m = G at h1 hlen hbd k2 ⊢
    obtain ⟨N, hN⟩ : ∃ N, G.length = N := ⟨_, rfl⟩
    have HSL : Hid ((spanL G K).length = N) := by show _ = _; rw [spanL_length, hN]
    have HTk : Hid (∀ f, f < N → (spanL G K).take (f + 1) = (spanL G K).take f ++ [spanS G f K]) := fun f hf => spanL_take G K (by rw [hN]; exact hf)
    have HTl : Hid (∀ f, f ≤ N → ((spanL G K).take f).length = f) := fun f hf => by rw [List.length_take, spanL_length, hN]; omega
    have HTN : Hid ((spanL G K).take N = spanL G K) := List.take_of_length_le (by rw [spanL_length, hN]; exact Nat.le_refl _)
    have HSb : Hid (∀ f j, j ≤ K → (j : Int) ≤ spanS G f j ∧ spanS G f j ≤ 3600) := fun f j hj => by
      have := spanS_bd (B := 60) hbd (by omega) f j
      omega
    have HSs : Hid (∀ f j, spanS G f (j + 1) = spanS G f j + G.getD ((f + j) % N) 0) := fun f j => by rw [← hN]; rfl
    have HS0 : Hid (∀ f, spanS G f 0 = 0) := fun f => rfl
    have hkd := dd_kinds (spanL G K) HSL.out
    have hL : (isort (spanL G K)).length = N := by rw [isort_length]; exact HSL.out
    rw [← hkd]
    have HNG := Lib.hid hN
    have HGb : Hid (∀ i, i < N → 1 ≤ G.getD i 0 ∧ G.getD i 0 ≤ 60) := fun i hi => hbd i (by rw [hN]; exact hi)
    rw [hN] at hlen k2
    have hN0 : 0 < N := by omega
    clear hkd hbd hN
    go_enter Try.func29, Try.ntmps29
    go_wp2_with fail
    refine (h1 _).mono ?_; rintro e w1 ⟨v1, rfl, ho1, hb1⟩
    have hz1 := hb1.size
    try simp at hz1
    obtain ⟨a1, cap1, rfl, hcells⟩ := ho1.reads.cells HNG.out
    have hB1 : Below w.heap.size w w1 := (by repeat (first | exact Below.refl _ _ | assumption | (refine Below.trans ?_ (Below.mono (by assumption) (by first | omega | (simp <;> omega)))) | (refine Below.alloc ?_ (by first | omega | (simp <;> omega)) _) | (refine below_drewN ?_ _) | (refine Below.drew ?_) | (refine Below.setCell ?_ (by first | omega | (simp <;> omega)) _)))
    have hnil := made_nil w1
    obtain ⟨g, off, rfl, HC⟩ := hcells (by omega)
    have HC1 : Hid (∀ j, j < N → w1.cell? ⟨g, off + j, none⟩ = some (.int .i64 (G.getD j 0))) := fun j hj => HC.out j hj
    have hBa : Below w1.heap.size w1 (w1.alloc (.cells #[] 3)) := (by repeat (first | exact Below.refl _ _ | assumption | (refine Below.trans ?_ (Below.mono (by assumption) (by first | omega | (simp <;> omega)))) | (refine Below.alloc ?_ (by first | omega | (simp <;> omega)) _) | (refine below_drewN ?_ _) | (refine Below.drew ?_) | (refine Below.setCell ?_ (by first | omega | (simp <;> omega)) _)))
    clear ho1 h1 hb1 hcells HC
    go_wp2_with fail
    go_loopw [8, 9] (fun y x wr => ∃ (f : Nat) (v0 : Value), x = .int .i64 f ∧ v0 = y ∧ f ≤ N ∧ OwnL wr w1.heap.size v0 ((spanL G K).take f) ∧ Below w1.heap.size w1 wr) (fun _ x _ => N - (intOf x).toNat)
    case atStart => exact ⟨0, _, rfl, rfl, by omega, hnil, hBa⟩
    case round =>
      obtain ⟨f, v0, rfl, rfl, hf, ho, hB⟩ := hrel
      clear hnil hBa
      by_cases hfn : f < N
      · have hfn' : (f : Int) < N := by omega
        go_wp2_with fail
        refine (l1In_any _ _ _ _).mono ?_; rintro e w2 ⟨rfl, rfl⟩
        rw [decide_eq_true (show (1 : Int) ≤ K by omega), decide_eq_true (show (K : Int) ≤ N by omega)]
        go_wp2_with fail
        go_loopw [10, 11] (fun y x wx => ∃ j q : Nat, y = .int .i64 (spanS G f j) ∧ x = .int .i64 j ∧ j ≤ K ∧ wx = wr.drewN q) (fun _ x _ => K - (intOf x).toNat)
        case atStart => exact ⟨0, 0, by rw [HS0.out], rfl, by omega, rfl⟩
        case round =>
          obtain ⟨j, q, rfl, rfl, hj, rfl⟩ := hrel
          by_cases hjk : j < K
          · have hjk' : (j : Int) < K := by omega
            have hss := Lib.hid (HSs.out f j)
            have hsb := HSb.out f j hj
            have hP : (f + j) % N < N := Nat.mod_lt _ (by omega)
            have hgb := HGb.out _ hP
            have c1 := HC1.out _ hP
            have ck : (wr.drewN q).cell? ⟨g, off + (f + j) % N, none⟩ = some (.int .i64 (G.getD ((f + j) % N) 0)) := (hB.cell (p := ⟨g, off + (f + j) % N, none⟩) (World.block_lt_of_cell? w1 _ c1)).trans c1
            have wfj : IntKind.i64.wrap ((f : Int) + (j : Int)) = ((f + j : Nat) : Int) := by rw [← Int.natCast_add]; exact IntWalk.i64_in _ (by omega)
            have d1 := mod_castS (f + j) N
            have d1' : ((f + j : Nat) : Int) % (N : Int) = (((f + j) % N : Nat) : Int) := by simp
            have hNz : ¬ (N : Int) = 0 := by omega
            generalize (f + j) % N = Pk at *
            generalize f + j = fj at *
            generalize G.getD Pk 0 = X at *
            generalize spanS G f j = F at *
            have hP' : (Pk : Int) < N := by omega
            have hw3 : IntKind.i64.wrap (F + X) = F + X := IntWalk.i64_in _ (by omega)
            clear c1
            go_wp2_with fail
            try go_quiet (fail)
            go_wp2_with fail
            go_roundw
            case rel => first | exact ⟨j + 1, q, by rw [hss.out], by go_num, by omega, rfl⟩ | exact ⟨j + 1, q + nq, by rw [hss.out], by go_num, by omega, by simp⟩
            case measure => simp only [intOf]; omega
          · have hjk' : decide ((j : Int) < K) = false := decide_eq_false (by omega)
            obtain rfl : j = K := by omega
            have ho2 : OwnL (wr.drewN q) w1.heap.size v0 ((spanL G j).take f) := ho
            have hz : w1.heap.size ≤ (wr.drewN q).heap.size := hB.size
            have hB2 := below_drewN hB q
            have hl := Lib.hid (HTl.out f hf)
            have ht := Lib.hid (HTk.out f hfn)
            clear ho hB
            generalize spanS G f j = F at *
            go_wp2_with (at_builtin; refine append_int rfl _ _ rfl w1.heap.size v0 ((spanL G j).take f) f hl (by omega) rfl ho2 hz rfl ?_)
            intro v5 w5 ho5 hn5 hb5
            rw [← ht.out] at ho5
            have hB5 := hB2.trans hb5
            clear ho2 hB2 hb5
            go_wp2_with fail
            go_roundw
            case rel => exact ⟨f + 1, v5, by go_num, rfl, by omega, ho5, hB5⟩
            case measure => simp only [intOf]; omega
      · have hfn' : decide ((f : Int) < N) = false := decide_eq_false (by omega)
        have hfn2 : decide (f < N) = false := decide_eq_false hfn
        obtain rfl : f = N := by omega
        rw [HTN.out] at ho
        have hBw := hB1.trans (hB.mono hB1.size)
        have hzw := hBw.size
        go_wp2_with fail
        refine (l2Sorted_any v0 (spanL G K) _ ho.reads (by rw [HSL.out]; omega)).mono ?_; rintro e w3 ⟨v3, rfl, ho3, hb3⟩
        have hB3 := hBw.trans (hb3.mono hzw)
        generalize isort (spanL G K) = L at *
        obtain ⟨a, cap, rfl, HC0⟩ := (show Reads w3 v3 L from ho3.reads).cells hL
        have HC2 : Hid (∀ j, j < f → ∃ g off, a = some ⟨g, off, none⟩ ∧ ∀ j, j < f → w3.cell? ⟨g, off + j, none⟩ = some (.int .i64 (L.getD j 0))) := fun j hj => by
          obtain ⟨g, off, e, h⟩ := HC0 (by omega)
          exact ⟨g, off, e, fun j hj => h.out j hj⟩
        have hnil3 := made_nil w3
        have hBa3 : Below w3.heap.size w3 (w3.alloc (.cells #[] 3)) := (by repeat (first | exact Below.refl _ _ | assumption | (refine Below.trans ?_ (Below.mono (by assumption) (by first | omega | (simp <;> omega)))) | (refine Below.alloc ?_ (by first | omega | (simp <;> omega)) _) | (refine below_drewN ?_ _) | (refine Below.drew ?_) | (refine Below.setCell ?_ (by first | omega | (simp <;> omega)) _)))
        clear ho ho3 hb3 hB hBw HC0 hB1 HC1 hfn
        go_wp2_with fail
        go_loopw [12, 13] (fun y x wr => ∃ (k : Nat) (v0 : Value), x = .int .i64 k ∧ v0 = y ∧ k ≤ f ∧ OwnL wr w3.heap.size v0 (dd L k) ∧ Below w3.heap.size w3 wr) (fun _ x _ => f - (intOf x).toNat)
        case atStart => exact ⟨0, _, rfl, rfl, by omega, hnil3, hBa3⟩
        case round =>
          obtain ⟨k, v0, rfl, rfl, hk, ho, hB⟩ := hrel
          clear hnil3 hBa3
          by_cases hkm : k < f
          · have hkm' : (k : Int) < f := by omega
            obtain ⟨g, off, rfl, HC⟩ := HC2.out k hkm
            have c1 := HC k hkm
            have ck := (hB.cell (p := ⟨g, off + k, none⟩) (World.block_lt_of_cell? w3 _ c1)).trans c1
            have hz := hB.size
            have hdl := dd_len L k
            obtain ⟨D, hD⟩ : ∃ D, (dd L k).length = D := ⟨_, rfl⟩
            rw [hD] at hdl
            have HD := Lib.hid hD
            clear hD c1
            by_cases hk0 : k = 0
            · subst hk0
              have hS := dd_yes (ys := L) (k := 0) (.inl rfl)
              generalize hX : L.getD 0 0 = X at *
              have HS := Lib.hid hS
              simp only [Nat.add_zero] at ck
              clear hS HC hX
              go_wp2_with fail
              go_quiet (fail)
              have ho' : OwnL (wr.drewN nq) w3.heap.size v0 (dd L 0) := ho
              have hz' : w3.heap.size ≤ (wr.drewN nq).heap.size := hz
              go_wp2_with (at_builtin; refine append_int rfl _ _ rfl w3.heap.size v0 (dd L 0) D HD (by omega) rfl ho' hz' rfl ?_)
              intro v5 w5 ho5 hn5 hb5
              rw [← HS.out] at ho5
              have hB5 := (below_drewN hB nq).trans hb5
              clear ck ho ho' hb5 hB
              go_wp2_with fail
              go_roundw
              case rel => exact ⟨0 + 1, _, by go_num, rfl, by omega, ho5, hB5⟩
              case measure => simp only [intOf]; omega
            · obtain ⟨j, rfl⟩ : ∃ j, k = j + 1 := ⟨k - 1, by omega⟩
              have c0 := HC j (by omega)
              have cj := (hB.cell (p := ⟨g, off + j, none⟩) (World.block_lt_of_cell? w3 _ c0)).trans c0
              have hk0' : ((j : Int) + 1 == 0) = false := by simp; omega
              have eq1 : ((j + 1 : Nat) : Int) = (j : Int) + 1 := by omega
              rw [eq1] at hkm' ⊢
              have q1 : (j : Int) < f := by omega
              clear eq1
              by_cases hne : L.getD (j + 1) 0 = L.getD j 0
              · have hS := dd_no (ys := L) (k := j + 1) (by rintro (h | h); · omega
                                                            · exact h hne)
                have HS := Lib.hid hS
                rw [hne] at ck
                generalize L.getD j 0 = X at *
                clear hS HC c0 hne
                go_wp2_with fail
                go_quiet (fail)
                have ho' : OwnL (wr.drewN nq) w3.heap.size v0 (dd L (j + 1 + 1)) := by rw [HS.out]; exact ho
                have hB5 := below_drewN hB nq
                clear ck cj ho hB
                go_wp2_with fail
                go_roundw
                case rel => exact ⟨j + 1 + 1, v0, by go_num, rfl, by omega, ho', hB5⟩
                case measure => simp only [intOf]; omega
              · have hS := dd_yes (ys := L) (k := j + 1) (.inr hne)
                have HS := Lib.hid hS
                have hne' : (L.getD (j + 1) 0 != L.getD j 0) = true := by simpa using hne
                generalize L.getD (j + 1) 0 = Y at *
                generalize L.getD j 0 = X at *
                clear hS HC c0 hne
                go_wp2_with fail
                go_quiet (fail)
                have ho' : OwnL (wr.drewN nq) w3.heap.size v0 (dd L (j + 1)) := ho
                have hz' : w3.heap.size ≤ (wr.drewN nq).heap.size := hz
                go_wp2_with (at_builtin; refine append_int rfl _ _ rfl w3.heap.size v0 (dd L (j + 1)) D HD (by omega) rfl ho' hz' rfl ?_)
                intro v5 w5 ho5 hn5 hb5
                rw [← HS.out] at ho5
                have hB5 := (below_drewN hB nq).trans hb5
                clear ck cj ho ho' hb5 hB
                go_wp2_with fail
                go_roundw
                case rel => exact ⟨j + 1 + 1, v5, by go_num, rfl, by omega, ho5, hB5⟩
                case measure => simp only [intOf]; omega
          · have hkm' : decide ((k : Int) < f) = false := decide_eq_false (by omega)
            have hkm2 : decide (k < f) = false := decide_eq_false hkm
            obtain rfl : k = f := by omega
            have ho' : OwnL wr w.heap.size v0 (dd L k) := OwnL.mono (b := w3.heap.size) ho (by have := hB3.size; omega)
            have hBf := hB3.trans (hB.mono hB3.size)
            clear ho
            go_wp2
            go_ret
            exact ⟨_, rfl, ho', hBf⟩
  · rw [sizes_no hc]
    generalize gapsF n s m = G at h1 hlen hc ⊢
    obtain ⟨N, hN⟩ : ∃ N, G.length = N := ⟨_, rfl⟩
    have HNG := Lib.hid hN
    rw [hN] at hlen hc
    clear hN hbd
    have HNo : Hid (0 < N → (decide (1 ≤ k) && decide (k ≤ (N : Int))) = false) := fun _ => by
      rw [← Bool.decide_and]; exact decide_eq_false hc
    have hs0 : isort ([] : List Int) = [] := rfl
    go_enter Try.func29, Try.ntmps29
    go_wp2_with fail
    refine (h1 _).mono ?_; rintro e w1 ⟨v1, rfl, ho1, hb1⟩
    have hz1 := hb1.size
    try simp at hz1
    obtain ⟨a1, cap1, rfl, hcells⟩ := ho1.reads.cells HNG.out
    have hB1 : Below w.heap.size w w1 := (by repeat (first | exact Below.refl _ _ | assumption | (refine Below.trans ?_ (Below.mono (by assumption) (by first | omega | (simp <;> omega)))) | (refine Below.alloc ?_ (by first | omega | (simp <;> omega)) _) | (refine below_drewN ?_ _) | (refine Below.drew ?_) | (refine Below.setCell ?_ (by first | omega | (simp <;> omega)) _)))
    have hnil := made_nil w1
    have hBa : Below w1.heap.size w1 (w1.alloc (.cells #[] 3)) := (by repeat (first | exact Below.refl _ _ | assumption | (refine Below.trans ?_ (Below.mono (by assumption) (by first | omega | (simp <;> omega)))) | (refine Below.alloc ?_ (by first | omega | (simp <;> omega)) _) | (refine below_drewN ?_ _) | (refine Below.drew ?_) | (refine Below.setCell ?_ (by first | omega | (simp <;> omega)) _)))
    clear ho1 h1 hb1 hcells
    go_wp2_with fail
    go_loopw [8, 9] (fun y x wr => ∃ (v0 : Value), x = .int .i64 0 ∧ v0 = y ∧ OwnL wr w1.heap.size v0 [] ∧ Below w1.heap.size w1 wr) (fun _ x _ => 0)
    case atStart => exact ⟨_, rfl, rfl, hnil, hBa⟩
    case round =>
      obtain ⟨v0, rfl, rfl, ho, hB⟩ := hrel
      clear hnil hBa
      have hBw := hB1.trans (hB.mono hB1.size)
      have hzw := hBw.size
      by_cases h0 : 0 < N
      · have h0' : (0 : Int) < N := by omega
        have hno := HNo.out h0
        go_wp2_with fail
        refine (l1In_any _ _ _ _).mono ?_; rintro e w2 ⟨rfl, rfl⟩
        rw [hno]
        go_wp2_with fail
        refine (l2Sorted_any v0 [] _ ho.reads (by simp)).mono ?_; rintro e w3 ⟨v3, rfl, ho3, hb3⟩
        rw [hs0] at ho3
        have hB3 := hBw.trans (hb3.mono hzw)
        obtain ⟨a, cap, rfl, _⟩ := (show Reads w3 v3 [] from ho3.reads).cells (N := 0) rfl
        have hnil3 := made_nil w3
        have hBa3 := hB3.alloc hB3.size (.cells #[] 3)
        go_wp2_with fail
        go_loopw [12, 13] (fun y x wr => ∃ (v0 : Value), x = .int .i64 0 ∧ v0 = y ∧ OwnL wr w3.heap.size v0 [] ∧ Below w.heap.size w wr) (fun _ x _ => 0)
        case atStart => exact ⟨_, rfl, rfl, hnil3, hBa3⟩
        case round =>
          obtain ⟨v0, rfl, rfl, ho, hB⟩ := hrel
          have ho' : OwnL wr w.heap.size v0 [] := OwnL.mono (b := w3.heap.size) ho (by have := hB3.size; omega)
          go_wp2
          go_ret
          exact ⟨_, rfl, ho', hB⟩
      · obtain rfl : N = 0 := by omega
        go_wp2_with fail
        refine (l2Sorted_any v0 [] _ ho.reads (by simp)).mono ?_; rintro e w3 ⟨v3, rfl, ho3, hb3⟩
        rw [hs0] at ho3
        have hB3 := hBw.trans (hb3.mono hzw)
        obtain ⟨a, cap, rfl, _⟩ := (show Reads w3 v3 [] from ho3.reads).cells (N := 0) rfl
        have hnil3 := made_nil w3
        have hBa3 := hB3.alloc hB3.size (.cells #[] 3)
        go_wp2_with fail
        go_loopw [12, 13] (fun y x wr => ∃ (v0 : Value), x = .int .i64 0 ∧ v0 = y ∧ OwnL wr w3.heap.size v0 [] ∧ Below w.heap.size w wr) (fun _ x _ => 0)
        case atStart => exact ⟨_, rfl, rfl, hnil3, hBa3⟩
        case round =>
          obtain ⟨v0, rfl, rfl, ho, hB⟩ := hrel
          have ho' : OwnL wr w.heap.size v0 [] := OwnL.mono (b := w3.heap.size) ho (by have := hB3.size; omega)
          go_wp2
          go_ret
          exact ⟨_, rfl, ho', hB⟩
end Go.Proofs.Ytcfhjkaemhhndaa
