/- Contracts of chapter 12's functions of the model: scales. Contracts of chapter 12's functions of the model: spans and patterns. -/
import Derived.Test.YtcfhjkaemhhndaaDoorGScl
import Derived.Test.YtcfhjkaemhhndaaDoorGNear
import Derived.Test.YtcfhjkaemhhndaaDoorGKinds
import Derived.Test.YtcfhjkaemhhndaaDoorFarS
import Derived.Test.YtcfhjkaemhhndaaDoorGWord
import Derived.Test.YtcfhjkaemhhndaaDoorGSort
set_option linter.unusedVariables false
namespace Go.Proofs.YtcfhjkaemhhndaaDoor

set_option maxRecDepth 4000
open Go.ChangeShapes Go.WideShapes Go.ChangeAt Go.RowKit Go.Joins N

theorem near_bds (n s m : Int) : (-1 ≤ nearA n s m ∧ nearA n s m ≤ 60) ∧ (-1 ≤ nearB n s m ∧ nearB n s m ≤ 60) := by
  by_cases c : tok n s = true ∧ 2 ≤ m ∧ m ≤ n
  · have a := nearA_is c.1 c.2.1 c.2.2
    have b := nearB_is c.1 c.2.1 c.2.2
    have h := tok_bd c.1
    have a1 := a.1; have a2 := a.2.1; have b1 := b.1; have b2 := b.2.1
    omega
  · rw [nearA_no c, nearB_no c]; omega

set_option maxHeartbeats 1000000 in
theorem specScaleOk_any (n s m : Int) (w : World) :
    Calls Tryd.prog 20 #[(.agg #[.int .i64 (n), .int .i64 (s)]), .int .i64 m] w fun e w' => e = .returned (.bool (scaleF n s m)) ∧ Below w.heap.size w w' := by
  have h1 := fun w => specNearAbove_any n s m w
  have h2 := fun w => specNearBelow_any n s m w
  unfold IntPost at h1 h2
  have hb := near_bds n s m
  unfold scaleF
  generalize nearA n s m = p at *
  generalize nearB n s m = q at *
  have hw : IntKind.i64.wrap (p + q) = p + q := IntWalk.i64_in _ (by omega)
  
  by_cases hp : 0 < p
  · rw [decide_eq_true hp]
    by_cases he : p + q = m
    · have he' : ((p + q) == m) = true := by simpa using he
      rw [decide_eq_true he]
      clear he
      go_enter Tryd.func20, Tryd.ntmps20
      go_wp2_with fail
      refine (h1 _).mono ?_; rintro e w1 ⟨rfl, hb1⟩
      have hz1 := hb1.size
      try simp at hz1
      have t1 : Two w1 (w.heap.size) (.int .i64 n) (.int .i64 s) 24 := Two.below (by repeat (first | assumption | exact Two.new' _ _ _ _ _ (by simp) | refine Two.alloc ?_ _ | refine Two.drewN ?_ _)) hb1 (by first | omega | (simp <;> omega))
      have hlt1 : (w.heap.size) < w1.heap.size := t1.lt
      have hnt1 : ¬ (w.heap.size) = w1.heap.size := Nat.ne_of_lt hlt1
      have t1c := t1.cell0
      have t1d := t1.cell1
      go_wp2_with fail
      refine (h2 _).mono ?_; rintro e w2 ⟨rfl, hb2⟩
      have hz2 := hb2.size
      try simp at hz2
      have t2 : Two w2 (w.heap.size) (.int .i64 n) (.int .i64 s) 24 := Two.below (by repeat (first | assumption | exact Two.new' _ _ _ _ _ (by simp) | refine Two.alloc ?_ _ | refine Two.drewN ?_ _)) hb2 (by first | omega | (simp <;> omega))
      have hlt2 : (w.heap.size) < w2.heap.size := t2.lt
      have hnt2 : ¬ (w.heap.size) = w2.heap.size := Nat.ne_of_lt hlt2
      have t2c := t2.cell0
      have t2d := t2.cell1
      go_wp2
      go_ret
      exact ⟨rfl, (by repeat (first | exact Below.refl _ _ | assumption | (refine Below.trans ?_ (Below.mono (by assumption) (by first | omega | (simp <;> omega)))) | (refine Below.alloc ?_ (by first | omega | (simp <;> omega)) _) | (refine below_drewN ?_ _) | (refine Below.drew ?_) | (refine Below.setCell ?_ (by first | omega | (simp <;> omega)) _)))⟩
    · have he' : ((p + q) == m) = false := by simpa using he
      rw [decide_eq_false he]
      clear he
      go_enter Tryd.func20, Tryd.ntmps20
      go_wp2_with fail
      refine (h1 _).mono ?_; rintro e w1 ⟨rfl, hb1⟩
      have hz1 := hb1.size
      try simp at hz1
      have t1 : Two w1 (w.heap.size) (.int .i64 n) (.int .i64 s) 24 := Two.below (by repeat (first | assumption | exact Two.new' _ _ _ _ _ (by simp) | refine Two.alloc ?_ _ | refine Two.drewN ?_ _)) hb1 (by first | omega | (simp <;> omega))
      have hlt1 : (w.heap.size) < w1.heap.size := t1.lt
      have hnt1 : ¬ (w.heap.size) = w1.heap.size := Nat.ne_of_lt hlt1
      have t1c := t1.cell0
      have t1d := t1.cell1
      go_wp2_with fail
      refine (h2 _).mono ?_; rintro e w2 ⟨rfl, hb2⟩
      have hz2 := hb2.size
      try simp at hz2
      have t2 : Two w2 (w.heap.size) (.int .i64 n) (.int .i64 s) 24 := Two.below (by repeat (first | assumption | exact Two.new' _ _ _ _ _ (by simp) | refine Two.alloc ?_ _ | refine Two.drewN ?_ _)) hb2 (by first | omega | (simp <;> omega))
      have hlt2 : (w.heap.size) < w2.heap.size := t2.lt
      have hnt2 : ¬ (w.heap.size) = w2.heap.size := Nat.ne_of_lt hlt2
      have t2c := t2.cell0
      have t2d := t2.cell1
      go_wp2
      go_ret
      exact ⟨rfl, (by repeat (first | exact Below.refl _ _ | assumption | (refine Below.trans ?_ (Below.mono (by assumption) (by first | omega | (simp <;> omega)))) | (refine Below.alloc ?_ (by first | omega | (simp <;> omega)) _) | (refine below_drewN ?_ _) | (refine Below.drew ?_) | (refine Below.setCell ?_ (by first | omega | (simp <;> omega)) _)))⟩
  · have hp' : decide (0 < p) = false := decide_eq_false hp
    rw [hp']
    go_enter Tryd.func20, Tryd.ntmps20
    go_wp2_with fail
    refine (h1 _).mono ?_; rintro e w1 ⟨rfl, hb1⟩
    have hz1 := hb1.size
    try simp at hz1
    have t1 : Two w1 (w.heap.size) (.int .i64 n) (.int .i64 s) 24 := Two.below (by repeat (first | assumption | exact Two.new' _ _ _ _ _ (by simp) | refine Two.alloc ?_ _ | refine Two.drewN ?_ _)) hb1 (by first | omega | (simp <;> omega))
    have hlt1 : (w.heap.size) < w1.heap.size := t1.lt
    have hnt1 : ¬ (w.heap.size) = w1.heap.size := Nat.ne_of_lt hlt1
    have t1c := t1.cell0
    have t1d := t1.cell1
    go_wp2
    go_ret
    exact ⟨rfl, (by repeat (first | exact Below.refl _ _ | assumption | (refine Below.trans ?_ (Below.mono (by assumption) (by first | omega | (simp <;> omega)))) | (refine Below.alloc ?_ (by first | omega | (simp <;> omega)) _) | (refine below_drewN ?_ _) | (refine Below.drew ?_) | (refine Below.setCell ?_ (by first | omega | (simp <;> omega)) _)))⟩

set_option maxHeartbeats 4000000 in
theorem specScaleSizes_any (n s : Int) (w : World) :
    Calls Tryd.prog 31 #[(.agg #[.int .i64 (n), .int .i64 (s)])] w (ListPost (scalesF n s) w) := by
  have hnil := made_nil (w.alloc (.cells #[.int .i64 n, .int .i64 s] 24))
  rw [World.size_alloc] at hnil
  have ht0 : Two ((w.alloc (.cells #[.int .i64 n, .int .i64 s] 24)).alloc (.cells #[] 3)) w.heap.size (.int .i64 n) (.int .i64 s) 24 := (Two.new _ _ _ _).alloc _
  have hB0 : Below w.heap.size w ((w.alloc (.cells #[.int .i64 n, .int .i64 s] 24)).alloc (.cells #[] 3)) := (by repeat (first | exact Below.refl _ _ | assumption | (refine Below.trans ?_ (Below.mono (by assumption) (by first | omega | (simp <;> omega)))) | (refine Below.alloc ?_ (by first | omega | (simp <;> omega)) _) | (refine below_drewN ?_ _) | (refine Below.drew ?_) | (refine Below.setCell ?_ (by first | omega | (simp <;> omega)) _)))
  have hsz0 : w.heap.size + 1 < ((w.alloc (.cells #[.int .i64 n, .int .i64 s] 24)).alloc (.cells #[] 3)).heap.size := by simp
  have c0 := ht0.cell0
  have c1 := ht0.cell1
  by_cases h2 : 2 ≤ n
  · by_cases ht : tok n s = true
    · have hb := tok_bd ht
      obtain ⟨N, S, rfl, rfl, hN⟩ := tokN_of ht
      have HT := Lib.hid ht
      have HF : Hid (scalesF N S = scUp N S (N + 1)) := rfl
      have H2 : Hid (scUp (N : Int) S 2 = []) := scUp_two _ _
      have HY : Hid (∀ k : Nat, scaleF (N : Int) S k = true → scUp (N : Int) S (k + 1) = scUp N S k ++ [(k : Int)]) := fun k h => scUp_yes h
      have HNo : Hid (∀ k : Nat, scaleF (N : Int) S k = false → scUp (N : Int) S (k + 1) = scUp N S k) := fun k h => scUp_no (by simp [h])
      have HLn : Hid (∀ k, (scUp (N : Int) S k).length ≤ k) := fun k => (scUp_facts _ _ k).2.2
      clear ht hN
      rw [HF.out]
      go_enter Tryd.func31, Tryd.ntmps31
      go_wp2_with fail
      go_loopw [3, 4] (fun o x wr => ∃ (k : Nat) (v0 : Value), x = .int .i64 k ∧ v0 = o ∧ 2 ≤ k ∧ k ≤ N + 1 ∧ OwnL wr (w.heap.size + 1) v0 (scUp N S k) ∧ Two wr w.heap.size (.int .i64 N) (.int .i64 S) 24 ∧ w.heap.size + 1 < wr.heap.size ∧ Below w.heap.size w wr) (fun _ x _ => N + 1 - (intOf x).toNat)
      case atStart => exact ⟨2, _, rfl, rfl, by omega, by omega, by rw [H2.out]; exact hnil, ht0, hsz0, hB0⟩
      case round =>
        obtain ⟨k, v0, rfl, rfl, hk2, hk, ho, t, hz, hB⟩ := hrel
        clear hnil ht0 hB0 hsz0 c0 c1
        have c0 := t.cell0
        have c1 := t.cell1
        have lt := t.lt
        by_cases hkm : k ≤ N
        · have hkm' : (k : Int) ≤ N := by omega
          go_wp2_with fail
          refine (specTurnOk_any _ _ _).mono ?_; rintro e w1 ⟨rfl, hb1⟩
          rw [HT.out]
          have t1 := t.below hb1 lt
          have ho1 := ho.below hb1
          have hz1 := hb1.size
          have hB1 := hB.trans (hb1.mono hB.size)
          have d0 := t1.cell0
          have d1 := t1.cell1
          have lt1 := t1.lt
          clear hb1 t ho hB c0 c1 lt
          go_wp2_with fail
          refine (specScaleOk_any _ _ _ _).mono ?_; rintro e w2 ⟨rfl, hb2⟩
          have t2 := t1.below hb2 lt1
          have ho2 := ho1.below hb2
          have hz2 := hb2.size
          have hB2 := hB1.trans (hb2.mono hB1.size)
          clear hb2 t1 ho1 hB1 d0 d1 lt1
          have hy := Lib.hid (HY.out k)
          have hno := Lib.hid (HNo.out k)
          have hln := HLn.out k
          obtain ⟨L, hL⟩ : ∃ L, (scUp (N : Int) S k).length = L := ⟨_, rfl⟩
          rw [hL] at hln
          have HL := Lib.hid hL
          clear hL
          cases hsc : scaleF (N : Int) S k with
          | true =>
            have hs1 := Lib.hid (hy.out hsc)
            clear hsc hy hno
            go_wp2_with (at_builtin; refine append_int rfl _ _ rfl (w.heap.size + 1) v0 (scUp (N : Int) S k) L HL (by omega) rfl ho2 (by omega) rfl ?_)
            intro v5 w5 ho5 hn5 hb5
            rw [← hs1.out] at ho5
            have t5 := t2.below hb5 (by omega)
            have hB5 := hB2.trans (hb5.mono (by omega))
            have hz5 := hb5.size
            clear ho2 hB2 hb5 t2
            go_wp2_with fail
            go_roundw
            case rel => exact ⟨k + 1, v5, by go_num, rfl, by omega, by omega, ho5, t5, by omega, hB5⟩
            case measure => simp only [intOf]; omega
          | false =>
            have hs1 := Lib.hid (hno.out hsc)
            clear hsc hy hno
            rw [← hs1.out] at ho2
            go_wp2_with fail
            go_roundw
            case rel => exact ⟨k + 1, v0, by go_num, rfl, by omega, by omega, ho2, t2, by omega, hB2⟩
            case measure => simp only [intOf]; omega
        · have hkm' : decide ((k : Int) ≤ N) = false := decide_eq_false (by omega)
          obtain rfl : k = N + 1 := by omega
          have ho' : OwnL wr w.heap.size v0 (scUp N S (N + 1)) := OwnL.mono (b := w.heap.size + 1) ho (by omega)
          clear ho
          go_wp2
          go_ret
          exact ⟨_, rfl, ho', hB⟩
    · have ht' : tok n s = false := by simpa using ht
      rw [scalesF_no ht]
      clear ht
      go_enter Tryd.func31, Tryd.ntmps31
      go_wp2_with fail
      go_loopw [3, 4] (fun o x wr => x = .int .i64 2 ∧ o = .slice (some ⟨w.heap.size + 1, 0, none⟩) 0 0 ∧ OwnL wr (w.heap.size + 1) (.slice (some ⟨w.heap.size + 1, 0, none⟩) 0 0) [] ∧ Two wr w.heap.size (.int .i64 n) (.int .i64 s) 24 ∧ Below w.heap.size w wr) (fun _ x _ => 0)
      case atStart => exact ⟨rfl, rfl, hnil, ht0, hB0⟩
      case round =>
        obtain ⟨rfl, rfl, ho, t, hB⟩ := hrel
        clear hnil ht0 hB0 hsz0 c0 c1
        have c0 := t.cell0
        have c1 := t.cell1
        go_wp2_with fail
        refine (specTurnOk_any _ _ _).mono ?_; rintro e w1 ⟨rfl, hb1⟩
        rw [ht']
        have ho1 := ho.below hb1
        have hB1 := hB.trans (hb1.mono hB.size)
        go_wp2
        go_ret
        exact ⟨_, rfl, OwnL.mono (b := w.heap.size + 1) ho1 (by omega), hB1⟩
  · have h2' : decide (2 ≤ n) = false := decide_eq_false h2
    have ht : ¬ tok n s = true := fun h => by have := tok_bd h; omega
    rw [scalesF_no ht]
    clear ht
    go_enter Tryd.func31, Tryd.ntmps31
    go_wp2_with fail
    go_loopw [3, 4] (fun o x wr => x = .int .i64 2 ∧ o = .slice (some ⟨w.heap.size + 1, 0, none⟩) 0 0 ∧ OwnL wr (w.heap.size + 1) (.slice (some ⟨w.heap.size + 1, 0, none⟩) 0 0) [] ∧ Two wr w.heap.size (.int .i64 n) (.int .i64 s) 24 ∧ Below w.heap.size w wr) (fun _ x _ => 0)
    case atStart => exact ⟨rfl, rfl, hnil, ht0, hB0⟩
    case round =>
      obtain ⟨rfl, rfl, ho, t, hB⟩ := hrel
      clear hnil ht0 hB0 hsz0 c0 c1
      have c0 := t.cell0
      have c1 := t.cell1
      go_wp2
      go_ret
      exact ⟨_, rfl, OwnL.mono (b := w.heap.size + 1) ho (by omega), hB⟩
end Go.Proofs.YtcfhjkaemhhndaaDoor

set_option linter.unusedVariables false
namespace Go.Proofs.YtcfhjkaemhhndaaDoor

set_option maxRecDepth 4000
open Go.ChangeShapes Go.WideShapes Go.ChangeAt Go.RowKit Go.Joins N

theorem mod_castS (a b : Nat) : (a : Int).tmod (b : Int) = ((a % b : Nat) : Int) := by rw [Int.tmod_eq_emod_of_nonneg (by omega)]; simp

theorem spanL_take (G : List Int) (k : Nat) {f : Nat} (hf : f < G.length) : (spanL G k).take (f + 1) = (spanL G k).take f ++ [spanS G f k] := by
  have hl := spanL_length G k
  rw [List.take_add_one, List.getElem?_eq_getElem (by rw [hl]; exact hf), Option.toList_some]
  have a := spanL_getD (k := k) hf
  rw [List.getD_eq_getElem?_getD, List.getElem?_eq_getElem (by rw [hl]; exact hf)] at a
  rw [show (spanL G k)[f]'(by rw [hl]; exact hf) = spanS G f k from a]

theorem sizesF_yes {n s m : Int} {K : Nat} (h1 : 1 ≤ K) (h2 : K ≤ (gapsF n s m).length) : sizesF n s m K = kindsL (spanL (gapsF n s m) K) := by
  unfold sizesF
  rw [if_pos ⟨by omega, by omega⟩, Int.toNat_natCast]

theorem patF_take {n s m : Int} (h : scaleF n s m = true) {j : Nat} (hj : j < (gapsF n s m).length) : (patF n s m).take (j + 1) = (patF n s m).take j ++ [!decide ((gapsF n s m).getD j 0 = leastF n s m)] := by
  rw [patF_yes h, List.take_add_one, List.getElem?_map, List.getElem?_eq_getElem hj, List.getD_eq_getElem?_getD, List.getElem?_eq_getElem hj]
  rfl

set_option maxHeartbeats 4000000 in
theorem specPatternOf_any (n s m : Int) (w : World) :
    Calls Tryd.prog 6 #[(.agg #[.int .i64 (n), .int .i64 (s)]), .int .i64 m] w (StrPost (patF n s m) w) := by
  
  have h1 := Lib.hid (fun w => specScaleOk_any n s m w)
  cases hs : scaleF n s m with
  | false =>
    rw [patF_no (by simp [hs])]
    rw [hs] at h1
    go_enter Tryd.func6, Tryd.ntmps6
    go_wp2_with fail
    refine (h1.out _).mono ?_; rintro e w1 ⟨rfl, hb1⟩
    have hz1 := hb1.size
    try simp at hz1
    have t1 : Two w1 (w.heap.size) (.int .i64 n) (.int .i64 s) 24 := Two.below (by repeat (first | assumption | exact Two.new' _ _ _ _ _ (by simp) | refine Two.alloc ?_ _ | refine Two.drewN ?_ _)) hb1 (by first | omega | (simp <;> omega))
    have hlt1 : (w.heap.size) < w1.heap.size := t1.lt
    have hnt1 : ¬ (w.heap.size) = w1.heap.size := Nat.ne_of_lt hlt1
    have t1c := t1.cell0
    have t1d := t1.cell1
    go_wp2
    go_ret
    exact ⟨rfl, (by repeat (first | exact Below.refl _ _ | assumption | (refine Below.trans ?_ (Below.mono (by assumption) (by first | omega | (simp <;> omega)))) | (refine Below.alloc ?_ (by first | omega | (simp <;> omega)) _) | (refine below_drewN ?_ _) | (refine Below.drew ?_) | (refine Below.setCell ?_ (by first | omega | (simp <;> omega)) _)))⟩
  | true =>
    rw [hs] at h1
    have h2 := fun w => specGapsOf_any n s m w
    have h3 := Lib.hid (fun w => specLeastGap_any n s m w)
    have hlen := gapsF_len n s m
    have hPl : (patF n s m).length = (gapsF n s m).length := by rw [patF_yes hs, List.length_map]
    have HP : Hid (∀ j, j < (gapsF n s m).length → (patF n s m).take (j + 1) = (patF n s m).take j ++ [!decide ((gapsF n s m).getD j 0 = leastF n s m)]) := fun j hj => patF_take hs hj
    generalize patF n s m = P at *
    generalize gapsF n s m = L at *
    generalize leastF n s m = E at *
    obtain ⟨K, hK⟩ : ∃ K, L.length = K := ⟨_, rfl⟩
    rw [hK] at hlen hPl HP
    have HPK : Hid (P.take K = P) := List.take_of_length_le (by omega)
    have HZ : Hid (∀ j, j ≤ K → (txtB (P.take j)).size = j) := fun j hj => by rw [txtB_size, List.length_take, hPl]; omega
    have HK := Lib.hid hK
    clear hK hPl hs
    go_enter Tryd.func6, Tryd.ntmps6
    go_wp2_with fail
    refine (h1.out _).mono ?_; rintro e w1 ⟨rfl, hb1⟩
    have hz1 := hb1.size
    try simp at hz1
    have t1 : Two w1 (w.heap.size) (.int .i64 n) (.int .i64 s) 24 := Two.below (by repeat (first | assumption | exact Two.new' _ _ _ _ _ (by simp) | refine Two.alloc ?_ _ | refine Two.drewN ?_ _)) hb1 (by first | omega | (simp <;> omega))
    have hlt1 : (w.heap.size) < w1.heap.size := t1.lt
    have hnt1 : ¬ (w.heap.size) = w1.heap.size := Nat.ne_of_lt hlt1
    have t1c := t1.cell0
    have t1d := t1.cell1
    go_wp2_with fail
    refine (h2 _).mono ?_; rintro e w2 ⟨v1, rfl, ho1, hb2⟩
    have hz2 := hb2.size
    try simp at hz2
    have t2 : Two w2 (w.heap.size) (.int .i64 n) (.int .i64 s) 24 := Two.below (by repeat (first | assumption | exact Two.new' _ _ _ _ _ (by simp) | refine Two.alloc ?_ _ | refine Two.drewN ?_ _)) hb2 (by first | omega | (simp <;> omega))
    have hlt2 : (w.heap.size) < w2.heap.size := t2.lt
    have hnt2 : ¬ (w.heap.size) = w2.heap.size := Nat.ne_of_lt hlt2
    have t2c := t2.cell0
    have t2d := t2.cell1
    go_wp2_with fail
    refine (h3.out _).mono ?_; rintro e w3 ⟨rfl, hb3⟩
    have hz3 := hb3.size
    try simp at hz3
    have t3 : Two w3 (w.heap.size) (.int .i64 n) (.int .i64 s) 24 := Two.below (by repeat (first | assumption | exact Two.new' _ _ _ _ _ (by simp) | refine Two.alloc ?_ _ | refine Two.drewN ?_ _)) hb3 (by first | omega | (simp <;> omega))
    have hlt3 : (w.heap.size) < w3.heap.size := t3.lt
    have hnt3 : ¬ (w.heap.size) = w3.heap.size := Nat.ne_of_lt hlt3
    have t3c := t3.cell0
    have t3d := t3.cell1
    have ho2 := ho1.below hb3
    obtain ⟨a1, cap1, rfl, hcells⟩ := ho2.reads.cells HK.out
    have hB1 : Below w.heap.size w w3 := (by repeat (first | exact Below.refl _ _ | assumption | (refine Below.trans ?_ (Below.mono (by assumption) (by first | omega | (simp <;> omega)))) | (refine Below.alloc ?_ (by first | omega | (simp <;> omega)) _) | (refine below_drewN ?_ _) | (refine Below.drew ?_) | (refine Below.setCell ?_ (by first | omega | (simp <;> omega)) _)))
    clear ho1 ho2 h2 hb1 hb2 hb3 t3 t3c t3d
    go_wp2_with fail
    go_loopw [5, 8] (fun y x wr => ∃ k q : Nat, y = .string (txtB (P.take k)) ∧ x = .int .i64 k ∧ k ≤ K ∧ wr = w3.drewN q) (fun _ x _ => K - (intOf x).toNat)
    case atStart => exact ⟨0, 0, rfl, rfl, by omega, rfl⟩
    case round =>
      obtain ⟨k, q, rfl, rfl, hk, rfl⟩ := hrel
      by_cases hkn : k < K
      · have hkn' : (k : Int) < K := by omega
        obtain ⟨g, off, rfl, HC⟩ := hcells (by omega)
        have ck : (w3.drewN q).cell? ⟨g, off + k, none⟩ = some (.int .i64 (L.getD k 0)) := HC.out k hkn
        have hp := Lib.hid (HP.out k hkn)
        have hz := HZ.out k hk
        generalize L.getD k 0 = X at *
        by_cases hx : X = E
        · have hx' : (X == E) = true := by simpa using hx
          have E2 : Hid (txtB (P.take k) ++ ⟨#[48]⟩ = txtB (P.take (k + 1))) := by
            have := hp.out
            rw [decide_eq_true hx] at this
            rw [show (⟨#[48]⟩ : ByteArray) = txtB [false] from rfl, txtB_append]
            show _ = _
            rw [this]; rfl
          clear hp hx
          go_wp2_with fail
          try go_quiet (fail)
          go_wp2_with fail
          go_roundw
          case rel => first | exact ⟨k + 1, q, by rw [E2.out], by go_num, by omega, rfl⟩ | exact ⟨k + 1, q + nq, by rw [E2.out], by go_num, by omega, by simp⟩
          case measure => simp only [intOf]; omega
        · have hx' : (X == E) = false := by simpa using hx
          have E2 : Hid (txtB (P.take k) ++ ⟨#[49]⟩ = txtB (P.take (k + 1))) := by
            have := hp.out
            rw [decide_eq_false hx] at this
            rw [show (⟨#[49]⟩ : ByteArray) = txtB [true] from rfl, txtB_append]
            show _ = _
            rw [this]; rfl
          clear hp hx
          go_wp2_with fail
          try go_quiet (fail)
          go_wp2_with fail
          go_roundw
          case rel => first | exact ⟨k + 1, q, by rw [E2.out], by go_num, by omega, rfl⟩ | exact ⟨k + 1, q + nq, by rw [E2.out], by go_num, by omega, by simp⟩
          case measure => simp only [intOf]; omega
      · have hkn' : decide ((k : Int) < K) = false := decide_eq_false (by omega)
        have hkn2 : decide (k < K) = false := decide_eq_false hkn
        obtain rfl : k = K := by omega
        go_wp2
        go_ret
        refine ⟨?_, below_drewN hB1 q⟩
        rw [HPK.out]; rfl

end Go.Proofs.YtcfhjkaemhhndaaDoor
