/- Contracts of chapter 12's functions of the program. -/
import Derived.Test.YtcfhjkaemhhndaaDoorGSclS
import Derived.Test.YtcfhjkaemhhndaaDoorFarI
import Derived.Test.YtcfhjkaemhhndaaDoorGCodeI
import Derived.Test.YtcfhjkaemhhndaaDoorWher
import Derived.Test.YtcfhjkaemhhndaaDoorRev
set_option linter.unusedVariables false
namespace Go.Proofs.YtcfhjkaemhhndaaDoor

set_option maxRecDepth 4000
open Go.ChangeShapes Go.WideShapes Go.ChangeAt Go.RowKit Go.Joins N

set_option maxHeartbeats 2000000 in
theorem scaleOk_any (n s m : Int) (w : World) :
    Calls Tryd.prog 7 #[(.agg #[.int .i64 (n), .int .i64 (s)]), .int .i64 m] w fun e w' => e = .returned (.bool (scaleF n s m)) ∧ Below w.heap.size w w' := by
  have h1 := fun w => nearAbove_any n s m w
  have h2 := fun w => nearBelow_any n s m w
  unfold IntPost at h1 h2
  have hb := near_bds n s m
  unfold scaleF
  generalize nearA n s m = p at *
  generalize nearB n s m = q at *
  have hw : IntKind.i64.wrap (p + q) = p + q := IntWalk.i64_in _ (by omega)
  have tn : Two (w.alloc (.cells #[.int .i64 n, .int .i64 s] 24)) w.heap.size (.int .i64 n) (.int .i64 s) 24 := Two.new _ _ _ _
  have tnc := tn.cell0
  have tnd := tn.cell1
  by_cases hp : 0 < p
  · rw [decide_eq_true hp]
    by_cases he : p + q = m
    · have he' : ((p + q) == m) = true := by simpa using he
      rw [decide_eq_true he]
      clear he
      go_enter Tryd.func7, Tryd.ntmps7
      go_wp2_with fail
      go_region_held3 (fun w' => w'.cell? ⟨w.heap.size, 0, none⟩ = some (.int .i64 n) ∧ w'.cell? ⟨w.heap.size, 1, none⟩ = some (.int .i64 s)) (first | go_keep | exact ⟨t'c, t'd⟩ | exact ⟨((t'.set (b := _) (by omega) 0 _).set (b := _) (by omega) 1 _).cell0, ((t'.set (b := _) (by omega) 0 _).set (b := _) (by omega) 1 _).cell1⟩) (first | (go_at_call 23; refine (h1 _).mono ?_; rintro e w' ⟨rfl, hb'⟩; have t' := Two.below (b := w.heap.size) (x := .int .i64 n) (y := .int .i64 s) (T := 24) (by repeat (first | assumption | refine Two.alloc ?_ _)) hb' (by first | omega | (simp <;> omega)); have lt' := t'.lt; have t'c := t'.cell0; have t'd := t'.cell1; skip) | (go_at_call 24; refine (h2 _).mono ?_; rintro e w' ⟨rfl, hb'⟩; have t' := Two.below (b := w.heap.size) (x := .int .i64 n) (y := .int .i64 s) (T := 24) (by repeat (first | assumption | refine Two.alloc ?_ _)) hb' (by first | omega | (simp <;> omega)); have lt' := t'.lt; have t'c := t'.cell0; have t'd := t'.cell1; skip))
      go_wp2
      go_ret
      exact ⟨rfl, (by repeat (first | exact Below.refl _ _ | assumption | (refine Below.trans ?_ (Below.mono (by assumption) (by first | omega | (simp <;> omega)))) | (refine Below.alloc ?_ (by first | omega | (simp <;> omega)) _) | (refine below_drewN ?_ _) | (refine Below.drew ?_) | (refine Below.setCell ?_ (by first | omega | (simp <;> omega)) _)))⟩
    · have he' : ((p + q) == m) = false := by simpa using he
      rw [decide_eq_false he]
      clear he
      go_enter Tryd.func7, Tryd.ntmps7
      go_wp2_with fail
      go_region_held3 (fun w' => w'.cell? ⟨w.heap.size, 0, none⟩ = some (.int .i64 n) ∧ w'.cell? ⟨w.heap.size, 1, none⟩ = some (.int .i64 s)) (first | go_keep | exact ⟨t'c, t'd⟩ | exact ⟨((t'.set (b := _) (by omega) 0 _).set (b := _) (by omega) 1 _).cell0, ((t'.set (b := _) (by omega) 0 _).set (b := _) (by omega) 1 _).cell1⟩) (first | (go_at_call 23; refine (h1 _).mono ?_; rintro e w' ⟨rfl, hb'⟩; have t' := Two.below (b := w.heap.size) (x := .int .i64 n) (y := .int .i64 s) (T := 24) (by repeat (first | assumption | refine Two.alloc ?_ _)) hb' (by first | omega | (simp <;> omega)); have lt' := t'.lt; have t'c := t'.cell0; have t'd := t'.cell1; skip) | (go_at_call 24; refine (h2 _).mono ?_; rintro e w' ⟨rfl, hb'⟩; have t' := Two.below (b := w.heap.size) (x := .int .i64 n) (y := .int .i64 s) (T := 24) (by repeat (first | assumption | refine Two.alloc ?_ _)) hb' (by first | omega | (simp <;> omega)); have lt' := t'.lt; have t'c := t'.cell0; have t'd := t'.cell1; skip))
      go_wp2
      go_ret
      exact ⟨rfl, (by repeat (first | exact Below.refl _ _ | assumption | (refine Below.trans ?_ (Below.mono (by assumption) (by first | omega | (simp <;> omega)))) | (refine Below.alloc ?_ (by first | omega | (simp <;> omega)) _) | (refine below_drewN ?_ _) | (refine Below.drew ?_) | (refine Below.setCell ?_ (by first | omega | (simp <;> omega)) _)))⟩
  · have hp' : decide (0 < p) = false := decide_eq_false hp
    rw [hp']
    go_enter Tryd.func7, Tryd.ntmps7
    go_wp2_with fail
    go_region_held3 (fun w' => w'.cell? ⟨w.heap.size, 0, none⟩ = some (.int .i64 n) ∧ w'.cell? ⟨w.heap.size, 1, none⟩ = some (.int .i64 s)) (first | go_keep | exact ⟨t'c, t'd⟩ | exact ⟨((t'.set (b := _) (by omega) 0 _).set (b := _) (by omega) 1 _).cell0, ((t'.set (b := _) (by omega) 0 _).set (b := _) (by omega) 1 _).cell1⟩) (first | (go_at_call 23; refine (h1 _).mono ?_; rintro e w' ⟨rfl, hb'⟩; have t' := Two.below (b := w.heap.size) (x := .int .i64 n) (y := .int .i64 s) (T := 24) (by repeat (first | assumption | refine Two.alloc ?_ _)) hb' (by first | omega | (simp <;> omega)); have lt' := t'.lt; have t'c := t'.cell0; have t'd := t'.cell1; skip) | (go_at_call 24; refine (h2 _).mono ?_; rintro e w' ⟨rfl, hb'⟩; have t' := Two.below (b := w.heap.size) (x := .int .i64 n) (y := .int .i64 s) (T := 24) (by repeat (first | assumption | refine Two.alloc ?_ _)) hb' (by first | omega | (simp <;> omega)); have lt' := t'.lt; have t'c := t'.cell0; have t'd := t'.cell1; skip))
    go_wp2
    go_ret
    exact ⟨rfl, (by repeat (first | exact Below.refl _ _ | assumption | (refine Below.trans ?_ (Below.mono (by assumption) (by first | omega | (simp <;> omega)))) | (refine Below.alloc ?_ (by first | omega | (simp <;> omega)) _) | (refine below_drewN ?_ _) | (refine Below.drew ?_) | (refine Below.setCell ?_ (by first | omega | (simp <;> omega)) _)))⟩

theorem spanS_next {G : List Int} {f N : Nat} (hN : G.length = N) (hf : f < N) (K : Nat) : spanS G (f + 1) K = spanS G f K + (G.getD ((f + K) % N) 0 - G.getD f 0) := by
  have h1 := spanS_from G f 1 K
  have h2 := spanS_succ G f K
  have h3 : spanS G f 1 = 0 + G.getD ((f + 0) % G.length) 0 := rfl
  rw [hN] at h2 h3
  rw [Nat.add_zero, Nat.mod_eq_of_lt hf] at h3
  rw [Nat.add_comm 1 K, h2, h3] at h1
  omega

theorem pat_where {n s m : Int} (h : scaleF n s m = true) : patF n s m = whereL (leastF n s m) (gapsF n s m) := by
  have hpos : ∀ j, j < (gapsF n s m).length → 1 ≤ (gapsF n s m).getD j 0 := by
    intro j hj
    by_cases h : tok n s = true ∧ 1 ≤ m ∧ m ≤ n
    · obtain ⟨M, rfl⟩ := Int.eq_ofNat_of_zero_le (by omega : 0 ≤ m)
      have e := gapsF_yes (n := n) (s := s) (m := M) h.1 (by omega) h.2.2
      have l := gapsT_length n s M
      rw [e] at hj ⊢
      exact (gaps_pos (turns_of h.1) h.2.2 (by omega) 0).1
    · rw [gapsF_no h] at hj
      simp at hj
  rw [patF_yes h]
  unfold whereL
  apply List.map_congr_left
  intro x hx
  obtain ⟨j, hj, rfl⟩ := List.getElem_of_mem hx
  have hl := (leK_is (gapsF n s m).length (by omega) hpos).2 j hj
  have e : (gapsF n s m).getD j 0 = (gapsF n s m)[j] := by rw [List.getD_eq_getElem?_getD, List.getElem?_eq_getElem hj]; rfl
  rw [e] at hl
  have hl : leastF n s m ≤ (gapsF n s m)[j] := hl
  rw [Bool.eq_iff_iff]; simp; omega

set_option maxHeartbeats 400000 in
theorem pattern1_any (x h : Int) (c : Nat) (w : World) (hc : One w c (.int .i64 h) 3) :
    Calls Tryd.prog 19 #[.int .i64 x, .pointer (some ⟨c, 0, none⟩)] w fun e w' => e = .returned (.bool (decide (h < x))) ∧ w = w' := by
  have c0 := hc.cell
  by_cases c : h < x
  · rw [decide_eq_true c]
    go_enter Tryd.func19, Tryd.ntmps19
    go_wp2
    go_ret
    exact ⟨rfl, rfl⟩
  · have c' : ¬ h < x := c
    rw [decide_eq_false c]
    go_enter Tryd.func19, Tryd.ntmps19
    go_wp2
    go_ret
    exact ⟨rfl, rfl⟩

set_option maxHeartbeats 2000000 in
theorem lettersPat_any (b c : Nat) (v : Value) (xs : List Int) (h : Int) (w : World) (hv : OwnL w b v xs) (h0 : 1 ≤ xs.length) (hx : xs.length ≤ 60) (hc : One w c (.int .i64 h) 3) :
    Calls Tryd.prog 18 #[v, .func (.func 19) #[] #[.pointer (some ⟨c, 0, none⟩)]] w (StrPost (whereL h xs) w) := by
  obtain ⟨n, hn⟩ : ∃ n, xs.length = n := ⟨_, rfl⟩
  obtain ⟨g, cap, cur, rfl, hbg, hr0, hs0, hnc, hm, hc0⟩ := hv.rowI hn (by omega)
  have HX : Hid (∀ j, j < n → cur[j]? = some (.int .i64 (xs.getD j 0))) := hc0
  have HW : Hid (∀ i, i < n → (whereL h xs).getD i false = decide (h < xs.getD i 0)) := fun i hi => whereL_getD h xs i (by omega)
  have HWL : Hid ((whereL h xs).length = n) := by show _ = _; simp [whereL, hn]
  have hn1 : n ≤ 60 := by omega
  have hn2 : 1 ≤ n := by omega
  have hlc := hc.lt
  have hlg := hr0.lt
  obtain ⟨i0, hi, iz0, iz1, iz2⟩ := info_parts infoByte
  have Hi := Lib.hid hi
  clear hv hc0 hn hi
  go_enter Tryd.func18, Tryd.ntmps18
  go_wp2_with (at_make; refine wpList_make_full _ rfl _ _ 22 rfl w.heap.size 5 i0 (.int .u8 0) 1 Tryd.underlying22 Hi.out iz0 iz1 .i64 .i64 _ _ n rfl rfl rfl rfl (by rw [iz2]; omega) (by unfold maxLen; omega) (by omega) ?_)
  intro w2 hown hgrow
  have hB2 : Below w.heap.size w w2 := ⟨hgrow.os, hgrow.tape, hgrow.output, hgrow.size, fun k hk => hgrow.block k hk (by simp)⟩
  obtain ⟨curb, hrb, hsb, _⟩ := RowB.of_own hown
  have c2 := hc.below hB2 hlc
  have r2 := hr0.below hB2 hlg
  clear hown hgrow hc hr0
  go_wp2_with fail
  go_loopw [13] (fun x wr => ∃ (k : Nat) (cb : Array Value), x = .int .i64 k ∧ k ≤ n ∧ RowB wr w.heap.size cb ∧ cb.size = n ∧ Hid (∀ i, i < k → cb[i]? = some (.int .u8 (bI ((whereL h xs).getD i false)))) ∧ RowAt wr g cur ∧ One wr c (.int .i64 h) 3 ∧ Below w.heap.size w wr) (fun x _ => n - (intOf x).toNat)
  case atStart => exact ⟨0, curb, rfl, by omega, hrb, hsb, fun i hi => by omega, r2, c2, hB2⟩
  case round =>
    obtain ⟨k, cb, rfl, hk, hr, hs, hd, ra, co, hB⟩ := hrel
    clear hrb hsb r2 c2 hB2
    have hlr := hr.lt
    by_cases hkn : k < n
    · have hkn' : (k : Int) < n := by omega
      have ca := ra.cell k
      rw [HX.out k hkn] at ca
      have hwk := HW.out k hkn
      generalize xs.getD k 0 = X at *
      obtain ⟨z4, e4⟩ : ∃ z, cb[k]? = some z := ⟨_, Array.getElem?_eq_getElem (by omega)⟩
      have c4 := hr.cell k
      rw [e4] at c4
      have f4 := hr.free k
      have r5 := hr.set k (.int .u8 48)
      have a5 := ra.away (G := w.heap.size) (by omega) k (.int .u8 48)
      have o5 := co.away (G := w.heap.size) (by omega) k (.int .u8 48)
      have hB5 := hB.setCell (p := ⟨w.heap.size, k, none⟩) (Nat.le_refl _) (.int .u8 48)
      have c6 := r5.cell k
      have f6 := r5.free k
      rw [Array.getElem?_setIfInBounds, if_pos rfl, if_pos (by omega)] at c6
      have HS := Lib.hid hs
      have hcall := pattern1_any X h c _ o5
      clear hr ra co hB e4 hs
      by_cases cx : h < X
      · rw [decide_eq_true cx] at hwk hcall
        have r7 := r5.set k (.int .u8 49)
        have a7 := a5.away (G := w.heap.size) (by omega) k (.int .u8 49)
        have o7 := o5.away (G := w.heap.size) (by omega) k (.int .u8 49)
        have hB7 := hB5.setCell (p := ⟨w.heap.size, k, none⟩) (Nat.le_refl _) (.int .u8 49)
        have hwk' := Lib.hid hwk
        clear cx hwk
        go_wp2_with fail
        refine hcall.mono ?_; rintro e w3 ⟨rfl, rfl⟩
        go_wp2_with fail
        go_roundw
        case rel =>
          refine ⟨k + 1, _, by go_num, by omega, r7, by simp [HS.out], fun i hi => ?_, a7, o7, hB7⟩
          by_cases hik : i = k
          · subst hik
            rw [Array.getElem?_setIfInBounds, if_pos rfl, if_pos (by simp [HS.out]; omega), hwk'.out]; rfl
          · rw [Array.getElem?_setIfInBounds, if_neg (by omega), Array.getElem?_setIfInBounds, if_neg (by omega)]
            exact hd.out i (by omega)
        case measure => simp only [intOf]; omega
      · rw [decide_eq_false cx] at hwk hcall
        have hwk' := Lib.hid hwk
        clear cx hwk
        go_wp2_with fail
        refine hcall.mono ?_; rintro e w3 ⟨rfl, rfl⟩
        go_wp2_with fail
        go_roundw
        case rel =>
          refine ⟨k + 1, _, by go_num, by omega, r5, by simp [HS.out], fun i hi => ?_, a5, o5, hB5⟩
          by_cases hik : i = k
          · subst hik
            rw [Array.getElem?_setIfInBounds, if_pos rfl, if_pos (by rw [HS.out]; omega), hwk'.out]; rfl
          · rw [Array.getElem?_setIfInBounds, if_neg (by omega)]
            exact hd.out i (by omega)
        case measure => simp only [intOf]; omega
    · obtain rfl : k = n := by omega
      have hkm' : decide ((k : Int) < k) = false := by simp
      have hconv := conv_bits wr w.heap.size k (whereL h xs) cb HWL.out hr (fun i hi => hd.out i hi)
      clear hr ra co hs hd
      go_wp2
      go_ret
      exact ⟨rfl, hB⟩


set_option maxHeartbeats 4000000 in
theorem patternOf_any (n s m : Int) (w : World) :
    Calls Tryd.prog 5 #[(.agg #[.int .i64 (n), .int .i64 (s)]), .int .i64 m] w (StrPost (patF n s m) w) := by
  
  have h1 := Lib.hid (fun w => scaleOk_any n s m w)
  cases hs : scaleF n s m with
  | false =>
    rw [patF_no (by simp [hs])]
    rw [hs] at h1
    go_enter Tryd.func5, Tryd.ntmps5
    go_wp2_with fail
    refine (h1.out _).mono ?_; rintro e w1 ⟨rfl, hb1⟩
    have hz1 := hb1.size
    try simp at hz1
    have t1 : Two w1 (w.heap.size) (.int .i64 n) (.int .i64 s) 24 := Two.below (by repeat (first | assumption | exact Two.new' _ _ _ _ _ (by simp) | refine Two.alloc ?_ _ | refine Two.drewN ?_ _)) hb1 (by first | omega | (simp <;> omega))
    have hlt1 : (w.heap.size) < w1.heap.size := t1.lt
    have hnt1 : ¬ (w.heap.size) = w1.heap.size := Nat.ne_of_lt hlt1
    have t1c := t1.cell0
    have t1d := t1.cell1
    go_wp2
    go_ret
    exact ⟨rfl, (by repeat (first | exact Below.refl _ _ | assumption | (refine Below.trans ?_ (Below.mono (by assumption) (by first | omega | (simp <;> omega)))) | (refine Below.alloc ?_ (by first | omega | (simp <;> omega)) _) | (refine below_drewN ?_ _) | (refine Below.drew ?_) | (refine Below.setCell ?_ (by first | omega | (simp <;> omega)) _)))⟩
  | true =>
    rw [hs] at h1
    rw [pat_where hs]
    have h2 := fun w => gapsOf_any n s m w
    have hlen := gapsF_len n s m
    have hpl := patF_len hs
    have hpos : ∀ j, j < (gapsF n s m).length → 1 ≤ (gapsF n s m).getD j 0 := by
      intro j hj
      by_cases h : tok n s = true ∧ 1 ≤ m ∧ m ≤ n
      · obtain ⟨M, rfl⟩ := Int.eq_ofNat_of_zero_le (by omega : 0 ≤ m)
        have e := gapsF_yes (n := n) (s := s) (m := M) h.1 (by omega) h.2.2
        have l := gapsT_length n s M
        rw [e] at hj ⊢
        exact (gaps_pos (turns_of h.1) h.2.2 (by omega) 0).1
      · rw [gapsF_no h] at hj
        simp at hj
    have h0 : 1 ≤ (gapsF n s m).length := by
      obtain ⟨_, _, _, h, _⟩ := scaleF_iff.1 hs
      have e : (patF n s m).length = (gapsF n s m).length := by rw [patF_yes hs, List.length_map]
      omega
    have HE : Hid (leK (gapsF n s m) (gapsF n s m).length = leastF n s m) := rfl
    clear hpl hs
    generalize leastF n s m = E at *
    generalize gapsF n s m = L at *
    obtain ⟨K, hK⟩ : ∃ K, L.length = K := ⟨_, rfl⟩
    rw [hK] at hpos h0 HE
    have HK := Lib.hid hK
    rw [hK] at hlen
    clear hK
    go_enter Tryd.func5, Tryd.ntmps5
    go_wp2_with fail
    refine (h1.out _).mono ?_; rintro e w1 ⟨rfl, hb1⟩
    have hz1 := hb1.size
    try simp at hz1
    have t1 : Two w1 (w.heap.size) (.int .i64 n) (.int .i64 s) 24 := Two.below (by repeat (first | assumption | exact Two.new' _ _ _ _ _ (by simp) | refine Two.alloc ?_ _ | refine Two.drewN ?_ _)) hb1 (by first | omega | (simp <;> omega))
    have hlt1 : (w.heap.size) < w1.heap.size := t1.lt
    have hnt1 : ¬ (w.heap.size) = w1.heap.size := Nat.ne_of_lt hlt1
    have t1c := t1.cell0
    have t1d := t1.cell1
    go_wp2_with fail
    refine (h2 _).mono ?_; rintro e w2 ⟨v1, rfl, ho1, hb2⟩
    have hz2 := hb2.size
    try simp at hz2
    have t2 : Two w2 (w.heap.size) (.int .i64 n) (.int .i64 s) 24 := Two.below (by repeat (first | assumption | exact Two.new' _ _ _ _ _ (by simp) | refine Two.alloc ?_ _ | refine Two.drewN ?_ _)) hb2 (by first | omega | (simp <;> omega))
    have hlt2 : (w.heap.size) < w2.heap.size := t2.lt
    have hnt2 : ¬ (w.heap.size) = w2.heap.size := Nat.ne_of_lt hlt2
    have t2c := t2.cell0
    have t2d := t2.cell1
    obtain ⟨a1, cap1, rfl, hcells⟩ := ho1.reads.cells HK.out
    have hB2 : Below w.heap.size w w2 := (by repeat (first | exact Below.refl _ _ | assumption | (refine Below.trans ?_ (Below.mono (by assumption) (by first | omega | (simp <;> omega)))) | (refine Below.alloc ?_ (by first | omega | (simp <;> omega)) _) | (refine below_drewN ?_ _) | (refine Below.drew ?_) | (refine Below.setCell ?_ (by first | omega | (simp <;> omega)) _)))
    obtain ⟨g, off, rfl, HC⟩ := hcells (by omega)
    have hcall := Lib.hid (minG_any g off K cap1 L w2 h0 (by omega) hpos HC)
    rw [HE.out] at hcall
    obtain ⟨W3, hW3⟩ : ∃ W3, w2.alloc (.cells #[.int .i64 E] 3) = W3 := ⟨_, rfl⟩
    have o3 : One W3 w2.heap.size (.int .i64 E) 3 := by rw [← hW3]; exact One.new _ _ _
    have hb3 : Below w2.heap.size w2 W3 := by rw [← hW3]; exact (Below.refl _ _).alloc (Nat.le_refl _) _
    have hB3 := hB2.trans (hb3.mono hB2.size)
    have ho3 := ho1.below hb3
    have hl := Lib.hid (lettersPat_any w1.heap.size w2.heap.size (.slice (some ⟨g, off, none⟩) K cap1) L E W3 ho3 (by rw [HK.out]; exact h0) (by rw [HK.out]; exact hlen) o3)
    clear hcells HC hpos ho1 ho3 hb3 h2 h1 hb1 hb2 t1 t1c t1d t2 t2c t2d
    go_wp2_with fail
    refine hcall.out.mono ?_; rintro e w4 ⟨rfl, rfl⟩
    go_wp2_with fail
    refine hl.out.mono ?_; rintro e w5 ⟨rfl, hb5⟩
    have hB5 := hB3.trans (hb5.mono hB3.size)
    go_wp2
    go_ret
    exact ⟨rfl, hB5⟩

end Go.Proofs.YtcfhjkaemhhndaaDoor
