/- Contracts of chapter 12's functions of the program. -/
import Derived.Test.YtcfhjkaemhhndaaGSclS
import Derived.Test.YtcfhjkaemhhndaaFarI
import Derived.Test.YtcfhjkaemhhndaaGCodeI
import Derived.Test.YtcfhjkaemhhndaaWher
import Derived.Test.YtcfhjkaemhhndaaRev
set_option linter.unusedVariables false
namespace Go.Proofs.Ytcfhjkaemhhndaa

set_option maxRecDepth 4000
open Go.ChangeShapes Go.WideShapes Go.ChangeAt Go.RowKit Go.Joins N

set_option maxHeartbeats 2000000 in
theorem scaleOk_any (n s m : Int) (w : World) :
    Calls Try.prog 12 #[(.agg #[.int .i64 (n), .int .i64 (s)]), .int .i64 m] w fun e w' => e = .returned (.bool (scaleF n s m)) ∧ Below w.heap.size w w' := by
  have h1 := fun w => nearAbove_any n s m w
  have h2 := fun w => nearBelow_any n s m w
  unfold IntPost at h1 h2
  have hb := near_bds n s m
  unfold scaleF
  generalize nearA n s m = p at *
  generalize nearB n s m = q at *
  have hw : IntKind.i64.wrap (p + q) = p + q := IntWalk.i64_in _ (by omega)
  have tn : Two (w.alloc (.cells #[.int .i64 n, .int .i64 s] 24)) w.heap.size (.int .i64 n) (.int .i64 s) 24 := Two.new _ _ _ _
  have tnc := tn.cell0
  have tnd := tn.cell1
  by_cases hp : 0 < p
  · rw [decide_eq_true hp]
    by_cases he : p + q = m
    · have he' : ((p + q) == m) = true := by simpa using he
      rw [decide_eq_true he]
      clear he
      go_enter Try.func12, Try.ntmps12
      go_wp2_with fail
      go_region_held3 (fun w' => w'.cell? ⟨w.heap.size, 0, none⟩ = some (.int .i64 n) ∧ w'.cell? ⟨w.heap.size, 1, none⟩ = some (.int .i64 s)) (first | go_keep | exact ⟨t'c, t'd⟩ | exact ⟨((t'.set (b := _) (by omega) 0 _).set (b := _) (by omega) 1 _).cell0, ((t'.set (b := _) (by omega) 0 _).set (b := _) (by omega) 1 _).cell1⟩) (first | (go_at_call 19; refine (h1 _).mono ?_; rintro e w' ⟨rfl, hb'⟩; have t' := Two.below (b := w.heap.size) (x := .int .i64 n) (y := .int .i64 s) (T := 24) (by repeat (first | assumption | refine Two.alloc ?_ _)) hb' (by first | omega | (simp <;> omega)); have lt' := t'.lt; have t'c := t'.cell0; have t'd := t'.cell1; skip) | (go_at_call 18; refine (h2 _).mono ?_; rintro e w' ⟨rfl, hb'⟩; have t' := Two.below (b := w.heap.size) (x := .int .i64 n) (y := .int .i64 s) (T := 24) (by repeat (first | assumption | refine Two.alloc ?_ _)) hb' (by first | omega | (simp <;> omega)); have lt' := t'.lt; have t'c := t'.cell0; have t'd := t'.cell1; skip))
      go_wp2
      go_ret
      exact ⟨rfl, (by repeat (first | exact Below.refl _ _ | assumption | (refine Below.trans ?_ (Below.mono (by assumption) (by first | omega | (simp <;> omega)))) | (refine Below.alloc ?_ (by first | omega | (simp <;> omega)) _) | (refine below_drewN ?_ _) | (refine Below.drew ?_) | (refine Below.setCell ?_ (by first | omega | (simp <;> omega)) _)))⟩
    · have he' : ((p + q) == m) = false := by simpa using he
      rw [decide_eq_false he]
      clear he
      go_enter Try.func12, Try.ntmps12
      go_wp2_with fail
      go_region_held3 (fun w' => w'.cell? ⟨w.heap.size, 0, none⟩ = some (.int .i64 n) ∧ w'.cell? ⟨w.heap.size, 1, none⟩ = some (.int .i64 s)) (first | go_keep | exact ⟨t'c, t'd⟩ | exact ⟨((t'.set (b := _) (by omega) 0 _).set (b := _) (by omega) 1 _).cell0, ((t'.set (b := _) (by omega) 0 _).set (b := _) (by omega) 1 _).cell1⟩) (first | (go_at_call 19; refine (h1 _).mono ?_; rintro e w' ⟨rfl, hb'⟩; have t' := Two.below (b := w.heap.size) (x := .int .i64 n) (y := .int .i64 s) (T := 24) (by repeat (first | assumption | refine Two.alloc ?_ _)) hb' (by first | omega | (simp <;> omega)); have lt' := t'.lt; have t'c := t'.cell0; have t'd := t'.cell1; skip) | (go_at_call 18; refine (h2 _).mono ?_; rintro e w' ⟨rfl, hb'⟩; have t' := Two.below (b := w.heap.size) (x := .int .i64 n) (y := .int .i64 s) (T := 24) (by repeat (first | assumption | refine Two.alloc ?_ _)) hb' (by first | omega | (simp <;> omega)); have lt' := t'.lt; have t'c := t'.cell0; have t'd := t'.cell1; skip))
      go_wp2
      go_ret
      exact ⟨rfl, (by repeat (first | exact Below.refl _ _ | assumption | (refine Below.trans ?_ (Below.mono (by assumption) (by first | omega | (simp <;> omega)))) | (refine Below.alloc ?_ (by first | omega | (simp <;> omega)) _) | (refine below_drewN ?_ _) | (refine Below.drew ?_) | (refine Below.setCell ?_ (by first | omega | (simp <;> omega)) _)))⟩
  · have hp' : decide (0 < p) = false := decide_eq_false hp
    rw [hp']
    go_enter Try.func12, Try.ntmps12
    go_wp2_with fail
    go_region_held3 (fun w' => w'.cell? ⟨w.heap.size, 0, none⟩ = some (.int .i64 n) ∧ w'.cell? ⟨w.heap.size, 1, none⟩ = some (.int .i64 s)) (first | go_keep | exact ⟨t'c, t'd⟩ | exact ⟨((t'.set (b := _) (by omega) 0 _).set (b := _) (by omega) 1 _).cell0, ((t'.set (b := _) (by omega) 0 _).set (b := _) (by omega) 1 _).cell1⟩) (first | (go_at_call 19; refine (h1 _).mono ?_; rintro e w' ⟨rfl, hb'⟩; have t' := Two.below (b := w.heap.size) (x := .int .i64 n) (y := .int .i64 s) (T := 24) (by repeat (first | assumption | refine Two.alloc ?_ _)) hb' (by first | omega | (simp <;> omega)); have lt' := t'.lt; have t'c := t'.cell0; have t'd := t'.cell1; skip) | (go_at_call 18; refine (h2 _).mono ?_; rintro e w' ⟨rfl, hb'⟩; have t' := Two.below (b := w.heap.size) (x := .int .i64 n) (y := .int .i64 s) (T := 24) (by repeat (first | assumption | refine Two.alloc ?_ _)) hb' (by first | omega | (simp <;> omega)); have lt' := t'.lt; have t'c := t'.cell0; have t'd := t'.cell1; skip))
    go_wp2
    go_ret
    exact ⟨rfl, (by repeat (first | exact Below.refl _ _ | assumption | (refine Below.trans ?_ (Below.mono (by assumption) (by first | omega | (simp <;> omega)))) | (refine Below.alloc ?_ (by first | omega | (simp <;> omega)) _) | (refine below_drewN ?_ _) | (refine Below.drew ?_) | (refine Below.setCell ?_ (by first | omega | (simp <;> omega)) _)))⟩

set_option maxHeartbeats 4000000 in
theorem scaleSizes_any (n s : Int) (w : World) :
    Calls Try.prog 21 #[(.agg #[.int .i64 (n), .int .i64 (s)])] w (ListPost (scalesF n s) w) := by
  
  by_cases ht : tok n s = true
  · have hb := tok_bd ht
    obtain ⟨N, S, rfl, rfl, hN⟩ := tokN_of ht
    
    have HF : Hid (scalesF N S = scUp N S (N + 1)) := rfl
    have H2 : Hid (scUp (N : Int) S 2 = []) := scUp_two _ _
    have HY : Hid (∀ k : Nat, scaleF (N : Int) S k = true → scUp (N : Int) S (k + 1) = scUp N S k ++ [(k : Int)]) := fun k h => scUp_yes h
    have HNo : Hid (∀ k : Nat, scaleF (N : Int) S k = false → scUp (N : Int) S (k + 1) = scUp N S k) := fun k h => scUp_no (by simp [h])
    have HLn : Hid (∀ k, (scUp (N : Int) S k).length ≤ k) := fun k => (scUp_facts _ _ k).2.2
    have HT := Lib.hid (turnOk_any (N : Int) (S : Int))
    rw [ht] at HT
    clear hN
    rw [HF.out]
    go_enter Try.func21, Try.ntmps21
    go_wp2_with fail
    refine (HT.out _).mono ?_; rintro e w1 ⟨rfl, hb1⟩
    have hz1 := hb1.size
    try simp at hz1
    have t1 : Two w1 (w.heap.size) (.int .i64 N) (.int .i64 S) 24 := Two.below (by repeat (first | assumption | exact Two.new' _ _ _ _ _ (by simp) | refine Two.alloc ?_ _ | refine Two.drewN ?_ _)) hb1 (by first | omega | (simp <;> omega))
    have hlt1 : (w.heap.size) < w1.heap.size := t1.lt
    have hnt1 : ¬ (w.heap.size) = w1.heap.size := Nat.ne_of_lt hlt1
    have t1c := t1.cell0
    have t1d := t1.cell1
    have hB1 : Below w.heap.size w w1 := (by repeat (first | exact Below.refl _ _ | assumption | (refine Below.trans ?_ (Below.mono (by assumption) (by first | omega | (simp <;> omega)))) | (refine Below.alloc ?_ (by first | omega | (simp <;> omega)) _) | (refine below_drewN ?_ _) | (refine Below.drew ?_) | (refine Below.setCell ?_ (by first | omega | (simp <;> omega)) _)))
    clear hb1 t1c t1d
    go_wp2_with fail
    go_loopw [3, 4] (fun o x wr => ∃ (k : Nat) (v0 : Value), x = .int .i64 k ∧ v0 = o ∧ 2 ≤ k ∧ k ≤ N + 1 ∧ OwnL wr (w.heap.size + 1) v0 (scUp N S k) ∧ Two wr w.heap.size (.int .i64 N) (.int .i64 S) 24 ∧ w.heap.size < wr.heap.size ∧ Below w.heap.size w wr) (fun _ x _ => N + 1 - (intOf x).toNat)
    case atStart => exact ⟨2, _, rfl, rfl, by omega, by omega, by rw [H2.out]; exact World.ownsRow_nil _ _ _ _, t1, t1.lt, hB1⟩
    case round =>
      obtain ⟨k, v0, rfl, rfl, hk2, hk, ho, t, hz, hB⟩ := hrel
      clear t1 hB1
      have c0 := t.cell0
      have c1 := t.cell1
      have lt := t.lt
      by_cases hkm : k ≤ N
      · have hkm' : (k : Int) ≤ N := by omega
        go_wp2_with fail
        refine (scaleOk_any _ _ _ _).mono ?_; rintro e w2 ⟨rfl, hb2⟩
        have t2 := t.below hb2 lt
        have ho2 := ho.below hb2
        have hz2 := hb2.size
        have hB2 := hB.trans (hb2.mono hB.size)
        clear hb2 t ho hB c0 c1 lt
        have hy := Lib.hid (HY.out k)
        have hno := Lib.hid (HNo.out k)
        have hln := HLn.out k
        obtain ⟨L, hL⟩ : ∃ L, (scUp (N : Int) S k).length = L := ⟨_, rfl⟩
        rw [hL] at hln
        have HL := Lib.hid hL
        clear hL
        cases hsc : scaleF (N : Int) S k with
        | true =>
          have hs1 := Lib.hid (hy.out hsc)
          clear hsc hy hno
          go_wp2_with (at_builtin; refine append_int rfl _ _ rfl (w.heap.size + 1) v0 (scUp (N : Int) S k) L HL (by omega) rfl ho2 (by omega) rfl ?_)
          intro v5 w5 ho5 hn5 hb5
          rw [← hs1.out] at ho5
          have t5 := t2.below hb5 (by omega)
          have hB5 := hB2.trans (hb5.mono (by omega))
          have hz5 := hb5.size
          clear ho2 hB2 hb5 t2
          go_wp2_with fail
          go_roundw
          case rel => exact ⟨k + 1, v5, by go_num, rfl, by omega, by omega, ho5, t5, by omega, hB5⟩
          case measure => simp only [intOf]; omega
        | false =>
          have hs1 := Lib.hid (hno.out hsc)
          clear hsc hy hno
          rw [← hs1.out] at ho2
          go_wp2_with fail
          go_roundw
          case rel => exact ⟨k + 1, v0, by go_num, rfl, by omega, by omega, ho2, t2, by omega, hB2⟩
          case measure => simp only [intOf]; omega
      · have hkm' : decide ((k : Int) ≤ N) = false := decide_eq_false (by omega)
        obtain rfl : k = N + 1 := by omega
        have ho' : OwnL wr w.heap.size v0 (scUp N S (N + 1)) := OwnL.mono (b := w.heap.size + 1) ho (by omega)
        clear ho
        go_wp2
        go_ret
        exact ⟨_, rfl, ho', hB⟩
  · have ht' : tok n s = false := by simpa using ht
    
    have HT := Lib.hid (turnOk_any n s)
    rw [ht'] at HT
    rw [scalesF_no ht]
    clear ht
    go_enter Try.func21, Try.ntmps21
    go_wp2_with fail
    refine (HT.out _).mono ?_; rintro e w1 ⟨rfl, hb1⟩
    have hz1 := hb1.size
    try simp at hz1
    have t1 : Two w1 (w.heap.size) (.int .i64 n) (.int .i64 s) 24 := Two.below (by repeat (first | assumption | exact Two.new' _ _ _ _ _ (by simp) | refine Two.alloc ?_ _ | refine Two.drewN ?_ _)) hb1 (by first | omega | (simp <;> omega))
    have hlt1 : (w.heap.size) < w1.heap.size := t1.lt
    have hnt1 : ¬ (w.heap.size) = w1.heap.size := Nat.ne_of_lt hlt1
    have t1c := t1.cell0
    have t1d := t1.cell1
    have hB1 : Below w.heap.size w w1 := (by repeat (first | exact Below.refl _ _ | assumption | (refine Below.trans ?_ (Below.mono (by assumption) (by first | omega | (simp <;> omega)))) | (refine Below.alloc ?_ (by first | omega | (simp <;> omega)) _) | (refine below_drewN ?_ _) | (refine Below.drew ?_) | (refine Below.setCell ?_ (by first | omega | (simp <;> omega)) _)))
    go_wp2
    go_ret
    exact ⟨_, rfl, World.ownsRow_nil _ _ _ _, hB1⟩

theorem spanS_next {G : List Int} {f N : Nat} (hN : G.length = N) (hf : f < N) (K : Nat) : spanS G (f + 1) K = spanS G f K + (G.getD ((f + K) % N) 0 - G.getD f 0) := by
  have h1 := spanS_from G f 1 K
  have h2 := spanS_succ G f K
  have h3 : spanS G f 1 = 0 + G.getD ((f + 0) % G.length) 0 := rfl
  rw [hN] at h2 h3
  rw [Nat.add_zero, Nat.mod_eq_of_lt hf] at h3
  rw [Nat.add_comm 1 K, h2, h3] at h1
  omega

theorem sizes1_any (G : List Int) (N k : Nat) (w : World) (a g off cap : Nat) (hk : k < N)
    (ha : One w a (.slice (some ⟨g, off, none⟩) N cap) 29) (hc : w.cell? ⟨g, off + k, none⟩ = some (.int .i64 (G.getD k 0))) :
    Calls Try.prog 54 #[.int .i64 k, .pointer (some ⟨a, 0, none⟩)] w fun e w' => e = .returned (.int .i64 (G.getD k 0)) ∧ Below w.heap.size w w' := by
  have c0 := ha.cell
  have hk' : (k : Int) < N := by omega
  generalize G.getD k 0 = X at *
  go_enter Try.func54, Try.ntmps54
  go_wp2
  go_ret
  exact ⟨rfl, (by repeat (first | exact Below.refl _ _ | assumption | (refine Below.trans ?_ (Below.mono (by assumption) (by first | omega | (simp <;> omega)))) | (refine Below.alloc ?_ (by first | omega | (simp <;> omega)) _) | (refine below_drewN ?_ _) | (refine Below.drew ?_) | (refine Below.setCell ?_ (by first | omega | (simp <;> omega)) _)))⟩

set_option maxHeartbeats 1000000 in
theorem sumSizes_any (G : List Int) (N K : Nat) (w : World) (a g off cap : Nat) (hK : K ≤ N) (hN : G.length = N) (h60 : N ≤ 60) (hd : ∀ i, i < N → 1 ≤ G.getD i 0 ∧ G.getD i 0 ≤ 60)
    (ha : One w a (.slice (some ⟨g, off, none⟩) N cap) 29) (hc : ∀ i, i < N → w.cell? ⟨g, off + i, none⟩ = some (.int .i64 (G.getD i 0))) :
    Calls Try.prog 53 #[.int .i64 K, .func (.func 54) #[] #[.pointer (some ⟨a, 0, none⟩)]] w fun e w' => e = .returned (.int .i64 (spanS G 0 K)) ∧ Below w.heap.size w w' := by
  have HV := Lib.hid (fun (k : Nat) (wr : World) (hk : k < N) (hB : Below w.heap.size w wr) => sizes1_any G N k wr a g off cap hk (ha.below hB ha.lt) ((hB.cell (p := ⟨g, off + k, none⟩) (World.block_lt_of_cell? w _ (hc k hk))).trans (hc k hk)))
  have HD := Lib.hid hd
  have HS : Hid (∀ k, k < N → spanS G 0 (k + 1) = spanS G 0 k + G.getD k 0) := fun k hk => by
    rw [spanS_succ, Nat.zero_add, hN, Nat.mod_eq_of_lt hk]
  have HSb : Hid (∀ k, k ≤ 60 → 0 < N → (0 : Int) ≤ spanS G 0 k ∧ spanS G 0 k ≤ 3600) := fun k hk h0 => by
    have := spanS_bd (B := 60) (G := G) (fun i hi => hd i (by omega)) (by omega) 0 k
    omega
  have H0 : Hid (spanS G 0 0 = 0) := rfl
  have hB0 := Below.refl w.heap.size w
  clear ha hc hd hN
  go_enter Try.func53, Try.ntmps53
  go_wp2_with fail
  go_loopw [5, 8] (fun x y wr => ∃ k : Nat, x = .int .i64 (spanS G 0 k) ∧ y = .int .i64 k ∧ k ≤ K ∧ Below w.heap.size w wr) (fun _ y _ => K - (intOf y).toNat)
  case atStart => exact ⟨0, by rw [H0.out], rfl, by omega, hB0⟩
  case round =>
    obtain ⟨k, rfl, rfl, hk, hB⟩ := hrel
    by_cases hkm : k < K
    · have hkm' : (k : Int) < K := by omega
      have hcall := HV.out k wr (by omega) hB
      have hs := Lib.hid (HS.out k (by omega))
      have hl := HSb.out k (by omega) (by omega)
      have hdk := HD.out k (by omega)
      generalize G.getD k 0 = X at *
      generalize spanS G 0 k = Y at *
      have hw3 : IntKind.i64.wrap (Y + X) = Y + X := IntWalk.i64_in _ (by omega)
      go_wp2_with fail
      refine hcall.mono ?_; rintro e w2 ⟨rfl, hb2⟩
      have hB2 := hB.trans (hb2.mono hB.size)
      clear hb2 hcall hB
      go_wp2_with fail
      go_roundw
      case rel => exact ⟨k + 1, by rw [hs.out], by go_num, by omega, hB2⟩
      case measure => simp only [intOf]; omega
    · have hkm' : decide ((k : Int) < K) = false := by simp; omega
      obtain rfl : k = K := by omega
      go_wp2
      go_ret
      exact ⟨rfl, hB⟩

theorem pat_where {n s m : Int} (h : scaleF n s m = true) : patF n s m = whereL (leastF n s m) (gapsF n s m) := by
  have hpos : ∀ j, j < (gapsF n s m).length → 1 ≤ (gapsF n s m).getD j 0 := by
    intro j hj
    by_cases h : tok n s = true ∧ 1 ≤ m ∧ m ≤ n
    · obtain ⟨M, rfl⟩ := Int.eq_ofNat_of_zero_le (by omega : 0 ≤ m)
      have e := gapsF_yes (n := n) (s := s) (m := M) h.1 (by omega) h.2.2
      have l := gapsT_length n s M
      rw [e] at hj ⊢
      exact (gaps_pos (turns_of h.1) h.2.2 (by omega) 0).1
    · rw [gapsF_no h] at hj
      simp at hj
  rw [patF_yes h]
  unfold whereL
  apply List.map_congr_left
  intro x hx
  obtain ⟨j, hj, rfl⟩ := List.getElem_of_mem hx
  have hl := (leK_is (gapsF n s m).length (by omega) hpos).2 j hj
  have e : (gapsF n s m).getD j 0 = (gapsF n s m)[j] := by rw [List.getD_eq_getElem?_getD, List.getElem?_eq_getElem hj]; rfl
  rw [e] at hl
  have hl : leastF n s m ≤ (gapsF n s m)[j] := hl
  rw [Bool.eq_iff_iff]; simp; omega

set_option maxHeartbeats 400000 in
theorem pattern1_any (x h : Int) (c : Nat) (w : World) (hc : One w c (.int .i64 h) 3) :
    Calls Try.prog 61 #[.int .i64 x, .pointer (some ⟨c, 0, none⟩)] w fun e w' => e = .returned (.bool (decide (h < x))) ∧ w = w' := by
  have c0 := hc.cell
  by_cases c : h < x
  · rw [decide_eq_true c]
    go_enter Try.func61, Try.ntmps61
    go_wp2
    go_ret
    exact ⟨rfl, rfl⟩
  · have c' : ¬ h < x := c
    rw [decide_eq_false c]
    go_enter Try.func61, Try.ntmps61
    go_wp2
    go_ret
    exact ⟨rfl, rfl⟩

set_option maxHeartbeats 2000000 in
theorem lettersPat_any (b c : Nat) (v : Value) (xs : List Int) (h : Int) (w : World) (hv : OwnL w b v xs) (h0 : 1 ≤ xs.length) (hx : xs.length ≤ 60) (hc : One w c (.int .i64 h) 3) :
    Calls Try.prog 60 #[v, .func (.func 61) #[] #[.pointer (some ⟨c, 0, none⟩)]] w (StrPost (whereL h xs) w) := by
  obtain ⟨n, hn⟩ : ∃ n, xs.length = n := ⟨_, rfl⟩
  obtain ⟨g, cap, cur, rfl, hbg, hr0, hs0, hnc, hm, hc0⟩ := hv.rowI hn (by omega)
  have HX : Hid (∀ j, j < n → cur[j]? = some (.int .i64 (xs.getD j 0))) := hc0
  have HW : Hid (∀ i, i < n → (whereL h xs).getD i false = decide (h < xs.getD i 0)) := fun i hi => whereL_getD h xs i (by omega)
  have HWL : Hid ((whereL h xs).length = n) := by show _ = _; simp [whereL, hn]
  have hn1 : n ≤ 60 := by omega
  have hn2 : 1 ≤ n := by omega
  have hlc := hc.lt
  have hlg := hr0.lt
  obtain ⟨i0, hi, iz0, iz1, iz2⟩ := info_parts infoByte
  have Hi := Lib.hid hi
  clear hv hc0 hn hi
  go_enter Try.func60, Try.ntmps60
  go_wp2_with (at_make; refine wpList_make_full _ rfl _ _ 22 rfl w.heap.size 5 i0 (.int .u8 0) 1 Try.underlying22 Hi.out iz0 iz1 .i64 .i64 _ _ n rfl rfl rfl rfl (by rw [iz2]; omega) (by unfold maxLen; omega) (by omega) ?_)
  intro w2 hown hgrow
  have hB2 : Below w.heap.size w w2 := ⟨hgrow.os, hgrow.tape, hgrow.output, hgrow.size, fun k hk => hgrow.block k hk (by simp)⟩
  obtain ⟨curb, hrb, hsb, _⟩ := RowB.of_own hown
  have c2 := hc.below hB2 hlc
  have r2 := hr0.below hB2 hlg
  clear hown hgrow hc hr0
  go_wp2_with fail
  go_loopw [13] (fun x wr => ∃ (k : Nat) (cb : Array Value), x = .int .i64 k ∧ k ≤ n ∧ RowB wr w.heap.size cb ∧ cb.size = n ∧ Hid (∀ i, i < k → cb[i]? = some (.int .u8 (bI ((whereL h xs).getD i false)))) ∧ RowAt wr g cur ∧ One wr c (.int .i64 h) 3 ∧ Below w.heap.size w wr) (fun x _ => n - (intOf x).toNat)
  case atStart => exact ⟨0, curb, rfl, by omega, hrb, hsb, fun i hi => by omega, r2, c2, hB2⟩
  case round =>
    obtain ⟨k, cb, rfl, hk, hr, hs, hd, ra, co, hB⟩ := hrel
    clear hrb hsb r2 c2 hB2
    have hlr := hr.lt
    by_cases hkn : k < n
    · have hkn' : (k : Int) < n := by omega
      have ca := ra.cell k
      rw [HX.out k hkn] at ca
      have hwk := HW.out k hkn
      generalize xs.getD k 0 = X at *
      obtain ⟨z4, e4⟩ : ∃ z, cb[k]? = some z := ⟨_, Array.getElem?_eq_getElem (by omega)⟩
      have c4 := hr.cell k
      rw [e4] at c4
      have f4 := hr.free k
      have r5 := hr.set k (.int .u8 48)
      have a5 := ra.away (G := w.heap.size) (by omega) k (.int .u8 48)
      have o5 := co.away (G := w.heap.size) (by omega) k (.int .u8 48)
      have hB5 := hB.setCell (p := ⟨w.heap.size, k, none⟩) (Nat.le_refl _) (.int .u8 48)
      have c6 := r5.cell k
      have f6 := r5.free k
      rw [Array.getElem?_setIfInBounds, if_pos rfl, if_pos (by omega)] at c6
      have HS := Lib.hid hs
      have hcall := pattern1_any X h c _ o5
      clear hr ra co hB e4 hs
      by_cases cx : h < X
      · rw [decide_eq_true cx] at hwk hcall
        have r7 := r5.set k (.int .u8 49)
        have a7 := a5.away (G := w.heap.size) (by omega) k (.int .u8 49)
        have o7 := o5.away (G := w.heap.size) (by omega) k (.int .u8 49)
        have hB7 := hB5.setCell (p := ⟨w.heap.size, k, none⟩) (Nat.le_refl _) (.int .u8 49)
        have hwk' := Lib.hid hwk
        clear cx hwk
        go_wp2_with fail
        refine hcall.mono ?_; rintro e w3 ⟨rfl, rfl⟩
        go_wp2_with fail
        go_roundw
        case rel =>
          refine ⟨k + 1, _, by go_num, by omega, r7, by simp [HS.out], fun i hi => ?_, a7, o7, hB7⟩
          by_cases hik : i = k
          · subst hik
            rw [Array.getElem?_setIfInBounds, if_pos rfl, if_pos (by simp [HS.out]; omega), hwk'.out]; rfl
          · rw [Array.getElem?_setIfInBounds, if_neg (by omega), Array.getElem?_setIfInBounds, if_neg (by omega)]
            exact hd.out i (by omega)
        case measure => simp only [intOf]; omega
      · rw [decide_eq_false cx] at hwk hcall
        have hwk' := Lib.hid hwk
        clear cx hwk
        go_wp2_with fail
        refine hcall.mono ?_; rintro e w3 ⟨rfl, rfl⟩
        go_wp2_with fail
        go_roundw
        case rel =>
          refine ⟨k + 1, _, by go_num, by omega, r5, by simp [HS.out], fun i hi => ?_, a5, o5, hB5⟩
          by_cases hik : i = k
          · subst hik
            rw [Array.getElem?_setIfInBounds, if_pos rfl, if_pos (by rw [HS.out]; omega), hwk'.out]; rfl
          · rw [Array.getElem?_setIfInBounds, if_neg (by omega)]
            exact hd.out i (by omega)
        case measure => simp only [intOf]; omega
    · obtain rfl : k = n := by omega
      have hkm' : decide ((k : Int) < k) = false := by simp
      have hconv := conv_bits wr w.heap.size k (whereL h xs) cb HWL.out hr (fun i hi => hd.out i hi)
      clear hr ra co hs hd
      go_wp2
      go_ret
      exact ⟨rfl, hB⟩


set_option maxHeartbeats 4000000 in
theorem patternOf_any (n s m : Int) (w : World) :
    Calls Try.prog 36 #[(.agg #[.int .i64 (n), .int .i64 (s)]), .int .i64 m] w (StrPost (patF n s m) w) := by
  
  have h1 := Lib.hid (fun w => scaleOk_any n s m w)
  cases hs : scaleF n s m with
  | false =>
    rw [patF_no (by simp [hs])]
    rw [hs] at h1
    go_enter Try.func36, Try.ntmps36
    go_wp2_with fail
    refine (h1.out _).mono ?_; rintro e w1 ⟨rfl, hb1⟩
    have hz1 := hb1.size
    try simp at hz1
    have t1 : Two w1 (w.heap.size) (.int .i64 n) (.int .i64 s) 24 := Two.below (by repeat (first | assumption | exact Two.new' _ _ _ _ _ (by simp) | refine Two.alloc ?_ _ | refine Two.drewN ?_ _)) hb1 (by first | omega | (simp <;> omega))
    have hlt1 : (w.heap.size) < w1.heap.size := t1.lt
    have hnt1 : ¬ (w.heap.size) = w1.heap.size := Nat.ne_of_lt hlt1
    have t1c := t1.cell0
    have t1d := t1.cell1
    go_wp2
    go_ret
    exact ⟨rfl, (by repeat (first | exact Below.refl _ _ | assumption | (refine Below.trans ?_ (Below.mono (by assumption) (by first | omega | (simp <;> omega)))) | (refine Below.alloc ?_ (by first | omega | (simp <;> omega)) _) | (refine below_drewN ?_ _) | (refine Below.drew ?_) | (refine Below.setCell ?_ (by first | omega | (simp <;> omega)) _)))⟩
  | true =>
    rw [hs] at h1
    rw [pat_where hs]
    have h2 := fun w => gapsOf_any n s m w
    have hlen := gapsF_len n s m
    have hpl := patF_len hs
    have hpos : ∀ j, j < (gapsF n s m).length → 1 ≤ (gapsF n s m).getD j 0 := by
      intro j hj
      by_cases h : tok n s = true ∧ 1 ≤ m ∧ m ≤ n
      · obtain ⟨M, rfl⟩ := Int.eq_ofNat_of_zero_le (by omega : 0 ≤ m)
        have e := gapsF_yes (n := n) (s := s) (m := M) h.1 (by omega) h.2.2
        have l := gapsT_length n s M
        rw [e] at hj ⊢
        exact (gaps_pos (turns_of h.1) h.2.2 (by omega) 0).1
      · rw [gapsF_no h] at hj
        simp at hj
    have h0 : 1 ≤ (gapsF n s m).length := by
      obtain ⟨_, _, _, h, _⟩ := scaleF_iff.1 hs
      have e : (patF n s m).length = (gapsF n s m).length := by rw [patF_yes hs, List.length_map]
      omega
    have HE : Hid (leK (gapsF n s m) (gapsF n s m).length = leastF n s m) := rfl
    clear hpl hs
    generalize leastF n s m = E at *
    generalize gapsF n s m = L at *
    obtain ⟨K, hK⟩ : ∃ K, L.length = K := ⟨_, rfl⟩
    rw [hK] at hpos h0 HE
    have HK := Lib.hid hK
    rw [hK] at hlen
    clear hK
    go_enter Try.func36, Try.ntmps36
    go_wp2_with fail
    refine (h1.out _).mono ?_; rintro e w1 ⟨rfl, hb1⟩
    have hz1 := hb1.size
    try simp at hz1
    have t1 : Two w1 (w.heap.size) (.int .i64 n) (.int .i64 s) 24 := Two.below (by repeat (first | assumption | exact Two.new' _ _ _ _ _ (by simp) | refine Two.alloc ?_ _ | refine Two.drewN ?_ _)) hb1 (by first | omega | (simp <;> omega))
    have hlt1 : (w.heap.size) < w1.heap.size := t1.lt
    have hnt1 : ¬ (w.heap.size) = w1.heap.size := Nat.ne_of_lt hlt1
    have t1c := t1.cell0
    have t1d := t1.cell1
    go_wp2_with fail
    refine (h2 _).mono ?_; rintro e w2 ⟨v1, rfl, ho1, hb2⟩
    have hz2 := hb2.size
    try simp at hz2
    have t2 : Two w2 (w.heap.size) (.int .i64 n) (.int .i64 s) 24 := Two.below (by repeat (first | assumption | exact Two.new' _ _ _ _ _ (by simp) | refine Two.alloc ?_ _ | refine Two.drewN ?_ _)) hb2 (by first | omega | (simp <;> omega))
    have hlt2 : (w.heap.size) < w2.heap.size := t2.lt
    have hnt2 : ¬ (w.heap.size) = w2.heap.size := Nat.ne_of_lt hlt2
    have t2c := t2.cell0
    have t2d := t2.cell1
    obtain ⟨a1, cap1, rfl, hcells⟩ := ho1.reads.cells HK.out
    have hB2 : Below w.heap.size w w2 := (by repeat (first | exact Below.refl _ _ | assumption | (refine Below.trans ?_ (Below.mono (by assumption) (by first | omega | (simp <;> omega)))) | (refine Below.alloc ?_ (by first | omega | (simp <;> omega)) _) | (refine below_drewN ?_ _) | (refine Below.drew ?_) | (refine Below.setCell ?_ (by first | omega | (simp <;> omega)) _)))
    obtain ⟨g, off, rfl, HC⟩ := hcells (by omega)
    have hcall := Lib.hid (minG_any g off K cap1 L w2 h0 (by omega) hpos HC)
    rw [HE.out] at hcall
    obtain ⟨W3, hW3⟩ : ∃ W3, w2.alloc (.cells #[.int .i64 E] 3) = W3 := ⟨_, rfl⟩
    have o3 : One W3 w2.heap.size (.int .i64 E) 3 := by rw [← hW3]; exact One.new _ _ _
    have hb3 : Below w2.heap.size w2 W3 := by rw [← hW3]; exact (Below.refl _ _).alloc (Nat.le_refl _) _
    have hB3 := hB2.trans (hb3.mono hB2.size)
    have ho3 := ho1.below hb3
    have hl := Lib.hid (lettersPat_any w1.heap.size w2.heap.size (.slice (some ⟨g, off, none⟩) K cap1) L E W3 ho3 (by rw [HK.out]; exact h0) (by rw [HK.out]; exact hlen) o3)
    clear hcells HC hpos ho1 ho3 hb3 h2 h1 hb1 hb2 t1 t1c t1d t2 t2c t2d
    go_wp2_with fail
    refine hcall.out.mono ?_; rintro e w4 ⟨rfl, rfl⟩
    go_wp2_with fail
    refine hl.out.mono ?_; rintro e w5 ⟨rfl, hb5⟩
    have hB5 := hB3.trans (hb5.mono hB3.size)
    go_wp2
    go_ret
    exact ⟨rfl, hB5⟩

set_option maxHeartbeats 4000000 in
theorem sizesOf_any (n s m k : Int) (w : World) :
    Calls Try.prog 28 #[(.agg #[.int .i64 (n), .int .i64 (s)]), .int .i64 m, .int .i64 k] w (ListPost (sizesF n s m k) w) := by
  
  have h1 := fun w => gapsOf_any n s m w
  have hlen := gapsF_len n s m
  by_cases hc : 1 ≤ k ∧ k ≤ (gapsF n s m).length
  · obtain ⟨k1, k2⟩ := hc
    have hm : tok n s = true ∧ 1 ≤ m ∧ m ≤ n := by
      by_cases c : tok n s = true ∧ 1 ≤ m ∧ m ≤ n
      · exact c
      · rw [gapsF_no c] at k2; simp at k2; omega
    obtain ⟨ht, m1, m2⟩ := hm
    obtain ⟨N, rfl⟩ := Int.eq_ofNat_of_zero_le (by omega : 0 ≤ m)
    have hN : (gapsF n s N).length = N := by rw [gapsF_yes ht (by omega) m2]; exact gapsT_length n s N
    have hbd : ∀ i, i < N → 1 ≤ (gapsF n s N).getD i 0 ∧ (gapsF n s N).getD i 0 ≤ 60 := fun i hi => by
      rw [gapsF_yes ht (by omega) m2]
      have := gaps_pos (turns_of ht) m2 hi 0
      have := tok_bd ht
      omega
    clear ht m2
    obtain ⟨K, rfl⟩ := Int.eq_ofNat_of_zero_le (by omega : 0 ≤ k)
    rw [sizesF_yes (by omega) (by omega)]
    generalize gapsF n s N = G at h1 hlen hbd k2 hN ⊢
    rw [hN] at hlen k2
    have HNG := Lib.hid hN
    have HSL : Hid ((spanL G K).length = N) := by show _ = _; rw [spanL_length, hN]
    have HTk : Hid (∀ f, f < N → kindsL ((spanL G K).take (f + 1)) = (if spanS G f K ∈ kindsL ((spanL G K).take f) then kindsL ((spanL G K).take f) else ins (spanS G f K) (kindsL ((spanL G K).take f)))) := fun f hf => by
      rw [spanL_take G K (by rw [hN]; exact hf)]
      exact kindsL_snoc _ _
    have HTN : Hid ((spanL G K).take N = spanL G K) := List.take_of_length_le (by rw [spanL_length, hN]; exact Nat.le_refl _)
    have HSb : Hid (∀ f, (0 : Int) ≤ spanS G f K ∧ spanS G f K ≤ 3600) := fun f => by
      have := spanS_bd (B := 60) (G := G) (fun i hi => hbd i (by omega)) (by omega) f K
      omega
    have HSn : Hid (∀ f, f < N → spanS G (f + 1) K = spanS G f K + (G.getD ((f + K) % N) 0 - G.getD f 0)) := fun f hf => spanS_next hN hf K
    have hN0 : 0 < N := by omega
    have HGb := Lib.hid hbd
    clear hbd hN
    go_enter Try.func28, Try.ntmps28
    go_wp2_with fail
    refine (h1 _).mono ?_; rintro e w1 ⟨v1, rfl, ho1, hb1⟩
    have hz1 := hb1.size
    try simp at hz1
    have t1 : Two w1 (w.heap.size) (.int .i64 n) (.int .i64 s) 24 := Two.below (by repeat (first | assumption | exact Two.new' _ _ _ _ _ (by simp) | refine Two.alloc ?_ _ | refine Two.drewN ?_ _)) hb1 (by first | omega | (simp <;> omega))
    have hlt1 : (w.heap.size) < w1.heap.size := t1.lt
    have hnt1 : ¬ (w.heap.size) = w1.heap.size := Nat.ne_of_lt hlt1
    have t1c := t1.cell0
    have t1d := t1.cell1
    obtain ⟨a1, cap1, rfl, hcells⟩ := ho1.reads.cells HNG.out
    have hB1 : Below w.heap.size w w1 := (by repeat (first | exact Below.refl _ _ | assumption | (refine Below.trans ?_ (Below.mono (by assumption) (by first | omega | (simp <;> omega)))) | (refine Below.alloc ?_ (by first | omega | (simp <;> omega)) _) | (refine below_drewN ?_ _) | (refine Below.drew ?_) | (refine Below.setCell ?_ (by first | omega | (simp <;> omega)) _)))
    obtain ⟨g, off, rfl, HC⟩ := hcells (by omega)
    obtain ⟨W2, hW2⟩ : ∃ W2, w1.alloc (.cells #[.slice (some ⟨g, off, none⟩) N cap1] 29) = W2 := ⟨_, rfl⟩
    have o2 : One W2 w1.heap.size (.slice (some ⟨g, off, none⟩) N cap1) 29 := by rw [← hW2]; exact One.new _ _ _
    have hb2 : Below w1.heap.size w1 W2 := by rw [← hW2]; exact (Below.refl _ _).alloc (Nat.le_refl _) _
    have hB2 := hB1.trans (hb2.mono hB1.size)
    have HC2 : Hid (∀ j, j < N → W2.cell? ⟨g, off + j, none⟩ = some (.int .i64 (G.getD j 0))) := fun j hj => (hb2.cell (p := ⟨g, off + j, none⟩) (World.block_lt_of_cell? w1 _ (HC.out j hj))).trans (HC.out j hj)
    have hcall := Lib.hid (sumSizes_any G N K W2 w1.heap.size g off cap1 (by omega) HNG.out (by omega) HGb.out o2 HC2.out)
    have c2 := o2.cell
    clear ho1 h1 hb1 hcells HC t1 t1c t1d hb2
    have hk1 : ¬ (K : Int) < 1 := by omega
    have hk2 : ¬ (N : Int) < K := by omega
    go_wp2_with fail
    refine hcall.out.mono ?_; rintro e w3 ⟨rfl, hb3⟩
    have o3 := o2.below hb3 o2.lt
    have HC3 : Hid (∀ j, j < N → w3.cell? ⟨g, off + j, none⟩ = some (.int .i64 (G.getD j 0))) := fun j hj => (hb3.cell (p := ⟨g, off + j, none⟩) (World.block_lt_of_cell? W2 _ (HC2.out j hj))).trans (HC2.out j hj)
    have hB3 := hB2.trans (hb3.mono hB2.size)
    have c3 := o3.cell
    clear hcall hb3 o2 HC2 c2 hB2
    go_wp2_with fail
    go_loopw [8, 9, 28] (fun y z x wr => ∃ (f : Nat) (v0 : Value), x = .int .i64 f ∧ z = .int .i64 (spanS G f K) ∧ v0 = y ∧ f ≤ N ∧ OwnL wr w3.heap.size v0 (kindsL ((spanL G K).take f)) ∧ Below w3.heap.size w3 wr) (fun _ _ x _ => N - (intOf x).toNat)
    case atStart => exact ⟨0, _, rfl, rfl, rfl, by omega, World.ownsRow_nil _ _ _ _, Below.refl _ _⟩
    case round =>
      obtain ⟨f, v0, rfl, rfl, rfl, hf, ho, hB⟩ := hrel
      have o4 := o3.below hB o3.lt
      have c4 := o4.cell
      by_cases hfn : f < N
      · have hfn' : (f : Int) < N := by omega
        have cf := (hB.cell (p := ⟨g, off + f, none⟩) (World.block_lt_of_cell? w3 _ (HC3.out f hfn))).trans (HC3.out f hfn)
        have hS := HTk.out f hfn
        have hwk := ((kindsL_is ((spanL G K).take f)).1).imp (fun {a b} (h : a < b) => Int.le_of_lt h)
        have hlen2 := Nat.le_trans (kindsL_le ((spanL G K).take f)) (by rw [List.length_take]; omega : ((spanL G K).take f).length ≤ 60)
        have hP : (f + K) % N < N := Nat.mod_lt _ (by omega)
        have ck := HC3.out _ hP
        have hlg := World.block_lt_of_cell? w3 _ ck
        have hg0 := HGb.out f hfn
        have hg1 := HGb.out _ hP
        have hn := Lib.hid (HSn.out f hfn)
        have hsb := HSb.out f
        have hsb2 := HSb.out (f + 1)
        rw [hn.out] at hsb2
        have wfj : IntKind.i64.wrap ((f : Int) + (K : Int)) = ((f + K : Nat) : Int) := by rw [← Int.natCast_add]; exact IntWalk.i64_in _ (by omega)
        have d1 := mod_castS (f + K) N
        have d1' : ((f + K : Nat) : Int) % (N : Int) = (((f + K) % N : Nat) : Int) := by simp
        have hNz : ¬ (N : Int) = 0 := by omega
        have hNz' : ((N : Int) == 0) = false := by simp; omega
        obtain ⟨T, hT⟩ : ∃ T, spanS G (f + 1) K = T := ⟨_, rfl⟩
        rw [hT] at hn
        generalize spanS G f K = F at *
        generalize (f + K) % N = Pk at *
        generalize f + K = fj at *
        generalize G.getD f 0 = X at *
        generalize G.getD Pk 0 = Y at *
        have hP' : (Pk : Int) < N := by omega
        have hw1 : IntKind.i64.wrap (Y - X) = Y - X := IntWalk.i64_in _ (by omega)
        have hw3 : IntKind.i64.wrap (F + (Y - X)) = F + (Y - X) := IntWalk.i64_in _ (by omega)
        clear c3
        go_wp2_with fail
        refine (insertOnce_any v0 F _ w3.heap.size _ ho hB.size hwk (by omega)).mono ?_; rintro e w5 ⟨v5, rfl, ho5, hb5⟩
        rw [← hS] at ho5
        have hB5 := hB.trans hb5
        have o5 := o3.below hB5 o3.lt
        have c5 := o5.cell
        have ck5 := (hB5.cell (p := ⟨g, off + Pk, none⟩) hlg).trans ck
        clear ck cf ho hb5 hwk hS hlen2 hB o4 c4 o5
        go_wp2_with fail
        try go_quiet (fail)
        go_wp2_with fail
        go_roundw
        case rel => first | exact ⟨f + 1, v5, by go_num, by rw [hT, hn.out], rfl, by omega, ho5, hB5⟩ | exact ⟨f + 1, v5, by go_num, by rw [hT, hn.out], rfl, by omega, ho5, below_drewN hB5 nq⟩
        case measure => simp only [intOf]; omega
      · obtain rfl : f = N := by omega
        have hfn' : decide ((f : Int) < f) = false := by simp
        have ho' : OwnL wr w.heap.size v0 (kindsL (spanL G K)) := by
          have h := OwnL.mono (b' := w.heap.size) ho (by have := hB3.size; omega)
          rwa [HTN.out] at h
        have hB' : Below w.heap.size w wr := hB3.trans (hB.mono hB3.size)
        clear ho hB
        go_wp2
        go_ret
        exact ⟨_, rfl, ho', hB'⟩
  · rw [sizes_no hc]
    generalize gapsF n s m = G at h1 hlen hc ⊢
    obtain ⟨N, hN⟩ : ∃ N, G.length = N := ⟨_, rfl⟩
    have HNG := Lib.hid hN
    rw [hN] at hlen hc
    clear hN
    go_enter Try.func28, Try.ntmps28
    go_wp2_with fail
    refine (h1 _).mono ?_; rintro e w1 ⟨v1, rfl, ho1, hb1⟩
    have hz1 := hb1.size
    try simp at hz1
    have t1 : Two w1 (w.heap.size) (.int .i64 n) (.int .i64 s) 24 := Two.below (by repeat (first | assumption | exact Two.new' _ _ _ _ _ (by simp) | refine Two.alloc ?_ _ | refine Two.drewN ?_ _)) hb1 (by first | omega | (simp <;> omega))
    have hlt1 : (w.heap.size) < w1.heap.size := t1.lt
    have hnt1 : ¬ (w.heap.size) = w1.heap.size := Nat.ne_of_lt hlt1
    have t1c := t1.cell0
    have t1d := t1.cell1
    obtain ⟨a1, cap1, rfl, hcells⟩ := ho1.reads.cells HNG.out
    have hB1 : Below w.heap.size w w1 := (by repeat (first | exact Below.refl _ _ | assumption | (refine Below.trans ?_ (Below.mono (by assumption) (by first | omega | (simp <;> omega)))) | (refine Below.alloc ?_ (by first | omega | (simp <;> omega)) _) | (refine below_drewN ?_ _) | (refine Below.drew ?_) | (refine Below.setCell ?_ (by first | omega | (simp <;> omega)) _)))
    obtain ⟨W2, hW2⟩ : ∃ W2, w1.alloc (.cells #[.slice a1 N cap1] 29) = W2 := ⟨_, rfl⟩
    have o2 : One W2 w1.heap.size (.slice a1 N cap1) 29 := by rw [← hW2]; exact One.new _ _ _
    have hb2 : Below w1.heap.size w1 W2 := by rw [← hW2]; exact (Below.refl _ _).alloc (Nat.le_refl _) _
    have hB2 := hB1.trans (hb2.mono hB1.size)
    have c2 := o2.cell
    clear ho1 h1 hb1 hcells t1 t1c t1d hb2
    by_cases hk1 : k < 1
    · go_wp2
      go_ret
      exact ⟨_, rfl, World.ownsRow_nil _ _ _ _, hB2⟩
    · have hk2 : (N : Int) < k := by omega
      go_wp2
      go_ret
      exact ⟨_, rfl, World.ownsRow_nil _ _ _ _, hB2⟩
end Go.Proofs.Ytcfhjkaemhhndaa
