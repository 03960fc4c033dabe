/- Contracts of chapter 7's functions of the program. -/
import Derived.Test.YtkhnnbgmckeoaaaRetS
import Derived.Test.YtkhnnbgmckeoaaaRetI
set_option linter.unusedVariables false
namespace Go.Proofs.Ytkhnnbgmckeoaaa

set_option maxRecDepth 4000
open Go.ChangeShapes Go.WideShapes Go.ChangeAt Go.RowKit Go.Joins N

set_option maxHeartbeats 2000000 in
theorem returnOf_any (n s u p : Int) (w : World) :
    Calls Try.prog 21 #[(.agg #[.int .i64 (n), .int .i64 (s)]), .int .i64 u, .int .i64 p] w fun e w' => e = .returned (.int .i64 (retF n s u p)) ∧ Below w.heap.size w w' := by
  by_cases h : tok n s = true ∧ 0 ≤ u ∧ u ≤ n
  · have E1 := upF_yes h.1 h.2.1 h.2.2
    by_cases hp : p < 0
    · rw [retF_no (fun h => by omega)]
      obtain ⟨W, hW, ta, tb, hB⟩ := two_boxes n s u w
      have ca0 := ta.cell0
      have ca1 := ta.cell1
      have cb0 := tb.cell
      go_enter Try.func21, Try.ntmps21
      go_wp2_with fail
      rw [← hW]
      clear hW
      refine (upToSize_any n s u _).mono ?_; rintro e w1 ⟨rfl, hb1⟩
      rw [E1]
      have hB1 := hB.trans (hb1.mono hB.size)
      have ta1 := ta.below hb1 ta.lt
      have tb1 := tb.below hb1 tb.lt
      have da0 := ta1.cell0
      have da1 := ta1.cell1
      have db0 := tb1.cell
      clear hb1 hB ta tb ca0 ca1 cb0
      go_wp2
      go_ret
      exact ⟨rfl, hB1⟩
    · by_cases hp2 : u ≤ p
      · rw [retF_no (fun h => by omega)]
        obtain ⟨W, hW, ta, tb, hB⟩ := two_boxes n s u w
        have ca0 := ta.cell0
        have ca1 := ta.cell1
        have cb0 := tb.cell
        go_enter Try.func21, Try.ntmps21
        go_wp2_with fail
        rw [← hW]
        clear hW
        refine (upToSize_any n s u _).mono ?_; rintro e w1 ⟨rfl, hb1⟩
        rw [E1]
        have hB1 := hB.trans (hb1.mono hB.size)
        have ta1 := ta.below hb1 ta.lt
        have tb1 := tb.below hb1 tb.lt
        have da0 := ta1.cell0
        have da1 := ta1.cell1
        have db0 := tb1.cell
        clear hb1 hB ta tb ca0 ca1 cb0
        go_wp2
        go_ret
        exact ⟨rfl, hB1⟩
      · obtain ⟨ht, u0, u1⟩ := h
        have hb := tok_bd ht
        obtain ⟨K, hK, hF, _⟩ := ret_first ht (by omega) u1 (by omega : 0 ≤ p) (by omega)
        have HU := Lib.hid (fun (w : World) b hb' => untilRet_any n s u p K w b (by omega) (by omega) (by omega) (by omega) (by omega) (by omega) hF hb')
        have E := Lib.hid hK
        clear ht hF hK
        obtain ⟨W, hW, ta, tb, hB⟩ := two_boxes n s u w
        have ca0 := ta.cell0
        have ca1 := ta.cell1
        have cb0 := tb.cell
        go_enter Try.func21, Try.ntmps21
        go_wp2_with fail
        rw [← hW]
        clear hW
        refine (upToSize_any n s u _).mono ?_; rintro e w1 ⟨rfl, hb1⟩
        rw [E1]
        have hB1 := hB.trans (hb1.mono hB.size)
        have ta1 := ta.below hb1 ta.lt
        have tb1 := tb.below hb1 tb.lt
        have da0 := ta1.cell0
        have da1 := ta1.cell1
        have db0 := tb1.cell
        clear hb1 hB ta tb ca0 ca1 cb0
        go_wp2_with fail
        refine (HU.out _ _ tb1).mono ?_; rintro e w2 ⟨rfl, hb2⟩
        have hB2 := hB1.trans (hb2.mono hB1.size)
        go_wp2
        go_ret
        exact ⟨ret_int E.out.symm, hB2⟩
  · have E1 := upF_no h
    rw [retF_no (fun h' => h ⟨h'.1, by omega, h'.2.2.1⟩)]
    obtain ⟨W, hW, ta, tb, hB⟩ := two_boxes n s u w
    have ca0 := ta.cell0
    have ca1 := ta.cell1
    have cb0 := tb.cell
    go_enter Try.func21, Try.ntmps21
    go_wp2_with fail
    rw [← hW]
    clear hW
    refine (upToSize_any n s u _).mono ?_; rintro e w1 ⟨rfl, hb1⟩
    rw [E1]
    have hB1 := hB.trans (hb1.mono hB.size)
    have ta1 := ta.below hb1 ta.lt
    have tb1 := tb.below hb1 tb.lt
    have da0 := ta1.cell0
    have da1 := ta1.cell1
    have db0 := tb1.cell
    clear hb1 hB ta tb ca0 ca1 cb0
    go_wp2
    go_ret
    exact ⟨rfl, hB1⟩

set_option maxHeartbeats 1000000 in
theorem landsAt_any (n s u p : Int) (w : World) :
    Calls Try.prog 25 #[(.agg #[.int .i64 (n), .int .i64 (s)]), .int .i64 u, .int .i64 p] w fun e w' => e = .returned (.int .i64 (landF n s u p)) ∧ Below w.heap.size w w' := by
  
  rcases land_cases n s u p with ⟨h1, h2, h3, _⟩ | ⟨h1, h2, h3, ht, u1, u2, p0, p1⟩
  · rw [h3]
    go_enter Try.func25, Try.ntmps25
    go_wp2_with fail
    refine (returnOf_any _ _ _ _ _).mono ?_; rintro e w1 ⟨rfl, hb1⟩
    have hz1 := hb1.size
    try simp at hz1
    have t1 : Two w1 (w.heap.size) (.int .i64 n) (.int .i64 s) 24 := Two.below (by repeat (first | assumption | exact Two.new' _ _ _ _ _ (by simp) | refine Two.alloc ?_ _ | refine Two.drewN ?_ _)) hb1 (by first | omega | (simp <;> omega))
    have hlt1 : (w.heap.size) < w1.heap.size := t1.lt
    have hnt1 : ¬ (w.heap.size) = w1.heap.size := Nat.ne_of_lt hlt1
    have t1c := t1.cell0
    have t1d := t1.cell1
    rw [h2]
    go_wp2
    go_ret
    exact ⟨rfl, (by repeat (first | exact Below.refl _ _ | assumption | (refine Below.trans ?_ (Below.mono (by assumption) (by first | omega | (simp <;> omega)))) | (refine Below.alloc ?_ (by first | omega | (simp <;> omega)) _) | (refine below_drewN ?_ _) | (refine Below.drew ?_) | (refine Below.setCell ?_ (by first | omega | (simp <;> omega)) _)))⟩
  · have hb := tok_bd ht
    rw [h3]
    generalize hr : retF n s u p = r at *
    have hr' := Lib.hid hr
    have hr0 : ¬ r < 0 := by omega
    clear hr h3 ht
    go_enter Try.func25, Try.ntmps25
    go_wp2_with fail
    refine (returnOf_any _ _ _ _ _).mono ?_; rintro e w1 ⟨rfl, hb1⟩
    have hz1 := hb1.size
    try simp at hz1
    have t1 : Two w1 (w.heap.size) (.int .i64 n) (.int .i64 s) 24 := Two.below (by repeat (first | assumption | exact Two.new' _ _ _ _ _ (by simp) | refine Two.alloc ?_ _ | refine Two.drewN ?_ _)) hb1 (by first | omega | (simp <;> omega))
    have hlt1 : (w.heap.size) < w1.heap.size := t1.lt
    have hnt1 : ¬ (w.heap.size) = w1.heap.size := Nat.ne_of_lt hlt1
    have t1c := t1.cell0
    have t1d := t1.cell1
    rw [hr'.out]
    go_wp2_with fail
    refine (pointAfter_any _ _ _ _ _ (by omega) (by omega) (by omega) (by omega) (by omega) (by omega) (by omega) (by omega)).mono ?_; rintro e w2 ⟨rfl, hb2⟩
    have hz2 := hb2.size
    try simp at hz2
    have t2 : Two w2 (w.heap.size) (.int .i64 n) (.int .i64 s) 24 := Two.below (by repeat (first | assumption | exact Two.new' _ _ _ _ _ (by simp) | refine Two.alloc ?_ _ | refine Two.drewN ?_ _)) hb2 (by first | omega | (simp <;> omega))
    have hlt2 : (w.heap.size) < w2.heap.size := t2.lt
    have hnt2 : ¬ (w.heap.size) = w2.heap.size := Nat.ne_of_lt hlt2
    have t2c := t2.cell0
    have t2d := t2.cell1
    go_wp2
    go_ret
    exact ⟨rfl, (by repeat (first | exact Below.refl _ _ | assumption | (refine Below.trans ?_ (Below.mono (by assumption) (by first | omega | (simp <;> omega)))) | (refine Below.alloc ?_ (by first | omega | (simp <;> omega)) _) | (refine below_drewN ?_ _) | (refine Below.drew ?_) | (refine Below.setCell ?_ (by first | omega | (simp <;> omega)) _)))⟩

set_option maxHeartbeats 2000000 in
theorem arcUp_any (n s u : Int) (w : World) :
    Calls Try.prog 38 #[(.agg #[.int .i64 (n), .int .i64 (s)]), .int .i64 u] w fun e w' => e = .returned (.int .i64 (aupF n s u)) ∧ Below w.heap.size w w' := by
  by_cases h : tok n s = true ∧ 0 ≤ u ∧ u ≤ n
  · have E1 := upF_yes h.1 h.2.1 h.2.2
    by_cases h2 : u < 2
    · rw [aupF_no (fun h => by omega)]
      obtain ⟨W, hW, ta, tb, hB⟩ := two_boxes n s u w
      have ca0 := ta.cell0
      have ca1 := ta.cell1
      have cb0 := tb.cell
      go_enter Try.func38, Try.ntmps38
      go_wp2_with fail
      rw [← hW]
      clear hW
      refine (upToSize_any n s u _).mono ?_; rintro e w1 ⟨rfl, hb1⟩
      rw [E1]
      have hB1 := hB.trans (hb1.mono hB.size)
      have ta1 := ta.below hb1 ta.lt
      have tb1 := tb.below hb1 tb.lt
      have da0 := ta1.cell0
      have da1 := ta1.cell1
      have db0 := tb1.cell
      clear hb1 hB ta tb ca0 ca1 cb0
      go_wp2
      go_ret
      exact ⟨rfl, hB1⟩
    · obtain ⟨ht, u0, u1⟩ := h
      have hb := tok_bd ht
      obtain ⟨K, hK, hF⟩ := up_first ht (by omega) u1
      have HU := Lib.hid (fun (w : World) b hb' => untilUp_any n s u 0 K w b (by omega) (by omega) (by omega) (by omega) (by omega) (by omega) hF hb')
      have E := Lib.hid hK
      clear ht hF hK
      obtain ⟨W, hW, ta, tb, hB⟩ := two_boxes n s u w
      have ca0 := ta.cell0
      have ca1 := ta.cell1
      have cb0 := tb.cell
      go_enter Try.func38, Try.ntmps38
      go_wp2_with fail
      rw [← hW]
      clear hW
      refine (upToSize_any n s u _).mono ?_; rintro e w1 ⟨rfl, hb1⟩
      rw [E1]
      have hB1 := hB.trans (hb1.mono hB.size)
      have ta1 := ta.below hb1 ta.lt
      have tb1 := tb.below hb1 tb.lt
      have da0 := ta1.cell0
      have da1 := ta1.cell1
      have db0 := tb1.cell
      clear hb1 hB ta tb ca0 ca1 cb0
      go_wp2_with fail
      refine (HU.out _ _ tb1).mono ?_; rintro e w2 ⟨rfl, hb2⟩
      have hB2 := hB1.trans (hb2.mono hB1.size)
      go_wp2
      go_ret
      exact ⟨ret_int E.out.symm, hB2⟩
  · have E1 := upF_no h
    rw [aupF_no (fun h' => h ⟨h'.1, by omega, h'.2.2⟩)]
    obtain ⟨W, hW, ta, tb, hB⟩ := two_boxes n s u w
    have ca0 := ta.cell0
    have ca1 := ta.cell1
    have cb0 := tb.cell
    go_enter Try.func38, Try.ntmps38
    go_wp2_with fail
    rw [← hW]
    clear hW
    refine (upToSize_any n s u _).mono ?_; rintro e w1 ⟨rfl, hb1⟩
    rw [E1]
    have hB1 := hB.trans (hb1.mono hB.size)
    have ta1 := ta.below hb1 ta.lt
    have tb1 := tb.below hb1 tb.lt
    have da0 := ta1.cell0
    have da1 := ta1.cell1
    have db0 := tb1.cell
    clear hb1 hB ta tb ca0 ca1 cb0
    go_wp2
    go_ret
    exact ⟨rfl, hB1⟩

set_option maxHeartbeats 2000000 in
theorem arcDown_any (n s u : Int) (w : World) :
    Calls Try.prog 42 #[(.agg #[.int .i64 (n), .int .i64 (s)]), .int .i64 u] w fun e w' => e = .returned (.int .i64 (adownF n s u)) ∧ Below w.heap.size w w' := by
  by_cases h : tok n s = true ∧ 0 ≤ u ∧ u ≤ n
  · have E1 := upF_yes h.1 h.2.1 h.2.2
    by_cases h2 : u < 2
    · rw [adownF_no (fun h => by omega)]
      obtain ⟨W, hW, ta, tb, hB⟩ := two_boxes n s u w
      have ca0 := ta.cell0
      have ca1 := ta.cell1
      have cb0 := tb.cell
      go_enter Try.func42, Try.ntmps42
      go_wp2_with fail
      rw [← hW]
      clear hW
      refine (upToSize_any n s u _).mono ?_; rintro e w1 ⟨rfl, hb1⟩
      rw [E1]
      have hB1 := hB.trans (hb1.mono hB.size)
      have ta1 := ta.below hb1 ta.lt
      have tb1 := tb.below hb1 tb.lt
      have da0 := ta1.cell0
      have da1 := ta1.cell1
      have db0 := tb1.cell
      clear hb1 hB ta tb ca0 ca1 cb0
      go_wp2
      go_ret
      exact ⟨rfl, hB1⟩
    · obtain ⟨ht, u0, u1⟩ := h
      have hb := tok_bd ht
      obtain ⟨K, hK, hF⟩ := down_first ht (by omega) u1
      have HU := Lib.hid (fun (w : World) a b ha' hb' => untilDown_any n s u 0 K w a b (by omega) (by omega) (by omega) (by omega) (by omega) (by omega) (by omega) (by omega) hF ha' hb')
      have E := Lib.hid hK
      clear ht hF hK
      obtain ⟨W, hW, ta, tb, hB⟩ := two_boxes n s u w
      have ca0 := ta.cell0
      have ca1 := ta.cell1
      have cb0 := tb.cell
      go_enter Try.func42, Try.ntmps42
      go_wp2_with fail
      rw [← hW]
      clear hW
      refine (upToSize_any n s u _).mono ?_; rintro e w1 ⟨rfl, hb1⟩
      rw [E1]
      have hB1 := hB.trans (hb1.mono hB.size)
      have ta1 := ta.below hb1 ta.lt
      have tb1 := tb.below hb1 tb.lt
      have da0 := ta1.cell0
      have da1 := ta1.cell1
      have db0 := tb1.cell
      clear hb1 hB ta tb ca0 ca1 cb0
      go_wp2_with fail
      refine (HU.out _ _ _ ta1 tb1).mono ?_; rintro e w2 ⟨rfl, hb2⟩
      have hB2 := hB1.trans (hb2.mono hB1.size)
      go_wp2
      go_ret
      exact ⟨ret_int E.out.symm, hB2⟩
  · have E1 := upF_no h
    rw [adownF_no (fun h' => h ⟨h'.1, by omega, h'.2.2⟩)]
    obtain ⟨W, hW, ta, tb, hB⟩ := two_boxes n s u w
    have ca0 := ta.cell0
    have ca1 := ta.cell1
    have cb0 := tb.cell
    go_enter Try.func42, Try.ntmps42
    go_wp2_with fail
    rw [← hW]
    clear hW
    refine (upToSize_any n s u _).mono ?_; rintro e w1 ⟨rfl, hb1⟩
    rw [E1]
    have hB1 := hB.trans (hb1.mono hB.size)
    have ta1 := ta.below hb1 ta.lt
    have tb1 := tb.below hb1 tb.lt
    have da0 := ta1.cell0
    have da1 := ta1.cell1
    have db0 := tb1.cell
    clear hb1 hB ta tb ca0 ca1 cb0
    go_wp2
    go_ret
    exact ⟨rfl, hB1⟩

set_option maxHeartbeats 2000000 in
theorem returnsOf_any (n s u : Int) (w : World) :
    Calls Try.prog 68 #[(.agg #[.int .i64 (n), .int .i64 (s)]), .int .i64 u] w (ListPost (retsF n s u) w) := by
  
  by_cases h : tok n s = true ∧ 0 ≤ u ∧ u ≤ n
  · have E1 := upF_yes h.1 h.2.1 h.2.2
    obtain ⟨ht, u0, u1⟩ := h
    have hb := tok_bd ht
    obtain ⟨u, rfl⟩ := Int.eq_ofNat_of_zero_le u0
    have hRT : retsF n s u = retsT n s u := by
      by_cases c : u = 0
      · subst c; rw [retsF_no (fun h => by omega)]; rfl
      · exact retsF_T ht (by omega) u1
    rw [hRT]
    have HR := Lib.hid (fun k (hk : k < u) => retsT_take (n := n) (s := s) hk)
    have HRet := Lib.hid (fun (k : Nat) (hk : k < u) => (show retF n s (u : Int) k = retB n (invF n s) u k from retF_yes ht (by omega) u1 (by omega) (by omega)))
    clear ht hRT
    go_enter Try.func68, Try.ntmps68
    go_wp2_with fail
    refine (upToSize_any _ _ _ _).mono ?_; rintro e w1 ⟨rfl, hb1⟩
    have hz1 := hb1.size
    try simp at hz1
    have t1 : Two w1 (w.heap.size) (.int .i64 n) (.int .i64 s) 24 := Two.below (by repeat (first | assumption | exact Two.new' _ _ _ _ _ (by simp) | refine Two.alloc ?_ _ | refine Two.drewN ?_ _)) hb1 (by first | omega | (simp <;> omega))
    have hlt1 : (w.heap.size) < w1.heap.size := t1.lt
    have hnt1 : ¬ (w.heap.size) = w1.heap.size := Nat.ne_of_lt hlt1
    have t1c := t1.cell0
    have t1d := t1.cell1
    rw [E1]
    have hB1 : Below w.heap.size w w1 := (by repeat (first | exact Below.refl _ _ | assumption | (refine Below.trans ?_ (Below.mono (by assumption) (by first | omega | (simp <;> omega)))) | (refine Below.alloc ?_ (by first | omega | (simp <;> omega)) _) | (refine below_drewN ?_ _) | (refine Below.drew ?_) | (refine Below.setCell ?_ (by first | omega | (simp <;> omega)) _)))
    clear hb1
    go_wp2_with fail
    go_loopw [5, 12] (fun y x wr => ∃ (k : Nat) (v0 : Value), x = .int .i64 k ∧ v0 = y ∧ k ≤ u ∧ OwnL wr w1.heap.size v0 ((retsT n s u).take k) ∧ Below w1.heap.size w1 wr) (fun _ x _ => u - (intOf x).toNat)
    case atStart => exact ⟨0, _, rfl, rfl, by omega, World.ownsRow_nil _ _ _ _, Below.refl _ _⟩
    case round =>
      obtain ⟨k, v0, rfl, rfl, hk, ho, hB⟩ := hrel
      by_cases hkm : k < u
      · have hkm' : (k : Int) < u := by omega
        have t2 := t1.below hB hlt1
        have t2c := t2.cell0
        have t2d := t2.cell1
        have hS := HR.out k hkm
        have hv := HRet.out k hkm
        have HL : Hid (((retsT n s u).take k).length = k) := by show _ = _; rw [List.length_take, retsT_len]; omega
        generalize retB n (invF n s) u k = X at *
        have HS := Lib.hid hS
        have HV := Lib.hid hv
        clear hS hv
        go_wp2_with fail
        refine (returnOf_any _ _ _ _ _).mono ?_; rintro e w3 ⟨rfl, hb3⟩
        rw [HV.out]
        have ho3 := ho.below hb3
        have hB3 := hB.trans (hb3.mono hB.size)
        have hz := hB3.size
        clear hb3 hB ho t2 t2c t2d
        go_wp2_with (at_builtin; refine append_int rfl _ _ rfl w1.heap.size v0 ((retsT n s u).take k) k HL (by omega) rfl ho3 hz rfl ?_)
        intro v5 w5 ho5 hn5 hb5
        rw [← HS.out] at ho5
        have hB5 := hB3.trans hb5
        clear ho3 hb5 hB3
        go_wp2_with fail
        go_roundw
        case rel => exact ⟨k + 1, _, by go_num, rfl, by omega, ho5, hB5⟩
        case measure => simp only [intOf]; omega
      · obtain rfl : k = u := by omega
        have hkm' : decide ((k : Int) < k) = false := by simp
        have hsz := hB1.size
        have ho' : OwnL wr w.heap.size v0 (retsT n s k) := by
          have h := OwnL.mono (b' := w.heap.size) ho (by omega)
          rwa [List.take_of_length_le (by rw [retsT_len]; omega)] at h
        have hB' : Below w.heap.size w wr := hB1.trans (hB.mono hsz)
        clear ho hB
        go_wp2
        go_ret
        exact ⟨_, rfl, ho', hB'⟩
  · have E1 := upF_no h
    rw [retsF_no (fun h' => h ⟨h'.1, by omega, h'.2.2⟩)]
    go_enter Try.func68, Try.ntmps68
    go_wp2_with fail
    refine (upToSize_any _ _ _ _).mono ?_; rintro e w1 ⟨rfl, hb1⟩
    have hz1 := hb1.size
    try simp at hz1
    have t1 : Two w1 (w.heap.size) (.int .i64 n) (.int .i64 s) 24 := Two.below (by repeat (first | assumption | exact Two.new' _ _ _ _ _ (by simp) | refine Two.alloc ?_ _ | refine Two.drewN ?_ _)) hb1 (by first | omega | (simp <;> omega))
    have hlt1 : (w.heap.size) < w1.heap.size := t1.lt
    have hnt1 : ¬ (w.heap.size) = w1.heap.size := Nat.ne_of_lt hlt1
    have t1c := t1.cell0
    have t1d := t1.cell1
    rw [E1]
    go_wp2
    go_ret
    exact ⟨_, rfl, World.ownsRow_nil _ _ _ _, (by repeat (first | exact Below.refl _ _ | assumption | (refine Below.trans ?_ (Below.mono (by assumption) (by first | omega | (simp <;> omega)))) | (refine Below.alloc ?_ (by first | omega | (simp <;> omega)) _) | (refine below_drewN ?_ _) | (refine Below.drew ?_) | (refine Below.setCell ?_ (by first | omega | (simp <;> omega)) _)))⟩

set_option maxHeartbeats 1000000 in
theorem returnTimes_any (n s u : Int) (w : World) :
    Calls Try.prog 28 #[(.agg #[.int .i64 (n), .int .i64 (s)]), .int .i64 u] w (ListPost (rtimesF n s u) w) := by
  have hp := returnsOf_any n s u (w.alloc (.cells #[.int .i64 n, .int .i64 s] 24))
  have hlen := retsF_len n s u
  unfold rtimesF
  generalize retsF n s u = L at hp hlen ⊢
  
  obtain ⟨N, hN⟩ : ∃ N, L.length = N := ⟨_, rfl⟩
  rw [hN] at hlen
  go_enter Try.func28, Try.ntmps28
  go_wp2_with fail
  refine (hp).mono ?_; rintro e w1 ⟨v1, rfl, ho1, hb1⟩
  have hz1 := hb1.size
  try simp at hz1
  clear hp
  obtain ⟨a, cap, rfl, HC0⟩ := ho1.reads.cells hN
  have HC1 : Hid (∀ j, j < N → ∃ g off, a = some ⟨g, off, none⟩ ∧ w1.cell? ⟨g, off + j, none⟩ = some (.int .i64 (L.getD j 0))) := fun j hj => by
    obtain ⟨g, off, e, h⟩ := HC0 (by omega)
    exact ⟨g, off, e, h.out j hj⟩
  have hB1 : Below w.heap.size w w1 := (by repeat (first | exact Below.refl _ _ | assumption | (refine Below.trans ?_ (Below.mono (by assumption) (by first | omega | (simp <;> omega)))) | (refine Below.alloc ?_ (by first | omega | (simp <;> omega)) _) | (refine below_drewN ?_ _) | (refine Below.drew ?_) | (refine Below.setCell ?_ (by first | omega | (simp <;> omega)) _)))
  have HN := Lib.hid hN
  clear ho1 hb1 HC0 hN
  go_wp2_with fail
  go_loopw [5, 12] (fun y x wr => ∃ (k : Nat) (v0 : Value), x = .int .i64 k ∧ v0 = y ∧ k ≤ N ∧ OwnL wr w1.heap.size v0 (kindsL (L.take k)) ∧ Below w1.heap.size w1 wr) (fun _ x _ => N - (intOf x).toNat)
  case atStart => exact ⟨0, _, rfl, rfl, by omega, World.ownsRow_nil _ _ _ _, Below.refl _ _⟩
  case round =>
    obtain ⟨k, v0, rfl, rfl, hk, ho, hB⟩ := hrel
    by_cases hkm : k < N
    · have hkm' : (k : Int) < N := by omega
      obtain ⟨g, off, rfl, c1⟩ := HC1.out k hkm
      have ck := (hB.cell (p := ⟨g, off + k, none⟩) (World.block_lt_of_cell? w1 _ c1)).trans c1
      have hS := kindsL_snoc (L.take k) (L.getD k 0)
      rw [← take_one L (by rw [HN.out]; exact hkm)] at hS
      have hwk := ((kindsL_is (L.take k)).1).imp (fun {a b} (h : a < b) => Int.le_of_lt h)
      have hlen := Nat.le_trans (kindsL_le (L.take k)) (by rw [List.length_take]; omega : (L.take k).length ≤ 60)
      generalize L.getD k 0 = X at c1 ck hS
      clear c1
      go_wp2_with fail
      refine (insertOnce_any v0 X _ w1.heap.size _ ho hB.size hwk (by omega)).mono ?_; rintro e w3 ⟨v3, rfl, ho3, hb3⟩
      rw [← hS] at ho3
      have hB3 := hB.trans hb3
      clear ck ho hb3 hwk hS hlen hB
      go_wp2_with fail
      go_roundw
      case rel => exact ⟨k + 1, _, by go_num, rfl, by omega, ho3, hB3⟩
      case measure => simp only [intOf]; omega
    · obtain rfl : k = N := by omega
      have hkm' : decide ((k : Int) < k) = false := by simp
      have hsz := hB1.size
      have ho' : OwnL wr w.heap.size v0 (kindsL L) := by
        have h := OwnL.mono (b' := w.heap.size) ho (by omega)
        rwa [List.take_of_length_le (by rw [HN.out]; omega)] at h
      have hB' : Below w.heap.size w wr := hB1.trans (hB.mono hsz)
      clear ho hB
      go_wp2
      go_ret
      exact ⟨_, rfl, ho', hB'⟩

set_option maxHeartbeats 1000000 in
theorem returnsLong_any (n s u x : Int) (w : World) :
    Calls Try.prog 33 #[(.agg #[.int .i64 (n), .int .i64 (s)]), .int .i64 u, .int .i64 x] w fun e w' => e = .returned (.int .i64 (rlongF n s u x)) ∧ Below w.heap.size w w' := by
  have hp := returnsOf_any n s u (w.alloc (.cells #[.int .i64 n, .int .i64 s] 24))
  have hlen := retsF_len n s u
  unfold rlongF
  generalize retsF n s u = L at hp hlen ⊢
  
  obtain ⟨N, hN⟩ : ∃ N, L.length = N := ⟨_, rfl⟩
  by_cases h0 : N = 0
  · subst h0
    obtain rfl := nil_of_len hN
    rw [if_pos rfl]
    go_enter Try.func33, Try.ntmps33
    go_wp2_with fail
    refine (hp).mono ?_; rintro e w1 ⟨v1, rfl, ho1, hb1⟩
    have hz1 := hb1.size
    try simp at hz1
    clear hp
    obtain ⟨a, cap, rfl⟩ := nil_cells ho1.reads
    go_wp2
    go_ret
    exact ⟨rfl, (by repeat (first | exact Below.refl _ _ | assumption | (refine Below.trans ?_ (Below.mono (by assumption) (by first | omega | (simp <;> omega)))) | (refine Below.alloc ?_ (by first | omega | (simp <;> omega)) _) | (refine below_drewN ?_ _) | (refine Below.drew ?_) | (refine Below.setCell ?_ (by first | omega | (simp <;> omega)) _)))⟩
  · have hne : L ≠ [] := fun e => h0 (by rw [e] at hN; simpa using hN.symm)
    rw [if_neg hne]
    have h0' : ((N : Int) == 0) = false := by simp; omega
    clear hne
    go_enter Try.func33, Try.ntmps33
    go_wp2_with fail
    refine (hp).mono ?_; rintro e w1 ⟨v1, rfl, ho1, hb1⟩
    have hz1 := hb1.size
    try simp at hz1
    clear hp
    have hr := ho1.reads
    obtain ⟨a, cap, e1, HC0⟩ := ho1.reads.cells hN
    obtain ⟨g, off, rfl, HC⟩ := HC0 h0
    have hB1 : Below w.heap.size w w1 := (by repeat (first | exact Below.refl _ _ | assumption | (refine Below.trans ?_ (Below.mono (by assumption) (by first | omega | (simp <;> omega)))) | (refine Below.alloc ?_ (by first | omega | (simp <;> omega)) _) | (refine below_drewN ?_ _) | (refine Below.drew ?_) | (refine Below.setCell ?_ (by first | omega | (simp <;> omega)) _)))
    have hK := countEqual_any v1 x L w1 hr (by omega)
    subst e1
    clear ho1 hb1 HC0 HC hN hr
    go_wp2_with fail
    refine hK.mono ?_; rintro e w2 ⟨rfl, rfl⟩
    go_wp2
    go_ret
    exact ⟨rfl, hB1⟩
end Go.Proofs.Ytkhnnbgmckeoaaa
