/- Contract of ReturnTimes of the model. -/
import Derived.Test.YtkhnnbgmckeoaaaRetS
import Derived.Test.YtkhnnbgmckeoaaaSorted
set_option linter.unusedVariables false
namespace Go.Proofs.Ytkhnnbgmckeoaaa

set_option maxRecDepth 4000
open Go.ChangeShapes Go.WideShapes Go.ChangeAt Go.RowKit Go.Joins N

/-- two blocks: a turn and an empty row -/
theorem turn_empty (n s : Int) (w : World) : ∃ W, W = (w.alloc (.cells #[.int .i64 n, .int .i64 s] 24)).alloc (.cells #[] 3) ∧
    Two W w.heap.size (.int .i64 n) (.int .i64 s) 24 ∧ OwnL W (w.heap.size + 1) (.slice (some ⟨w.heap.size + 1, 0, none⟩) 0 0) [] ∧ Below w.heap.size w W ∧ w.heap.size + 2 ≤ W.heap.size := by
  refine ⟨_, rfl, ?_, ?_, ?_, by simp⟩
  · exact (Two.new _ _ _ _).alloc _
  · have h := made_nil (w.alloc (.cells #[.int .i64 n, .int .i64 s] 24))
    have e : (w.alloc (.cells #[.int .i64 n, .int .i64 s] 24)).heap.size = w.heap.size + 1 := by simp
    rwa [e] at h
  · exact (by repeat (first | exact Below.refl _ _ | assumption | (refine Below.trans ?_ (Below.mono (by assumption) (by first | omega | (simp <;> omega)))) | (refine Below.alloc ?_ (by first | omega | (simp <;> omega)) _) | (refine below_drewN ?_ _) | (refine Below.drew ?_) | (refine Below.setCell ?_ (by first | omega | (simp <;> omega)) _)))

set_option maxHeartbeats 4000000 in
theorem specReturnTimes_any (n s u : Int) (w : World) :
    Calls Try.prog 30 #[(.agg #[.int .i64 (n), .int .i64 (s)]), .int .i64 u] w (ListPost (rtimesF n s u) w) := by
  obtain ⟨W, hW, tb, hnil, hBW, hzW⟩ := turn_empty n s w
  have tbc := tb.cell0
  have tbd := tb.cell1
  have ltb := tb.lt
  by_cases h : tok n s = true ∧ 1 ≤ u ∧ u ≤ n
  · have HA := Lib.hid (arcB_yes h.1 h.2.1 h.2.2)
    obtain ⟨ht, u1, u2⟩ := h
    have hb := tok_bd ht
    obtain ⟨u, rfl⟩ := Int.eq_ofNat_of_zero_le (by omega : 0 ≤ u)
    have hkd := dd_kinds (retsT n s u) (retsT_len n s u)
    rw [← retsF_T ht (by omega) u2, show kindsL (retsF n s u) = rtimesF n s u from rfl, retsF_T ht (by omega) u2] at hkd
    have HR := Lib.hid (fun k (hk : k < u) => retsT_take (n := n) (s := s) hk)
    have HRet := Lib.hid (fun (k : Nat) (hk : k < u) => (show retF n s (u : Int) k = retB n (invF n s) u k from retF_yes ht u1 u2 (by omega) (by omega)))
    have hL : (isort (retsT n s u)).length = u := by rw [isort_length, retsT_len]
    have hE0 : OwnE W (w.heap.size + 1) (w.heap.size + 2) (.slice (some ⟨w.heap.size + 1, 0, none⟩) 0 0) [] := .inl ⟨_, rfl, rfl, hnil⟩
    rw [← hkd]
    clear ht hkd hnil
    go_enter Try.func30, Try.ntmps30
    go_wp2_with fail
    rw [← hW]
    clear hW
    go_loopw [5, 6] (fun y x wr => ∃ (k : Nat) (v0 : Value), x = .int .i64 k ∧ v0 = y ∧ k ≤ u ∧ OwnE wr (w.heap.size + 1) (w.heap.size + 2) v0 ((retsT n s u).take k) ∧ v0 ≠ .slice none 0 0 ∧ Below (w.heap.size + 2) W wr) (fun _ x _ => u - (intOf x).toNat)
    case atStart => exact ⟨0, _, rfl, rfl, by omega, hE0, by simp, Below.refl _ _⟩
    case round =>
      obtain ⟨k, v0, rfl, rfl, hk, ho, hn0, hB⟩ := hrel
      clear hE0
      have hz := hB.size
      have t1 := tb.below hB (by omega)
      have t1c := t1.cell0
      have t1d := t1.cell1
      clear tb tbc tbd
      by_cases hkm : k < u
      · have hkm' : (k : Int) < u := by omega
        have hS := HR.out k hkm
        have hv := HRet.out k hkm
        have HL : Hid (((retsT n s u).take k).length = k) := by show _ = _; rw [List.length_take, retsT_len]; omega
        generalize retB n (invF n s) u k = X at *
        have HS := Lib.hid hS
        have HV := Lib.hid hv
        clear hS hv
        go_wp2_with fail
        refine (l7Ok_any _ _ _ _).mono ?_; rintro e w2 ⟨rfl, hb2⟩
        rw [HA.out]
        have ho2 := ho.below hb2
        have hB2 := hB.trans (hb2.mono (by omega))
        have t2 := t1.below hb2 t1.lt
        have t2c := t2.cell0
        have t2d := t2.cell1
        clear hb2 ho hB t1 t1c t1d
        go_wp2_with fail
        refine (specReturnOf_any _ _ _ _ _).mono ?_; rintro e w3 ⟨rfl, hb3⟩
        rw [HV.out]
        have ho3 := ho2.below hb3
        have hB3 := hB2.trans (hb3.mono (by have := hB2.size; omega))
        have hz3 : w.heap.size + 2 ≤ w3.heap.size := by have := hB3.size; omega
        clear hb3 hB2 ho2 t2 t2c t2d
        go_wp2_with (at_builtin; refine append_e rfl _ _ rfl (w.heap.size + 1) (w.heap.size + 2) v0 ((retsT n s u).take k) k HL (by omega) rfl ho3 hz3 rfl ?_)
        intro v5 w5 ho5 hn5 hb5
        rw [← HS.out] at ho5
        have hB5 := hB3.trans hb5
        clear ho3 hb5 hB3
        go_wp2_with fail
        go_roundw
        case rel => exact ⟨k + 1, _, by go_num, rfl, by omega, ho5, hn5, hB5⟩
        case measure => simp only [intOf]; omega
      · obtain rfl : k = u := by omega
        have hkm' : decide ((k : Int) < k) = false := by simp
        have ho' : OwnL wr (w.heap.size + 1) v0 (retsT n s k) := by
          have h := ho.own (by omega)
          rwa [List.take_of_length_le (by rw [retsT_len]; omega)] at h
        have hBw : Below w.heap.size w wr := hBW.trans (hB.mono (by omega))
        have hl := retsT_len n s k
        generalize retsT n s k = G at *
        clear ho hB HR t1 t1c t1d
        go_wp2_with fail
        refine (l2Sorted_any v0 G _ ho'.reads (by omega)).mono ?_; rintro e w3 ⟨v3, rfl, ho3, hb3⟩
        generalize isort G = L at *
        obtain ⟨a, cap, rfl, HC0⟩ := (show Reads w3 v3 L from ho3.reads).cells hL
        have HC1 : Hid (∀ j, j < k → ∃ g off, a = some ⟨g, off, none⟩ ∧ ∀ j, j < k → w3.cell? ⟨g, off + j, none⟩ = some (.int .i64 (L.getD j 0))) := fun j hj => by
          obtain ⟨g, off, e, h⟩ := HC0 (by omega)
          exact ⟨g, off, e, fun j hj => h.out j hj⟩
        have hB3 : Below w.heap.size w w3 := hBw.trans (hb3.mono hBw.size)
        have hz3 := hB3.size
        have hE3 : OwnE (w3.alloc (.cells #[] 3)) w3.heap.size (w3.heap.size + 1) (.slice (some ⟨w3.heap.size, 0, none⟩) 0 0) [] := OwnE.made _ _
        have hB4 : Below w3.heap.size w3 (w3.alloc (.cells #[] 3)) := (Below.refl _ _).alloc (Nat.le_refl _) _
        have hz4 : w3.heap.size + 1 ≤ (w3.alloc (.cells #[] 3)).heap.size := by simp
        have HL := Lib.hid hL
        clear ho' ho3 hb3 HC0 hL hl hBw
        go_wp2_with fail
        generalize w3.alloc (.cells #[] 3) = w4 at *
        go_loopw [7, 8] (fun y x wr => ∃ (j : Nat) (v0 : Value), x = .int .i64 j ∧ v0 = y ∧ j ≤ k ∧ OwnE wr w3.heap.size (w3.heap.size + 1) v0 (dd L j) ∧ v0 ≠ .slice none 0 0 ∧ Below w3.heap.size w3 wr ∧ w3.heap.size + 1 ≤ wr.heap.size) (fun _ x _ => k - (intOf x).toNat)
        case atStart => exact ⟨0, _, rfl, rfl, by omega, hE3, by simp, hB4, hz4⟩
        case round =>
          obtain ⟨i, v0, rfl, rfl, hi, ho, hn0, hB, hz⟩ := hrel
          clear hE3 hB4 hz4
          by_cases hkm : i < k
          · have hkm' : (i : Int) < k := by omega
            obtain ⟨g, off, rfl, HC⟩ := HC1.out i hkm
            have c1 := HC i hkm
            have ck := (hB.cell (p := ⟨g, off + i, none⟩) (World.block_lt_of_cell? w3 _ c1)).trans c1
            have hdl := dd_len L i
            obtain ⟨D, hD⟩ : ∃ D, (dd L i).length = D := ⟨_, rfl⟩
            rw [hD] at hdl
            have HD := Lib.hid hD
            clear hD c1
            by_cases hk0 : i = 0
            · subst hk0
              have hS := dd_yes (ys := L) (k := 0) (.inl rfl)
              generalize hX : L.getD 0 0 = X at *
              have HX := Lib.hid hX
              have HS := Lib.hid hS
              simp only [Nat.add_zero] at ck
              clear hS HC hX
              go_wp2_with fail
              go_quiet (fail)
              have ho' : OwnE (wr.drewN nq) w3.heap.size (w3.heap.size + 1) v0 (dd L 0) := ho
              have hz' : w3.heap.size + 1 ≤ (wr.drewN nq).heap.size := hz
              go_wp2_with (at_builtin; refine append_e rfl _ _ rfl w3.heap.size (w3.heap.size + 1) v0 (dd L 0) D HD (by omega) rfl ho' hz' rfl ?_)
              intro v5 w5 ho5 hn5 hb5
              rw [← HS.out] at ho5
              have hB5 := (below_drewN hB nq).trans (hb5.mono (by omega))
              have hz5 := Nat.le_trans hz' hb5.size
              clear ck ho ho' hb5 hB
              go_wp2_with fail
              go_roundw
              case rel => exact ⟨0 + 1, _, by go_num, rfl, by omega, ho5, hn5, hB5, hz5⟩
              case measure => simp only [intOf]; omega
            · obtain ⟨j, rfl⟩ : ∃ j, i = j + 1 := ⟨i - 1, by omega⟩
              have c0 := HC j (by omega)
              have cj := (hB.cell (p := ⟨g, off + j, none⟩) (World.block_lt_of_cell? w3 _ c0)).trans c0
              have hk0' : ((j : Int) + 1 == 0) = false := by simp; omega
              have eq1 : ((j + 1 : Nat) : Int) = (j : Int) + 1 := by omega
              rw [eq1] at hkm' ⊢
              have q1 : (j : Int) < k := by omega
              clear eq1
              by_cases hne : L.getD (j + 1) 0 = L.getD j 0
              · have hS := dd_no (ys := L) (k := j + 1) (by rintro (h | h); · omega
                                                            · exact h hne)
                have HS := Lib.hid hS
                rw [hne] at ck
                generalize L.getD j 0 = X at *
                clear hS HC c0 hne
                go_wp2_with fail
                go_quiet (fail)
                have ho' : OwnE (wr.drewN nq) w3.heap.size (w3.heap.size + 1) v0 (dd L (j + 1 + 1)) := by rw [HS.out]; exact ho
                have hz' : w3.heap.size + 1 ≤ (wr.drewN nq).heap.size := hz
                have hB5 := below_drewN hB nq
                clear ck cj ho hB
                go_wp2_with fail
                go_roundw
                case rel => exact ⟨j + 1 + 1, _, by go_num, rfl, by omega, ho', hn0, hB5, hz'⟩
                case measure => simp only [intOf]; omega
              · have hS := dd_yes (ys := L) (k := j + 1) (.inr hne)
                generalize L.getD (j + 1) 0 = Y at *
                generalize L.getD j 0 = X at *
                have hne' : (Y != X) = true := by rw [bne_iff_ne]; exact hne
                have HS := Lib.hid hS
                clear hS HC c0 hne
                go_wp2_with fail
                go_quiet (fail)
                have ho' : OwnE (wr.drewN nq) w3.heap.size (w3.heap.size + 1) v0 (dd L (j + 1)) := ho
                have hz' : w3.heap.size + 1 ≤ (wr.drewN nq).heap.size := hz
                go_wp2_with (at_builtin; refine append_e rfl _ _ rfl w3.heap.size (w3.heap.size + 1) v0 (dd L (j + 1)) D HD (by omega) rfl ho' hz' rfl ?_)
                intro v5 w5 ho5 hn5 hb5
                rw [← HS.out] at ho5
                have hB5 := (below_drewN hB nq).trans (hb5.mono (by omega))
                have hz5 := Nat.le_trans hz' hb5.size
                clear ck cj ho ho' hb5 hB
                go_wp2_with fail
                go_roundw
                case rel => exact ⟨j + 1 + 1, _, by go_num, rfl, by omega, ho5, hn5, hB5, hz5⟩
                case measure => simp only [intOf]; omega
          · obtain rfl : i = k := by omega
            have hkm' : decide ((i : Int) < i) = false := by simp
            have ho' : OwnL wr w.heap.size v0 (dd L i) := OwnL.mono (b' := w.heap.size) (ho.own (by omega)) (by omega)
            have hB' : Below w.heap.size w wr := hB3.trans (hB.mono hz3)
            clear ho hB
            go_wp2
            go_ret
            exact ⟨_, rfl, ho', hB'⟩
  · rw [rtimesF_no h]
    have hA := arcB_no h
    have hfin : ∀ (W' : World), OwnL W' (w.heap.size + 1) (.slice (some ⟨w.heap.size + 1, 0, none⟩) 0 0) [] → Below w.heap.size w W' → True := fun _ _ _ => trivial
    clear hfin
    by_cases h0 : 0 < u
    · go_enter Try.func30, Try.ntmps30
      go_wp2_with fail
      rw [← hW]
      clear hW
      go_loopw [5, 6] (fun y x wr => y = .slice (some ⟨w.heap.size + 1, 0, none⟩) 0 0 ∧ x = .int .i64 0 ∧ wr = W) (fun _ _ _ => 0)
      case atStart => exact ⟨rfl, rfl, rfl⟩
      case round =>
        obtain ⟨rfl, rfl, rfl⟩ := hrel
        go_wp2_with fail
        refine (l7Ok_any _ _ _ _).mono ?_; rintro e w2 ⟨rfl, hb2⟩
        rw [hA]
        have hn2 := hnil.below hb2
        have hB2 := hBW.trans (hb2.mono hBW.size)
        clear hnil hBW hb2 tb tbc tbd
        go_wp2_with fail
        refine (l2Sorted_any _ [] _ hn2.reads (by simp)).mono ?_; rintro e w3 ⟨v3, rfl, ho3, hb3⟩
        obtain ⟨a, cap, rfl⟩ := nil_cells (show Reads w3 v3 [] from ho3.reads)
        have hB3 := hB2.trans (hb3.mono hB2.size)
        have hz3 := hB3.size
        have ho4 := (made_nil w3).mono (b' := w.heap.size) hz3
        have hB4 := hB3.alloc hz3 (.cells #[] 3)
        clear ho3 hb3 hB2 hn2
        go_wp2_with fail
        generalize w3.alloc (.cells #[] 3) = w4 at *
        go_loopw [7, 8] (fun y x wr => y = .slice (some ⟨w3.heap.size, 0, none⟩) 0 0 ∧ x = .int .i64 0 ∧ wr = w4) (fun _ _ _ => 0)
        case atStart => exact ⟨rfl, rfl, rfl⟩
        case round =>
          obtain ⟨rfl, rfl, rfl⟩ := hrel
          go_wp2
          go_ret
          exact ⟨_, rfl, ho4, hB4⟩
    · have h0' : decide (0 < u) = false := by simpa using h0
      go_enter Try.func30, Try.ntmps30
      go_wp2_with fail
      rw [← hW]
      clear hW
      go_loopw [5, 6] (fun y x wr => y = .slice (some ⟨w.heap.size + 1, 0, none⟩) 0 0 ∧ x = .int .i64 0 ∧ wr = W) (fun _ _ _ => 0)
      case atStart => exact ⟨rfl, rfl, rfl⟩
      case round =>
        obtain ⟨rfl, rfl, rfl⟩ := hrel
        go_wp2_with fail
        refine (l2Sorted_any _ [] _ hnil.reads (by simp)).mono ?_; rintro e w3 ⟨v3, rfl, ho3, hb3⟩
        obtain ⟨a, cap, rfl⟩ := nil_cells (show Reads w3 v3 [] from ho3.reads)
        have hB3 := hBW.trans (hb3.mono hBW.size)
        have hz3 := hB3.size
        have ho4 := (made_nil w3).mono (b' := w.heap.size) hz3
        have hB4 := hB3.alloc hz3 (.cells #[] 3)
        clear ho3 hb3 hBW hnil
        go_wp2_with fail
        generalize w3.alloc (.cells #[] 3) = w4 at *
        go_loopw [7, 8] (fun y x wr => y = .slice (some ⟨w3.heap.size, 0, none⟩) 0 0 ∧ x = .int .i64 0 ∧ wr = w4) (fun _ _ _ => 0)
        case atStart => exact ⟨rfl, rfl, rfl⟩
        case round =>
          obtain ⟨rfl, rfl, rfl⟩ := hrel
          go_wp2
          go_ret
          exact ⟨_, rfl, ho4, hB4⟩
end Go.Proofs.Ytkhnnbgmckeoaaa
