/- Proves that FnDigitsOrder returns true for every two codes, and leaves them as they were. No conditions. -/
import Derived.Test.YtdkmghbbnkppcaaHead
import Derived.Test.YtdkmghbbnkppcaaNumI
import Derived.Test.YtdkmghbbnkppcaaDrawD
import Derived.Test.YtdkmghbbnkppcaaGFun2
set_option linter.unusedVariables false
namespace Go.Proofs.Ytdkmghbbnkppcaa.lawDigitsOrder

set_option maxRecDepth 4000
open Go.ChangeShapes Go.WideShapes Go.ChangeAt Go.RowKit Go.Joins

/-- what the law asks, at the highest place that differs, or at the lowest one -/
theorem order_facts {N S A C : Nat} (h : tokN N S = true) (hA : A < N) (hC : C < N) {k : Nat} (hk : k < bmN N S)
    (hs : ∀ i, k < i → i < bmN N S → digD (basAt N S) (bmN N S) A i = digD (basAt N S) (bmN N S) C i)
    (hend : digD (basAt N S) (bmN N S) A k ≠ digD (basAt N S) (bmN N S) C k ∨ k = 0) :
    (A = C ↔ digD (basAt N S) (bmN N S) A k = digD (basAt N S) (bmN N S) C k) ∧ (A < C ↔ digD (basAt N S) (bmN N S) A k < digD (basAt N S) (bmN N S) C k) := by
  have hsc := bas_scale h
  have hA' : A < basAt N S (bmN N S) := by rw [bas_end h]; exact hA
  have hC' : C < basAt N S (bmN N S) := by rw [bas_end h]; exact hC
  have := order_at hsc (dig_ok hsc hA') (dig_ok hsc hC') hk hs hend
  rwa [dig_number hsc hA', dig_number hsc hC'] at this

set_option maxHeartbeats 8000000 in
theorem walk (a : Option Addr) (len cap : Nat) (z : List Int) (a2 : Option Addr) (len2 cap2 : Nat) (z2 : List Int) (w : World) (row : IsRow .u8 w a len cap z) (row2 : IsRow .u8 w a2 len2 cap2 z2) :
    Calls Try.prog 10 #[.slice a len cap, .slice a2 len2 cap2] w fun e w' => e = .returned (.bool true) ∧ Below w.heap.size w w' := by
  have hc := CodeIn.of row
  have hc2 := CodeIn.of row2
  clear row row2
  by_cases hl : 1048576 < len
  · have hl' : (1048576 : Int) < len := by omega
    go_enter Try.func10, Try.ntmps10
    go_wp2
    go_ret
    exact ⟨rfl, (by repeat (first | exact Below.refl _ _ | assumption | (refine Below.trans ?_ (Below.mono (by assumption) (by first | omega | (simp <;> omega)))) | (refine Below.alloc ?_ (by first | omega | (simp <;> omega)) _) | (refine below_drewN ?_ _) | (refine Below.drew ?_) | (refine Below.setCell ?_ (by first | omega | (simp <;> omega)) _)))⟩
  by_cases hl2 : 1048576 < len2
  · have hl' : ¬ (1048576 : Int) < len := by omega
    have hl2' : (1048576 : Int) < len2 := by omega
    go_enter Try.func10, Try.ntmps10
    go_wp2
    go_ret
    exact ⟨rfl, (by repeat (first | exact Below.refl _ _ | assumption | (refine Below.trans ?_ (Below.mono (by assumption) (by first | omega | (simp <;> omega)))) | (refine Below.alloc ?_ (by first | omega | (simp <;> omega)) _) | (refine below_drewN ?_ _) | (refine Below.drew ?_) | (refine Below.setCell ?_ (by first | omega | (simp <;> omega)) _)))⟩
  · have hl' : ¬ (1048576 : Int) < len := by omega
    have hl2' : ¬ (1048576 : Int) < len2 := by omega
    go_enter Try.func10, Try.ntmps10
    go_wp2_with fail
    refine (drawDigitsOf_any a len cap _ hc (by omega)).mono ?_; rintro e w1 ⟨n, s, k, rfl, n0, n1, s0, s1, k0, k1, hb1⟩
    have t1 : Two (w1.alloc (.cells #[.int .i64 n, .int .i64 s] 24)) w1.heap.size (.int .i64 n) (.int .i64 s) 24 := Two.new _ _ _ _
    have hB1 : Below w.heap.size w (w1.alloc (.cells #[.int .i64 n, .int .i64 s] 24)) := hb1.alloc hb1.size _
    have hc2' := hc2.below hB1
    clear hc hc2 hb1
    go_wp2_with fail
    refine (drawDigitsOf_any a2 len2 cap2 _ hc2' (by omega)).mono ?_; rintro e w2 ⟨n', s', k2, rfl, n0', n1', s0', s1', l0, l1, hb2⟩
    have t2 := t1.below hb2 t1.lt
    have hB2 := hB1.trans (hb2.mono hB1.size)
    have t3 := t2.alloc (.cells #[.int .i64 n', .int .i64 s'] 24)
    have hB3 := hB2.alloc hB2.size (.cells #[.int .i64 n', .int .i64 s'] 24)
    clear hc2' t1 hB1 hb2 t2 hB2
    have c0 := t3.cell0
    have c1 := t3.cell1
    go_wp2_with fail
    refine (specTurnOk_any _ _ _).mono ?_; rintro e w4 ⟨rfl, hb4⟩
    have t4 := t3.below hb4 t3.lt
    have hB4 := hB3.trans (hb4.mono hB3.size)
    clear t3 hb4 hB3 c0 c1
    have c0 := t4.cell0
    have c1 := t4.cell1
    by_cases h : tok n s = true ∧ 0 ≤ k ∧ k < n
    · obtain ⟨ht, h0, h1⟩ := h
      rw [ht]
      obtain ⟨N, S, rfl, rfl, hN⟩ := tokN_of ht
      obtain ⟨b1, b2, _⟩ := tokN_bd hN
      obtain ⟨A, rfl⟩ := Int.eq_ofNat_of_zero_le h0
      have hA : A < N := by omega
      have h0' : ¬ (A : Int) < 0 := by omega
      have h1' : ¬ (N : Int) ≤ A := by omega
      obtain ⟨r, hr⟩ : ∃ r, k2.tmod (N : Int) = r := ⟨_, rfl⟩
      have hr1 : -(N : Int) < r ∧ r < N := by
        rw [← hr]
        have q1 := Int.tmod_lt_of_pos k2 (show (0 : Int) < N by omega)
        have q2 := Int.lt_tmod_of_pos k2 (show (0 : Int) < N by omega)
        omega
      have hq0 : (r + N).tmod (N : Int) = (r + N) % (N : Int) := Int.tmod_eq_emod_of_nonneg (by omega)
      have hq1 := Int.emod_lt_of_pos (r + N) (show (0 : Int) < N by omega)
      have hq2 := Int.emod_nonneg (r + N) (show (N : Int) ≠ 0 by omega)
      obtain ⟨C, hC⟩ := Int.eq_ofNat_of_zero_le hq2
      rw [hC] at hq0 hq1
      have hCN : C < N := by omega
      have hwr : IntKind.i64.wrap r = r := IntWalk.i64_in _ (by omega)
      have hwr2 : IntKind.i64.wrap (r + N) = r + N := IntWalk.i64_in _ (by omega)
      have hwC : IntKind.i64.wrap (C : Int) = C := IntWalk.i64_in _ (by omega)
      have hN0 : ¬ (N : Int) = 0 := by omega
      have hN0n : ¬ N = 0 := by omega
      have hdA := fun w => digitsOf_any (N : Int) S A w
      rw [digF_yes hN hA] at hdA
      have hdC := fun w => digitsOf_any (N : Int) S C w
      rw [digF_yes hN hCN] at hdC
      have HDA := Lib.hid hdA
      have HDC := Lib.hid hdC
      obtain ⟨hm1, hm8, _⟩ := bas_facts hN
      have HLA : Hid ((castL (digN N S A)).length = bmN N S) := by show _ = _; rw [castL_len, digN_len]
      have HLC : Hid ((castL (digN N S C)).length = bmN N S) := by show _ = _; rw [castL_len, digN_len]
      have HGA : Hid (∀ i, i < bmN N S → (castL (digN N S A)).getD i 0 = ((digD (basAt N S) (bmN N S) A i : Nat) : Int)) := fun i hi => by rw [castL_getD, digN_get hi]
      have HGC : Hid (∀ i, i < bmN N S → (castL (digN N S C)).getD i 0 = ((digD (basAt N S) (bmN N S) C i : Nat) : Int)) := fun i hi => by rw [castL_getD, digN_get hi]
      have HO : Hid (∀ k, k < bmN N S → (∀ i, k < i → i < bmN N S → digD (basAt N S) (bmN N S) A i = digD (basAt N S) (bmN N S) C i) → (digD (basAt N S) (bmN N S) A k ≠ digD (basAt N S) (bmN N S) C k ∨ k = 0) → (A = C ↔ digD (basAt N S) (bmN N S) A k = digD (basAt N S) (bmN N S) C k) ∧ (A < C ↔ digD (basAt N S) (bmN N S) A k < digD (basAt N S) (bmN N S) C k)) := fun k hk hs hend => order_facts hN hA hCN hk hs hend
      generalize digD (basAt N S) (bmN N S) A = dA at *
      generalize digD (basAt N S) (bmN N S) C = dC at *
      generalize digN N S A = DA at *
      generalize digN N S C = DC at *
      generalize bmN N S = m at *
      have hm0 : ((m : Int) == 0) = false := by simp; omega
      have hnn : ((m : Int) != (m : Int)) = false := by simp
      have lt4 := t4.lt
      clear hdA hdC hN ht hC hq2
      go_wp2_with fail
      go_quiet (fail)
      have t5 : Two (w4.drewN nq) w1.heap.size (.int .i64 N) (.int .i64 S) 24 := t4
      have hB5 := below_drewN hB4 nq
      generalize w4.drewN nq = w5 at *
      clear t4 hB4 c0 c1 lt4 hr hr1 hq0 hwr hwr2
      have c0 := t5.cell0
      have c1 := t5.cell1
      go_wp2_with fail
      refine (HDA.out _).mono ?_; rintro e w6 ⟨v6, rfl, ho6, hb6⟩
      have t6 := t5.below hb6 t5.lt
      have hB6 := hB5.trans (hb6.mono hB5.size)
      clear t5 hB5 hb6 c0 c1
      have c0 := t6.cell0
      have c1 := t6.cell1
      go_wp2_with fail
      refine (HDC.out _).mono ?_; rintro e w7 ⟨v7, rfl, ho7, hb7⟩
      have ho6' := ho6.below hb7
      have hB7 := hB6.trans (hb7.mono hB6.size)
      obtain ⟨gA, capA, curA, rfl, hbA, hrA, _, hncA, _, hcA⟩ := ho6'.rowI (N := m) HLA.out (by omega)
      obtain ⟨gC, capC, curC, rfl, hbC, hrC, _, hncC, _, hcC⟩ := ho7.rowI (N := m) HLC.out (by omega)
      have HCA : Hid (∀ j, j < m → w7.cell? ⟨gA, j, none⟩ = some (.int .i64 ((dA j : Nat) : Int))) := fun j hj => by rw [hrA.cell, hcA j hj, HGA.out j hj]
      have HCC : Hid (∀ j, j < m → w7.cell? ⟨gC, j, none⟩ = some (.int .i64 ((dC j : Nat) : Int))) := fun j hj => by rw [hrC.cell, hcC j hj, HGC.out j hj]
      have hwm : IntKind.i64.wrap ((m : Int) - 1) = (m : Int) - 1 := IntWalk.i64_in _ (by omega)
      obtain ⟨m', rfl⟩ : ∃ m', m = m' + 1 := ⟨m - 1, by omega⟩
      clear ho6 ho6' ho7 hrA hrC hcA hcC hb7 t6 c0 c1 hB6 hwm
      go_wp2_with fail
      go_loopw [11] (fun x wr => ∃ (j q : Nat), x = .int .i64 j ∧ j < m' + 1 ∧ Hid (∀ i, j < i → i < m' + 1 → dA i = dC i) ∧ wr = w7.drewN q) (fun x _ => (intOf x).toNat)
      case atStart => exact ⟨m', 0, by go_num, by omega, fun i h1 h2 => by omega, rfl⟩
      case round =>
        obtain ⟨j, q, rfl, hj, HS, rfl⟩ := hrel
        have ca := HCA.out j hj
        have cc := HCC.out j hj
        have hjI : (j : Int) < (m' : Int) + 1 := by omega
        have hj0 : (0 : Int) ≤ j := by omega
        have fin : ∀ (hend : dA j ≠ dC j ∨ j = 0), (A = C ↔ dA j = dC j) ∧ (A < C ↔ dA j < dC j) := fun hend => HO.out j hj (fun i h1 h2 => HS.out i h1 h2) hend
        by_cases hgo : 0 < j ∧ dA j = dC j
        · obtain ⟨g1, g2⟩ := hgo
          have g1' : (0 : Int) < j := by omega
          have hwj : IntKind.i64.wrap ((j : Int) - 1) = (j : Int) - 1 := IntWalk.i64_in _ (by omega)
          have HS' : Hid (∀ i, j - 1 < i → i < m' + 1 → dA i = dC i) := fun i h1 h2 => by
            by_cases c : i = j
            · subst c; exact g2
            · exact HS.out i (by omega) h2
          rw [g2] at ca
          clear fin g2
          generalize ((dC j : Nat) : Int) = X at *
          go_wp2_with fail
          go_quiet (fail)
          go_wp2_with fail
          go_roundw
          case rel => exact ⟨j - 1, q + nq, by rw [show (j : Int) - 1 = ((j - 1 : Nat) : Int) by omega], by omega, HS'.out, by simp⟩
          case measure => simp only [intOf]; omega
        · have hend : dA j ≠ dC j ∨ j = 0 := by
            by_cases c : j = 0
            · exact .inr c
            · exact .inl (fun e => hgo ⟨by omega, e⟩)
          obtain ⟨f1, f2⟩ := fin hend
          have hBq := below_drewN hB7 q
          obtain ⟨X, hX⟩ : ∃ X, dA j = X := ⟨_, rfl⟩
          obtain ⟨Y, hY⟩ : ∃ Y, dC j = Y := ⟨_, rfl⟩
          rw [hX, hY] at f1 f2 hend
          rw [hX] at ca
          rw [hY] at cc
          clear fin hX hY hgo
          by_cases hxy : X = Y
          · subst hxy
            have hAC : A = C := f1.2 rfl
            have hj00 : j = 0 := by
              rcases hend with e | e
              · exact absurd rfl e
              · exact e
            subst hAC hj00
            clear f1 f2 hend hj0 hjI
            generalize ((X : Nat) : Int) = x at *
            have hjI : (0 : Int) < (m' : Int) + 1 := by omega
            go_wp2_with fail
            go_quiet (fail)
            go_wp2_with fail
            go_quiet (fail)
            go_wp2
            go_ret
            exact ⟨ret_bool (by first | (simp; done) | (simp; omega)), (by first | exact below_drewN hBq _ | exact below_drewN (below_drewN hBq _) _ | exact below_drewN hB7 _ | exact below_drewN (below_drewN hB7 _) _)⟩
          · have hAC : A ≠ C := fun e => hxy (f1.1 e)
            have hAC2 : A < C ↔ X < Y := f2
            have d1 : (((A : Nat) : Int) == ((C : Nat) : Int)) = false := by simp; omega
            have d2 : (((X : Nat) : Int) == ((Y : Nat) : Int)) = false := by simp; omega
            have d3 : decide (((A : Nat) : Int) < ((C : Nat) : Int)) = decide (((X : Nat) : Int) < ((Y : Nat) : Int)) := by
              rw [decide_eq_decide]; omega
            obtain ⟨αi, hα⟩ : ∃ x : Int, ((A : Nat) : Int) = x := ⟨_, rfl⟩
            clear f1 f2 hend hα
            by_cases hlt : X < Y
            · have hA1 : ((A : Nat) : Int) < ((C : Nat) : Int) := by have := hAC2.2 hlt; omega
              have hX1 : ((X : Nat) : Int) < ((Y : Nat) : Int) := by omega
              by_cases hz : j = 0
              · subst hz
                have hjI' : (0 : Int) < (m' : Int) + 1 := by omega
                go_wp2_with fail
                go_quiet (fail)
                go_wp2_with fail
                go_quiet (fail)
                go_wp2
                go_ret
                exact ⟨ret_bool (by first | (simp; done) | (simp; omega)), (by first | exact below_drewN hBq _ | exact below_drewN (below_drewN hBq _) _ | exact below_drewN hB7 _ | exact below_drewN (below_drewN hB7 _) _)⟩
              · have hzn : 0 < j := by omega
                have hz' : (0 : Int) < j := by omega
                go_wp2_with fail
                go_quiet (fail)
                go_wp2_with fail
                go_quiet (fail)
                go_wp2
                go_ret
                exact ⟨ret_bool (by first | (simp; done) | (simp; omega)), (by first | exact below_drewN hBq _ | exact below_drewN (below_drewN hBq _) _ | exact below_drewN hB7 _ | exact below_drewN (below_drewN hB7 _) _)⟩
            · have hA1 : ¬ ((A : Nat) : Int) < ((C : Nat) : Int) := fun q => hlt (hAC2.1 (by omega))
              have hX1 : ¬ ((X : Nat) : Int) < ((Y : Nat) : Int) := by omega
              have hA2 : decide (((A : Nat) : Int) < ((C : Nat) : Int)) = false := decide_eq_false hA1
              have hX2 : decide (((X : Nat) : Int) < ((Y : Nat) : Int)) = false := decide_eq_false hX1
              by_cases hz : j = 0
              · subst hz
                have hjI' : (0 : Int) < (m' : Int) + 1 := by omega
                go_wp2_with fail
                go_quiet (fail)
                go_wp2_with fail
                go_quiet (fail)
                go_wp2
                go_ret
                exact ⟨ret_bool (by first | (simp; done) | (simp; omega)), (by first | exact below_drewN hBq _ | exact below_drewN (below_drewN hBq _) _ | exact below_drewN hB7 _ | exact below_drewN (below_drewN hB7 _) _)⟩
              · have hzn : 0 < j := by omega
                have hz' : (0 : Int) < j := by omega
                go_wp2_with fail
                go_quiet (fail)
                go_wp2_with fail
                go_quiet (fail)
                go_wp2
                go_ret
                exact ⟨ret_bool (by first | (simp; done) | (simp; omega)), (by first | exact below_drewN hBq _ | exact below_drewN (below_drewN hBq _) _ | exact below_drewN hB7 _ | exact below_drewN (below_drewN hB7 _) _)⟩
    · have hnot : tok n s = false ∨ (tok n s = true ∧ (k < 0 ∨ n ≤ k)) := by
        cases ht : tok n s with
        | false => exact .inl rfl
        | true => exact .inr ⟨rfl, by
            by_cases c : k < 0
            · exact .inl c
            · exact .inr (by
                by_cases d : n ≤ k
                · exact d
                · exact absurd ⟨ht, by omega, by omega⟩ h)⟩
      rcases hnot with ht | ⟨ht, hk⟩
      · rw [ht]
        go_wp2_with fail
        refine (alive_any _).mono ?_; rintro e w6 ⟨rfl, hb6⟩
        have hB6 := hB4.trans (hb6.mono hB4.size)
        go_wp2
        go_ret
        exact ⟨rfl, hB6⟩
      · rw [ht]
        by_cases c : k < 0
        · go_wp2_with fail
          refine (alive_any _).mono ?_; rintro e w6 ⟨rfl, hb6⟩
          have hB6 := hB4.trans (hb6.mono hB4.size)
          go_wp2
          go_ret
          exact ⟨rfl, hB6⟩
        · have c' : n ≤ k := by omega
          go_wp2_with fail
          refine (alive_any _).mono ?_; rintro e w6 ⟨rfl, hb6⟩
          have hB6 := hB4.trans (hb6.mono hB4.size)
          go_wp2
          go_ret
          exact ⟨rfl, hB6⟩

set_option maxRecDepth 100000 in
theorem lifted (os : Os) (started : os.Started) (H : Type) (enc : TypeId × Value → H) :
    ReturnsInHanded {} Try.checked os 10 .any (Rows.fnDigitsOrderSpec.pre6 enc Try.prog Try.f10 Rows.fnDigitsOrderRow.domain false) (Rows.fnDigitsOrderSpec.post enc Try.prog Try.f10 false true false false) := by
  refine returnsInHanded_of_change (C := Try.checked) own started (by kernel_rfl) Try.func10
    (ChangeSpec.witness6 (enc := enc) (C := Try.checked) false ⟨#[], #[.slice none 0 0, .slice none 0 0], []⟩ 8 (by kernel_rfl) (by kernel_rfl) (by kernel_rfl) (by kernel_rfl)) ?_
  intro W base args ds gs before hval0 hW hcnd _
  have hval : ∀ (j : Nat) t v, Try.f10.params[j]? = some t → args[j]? = some v → Value.okWide Try.prog W .any base t v := hval0
  have hW' := hW
  obtain ⟨p, q, hA0, hV, rfl, hfz, hnd⟩ := hW
  have hA : DataW.TrodAll enc Try.prog W 0 (fun _ => true) true Try.f10.params.toList args.toList ds p := hA0
  rw [Try.params10] at hA hval
  obtain ⟨v0, vs0, d0, ds0, p0, q0, hargs, rfl, rfl, h0, r0⟩ := trodAll_cons hA
  obtain ⟨v1, vs1, d1, ds1, p1, q1, rfl, rfl, rfl, h1, r1⟩ := trodAll_cons r0
  obtain ⟨rfl, rfl, rfl⟩ := trodAll_nil r1
  obtain rfl : args = #[v0, v1] := by cases args; simp_all
  obtain ⟨rfl, rfl⟩ := trodVars_none hV
  obtain ⟨acode, lencode, capcode, rfl⟩ := okWide_slice Try.underlying22 (hval 0 22 v0 rfl rfl)
  have k0 := h0
  have lt0 : ∀ x ∈ p0, x.block < W.heap.size := by obtain ⟨m, hm⟩ := k0; exact DataW.trod_lt m _ _ _ hm
  obtain ⟨zcode, rowcode⟩ : ∃ zs, IsRow .u8 W acode lencode capcode zs := by
    obtain ⟨fuel, hf⟩ := h0
    rcases open_ints Try.underlying22 Try.underlying5 (by kernel_rfl) hf with ⟨hcs, _⟩ | ⟨x, l, c, zs, hcs, _, hl, hm, hz, _, hcell, hwz⟩
    · simp [Value.cells] at hcs
      obtain ⟨rfl, rfl, rfl⟩ := hcs
      exact ⟨[], .inl ⟨rfl, rfl, rfl, rfl⟩⟩
    · simp [Value.cells] at hcs
      obtain ⟨rfl, rfl, rfl⟩ := hcs
      exact ⟨zs, .inr ⟨_, rfl, hl, hm, by simpa using hz, hcell, hwz⟩⟩
  obtain ⟨amore, lenmore, capmore, rfl⟩ := okWide_slice Try.underlying22 (hval 1 22 v1 rfl rfl)
  have k1 := h1
  have lt1 : ∀ x ∈ p1, x.block < W.heap.size := by obtain ⟨m, hm⟩ := k1; exact DataW.trod_lt m _ _ _ hm
  obtain ⟨zmore, rowmore⟩ : ∃ zs, IsRow .u8 W amore lenmore capmore zs := by
    obtain ⟨fuel, hf⟩ := h1
    rcases open_ints Try.underlying22 Try.underlying5 (by kernel_rfl) hf with ⟨hcs, _⟩ | ⟨x, l, c, zs, hcs, _, hl, hm, hz, _, hcell, hwz⟩
    · simp [Value.cells] at hcs
      obtain ⟨rfl, rfl, rfl⟩ := hcs
      exact ⟨[], .inl ⟨rfl, rfl, rfl, rfl⟩⟩
    · simp [Value.cells] at hcs
      obtain ⟨rfl, rfl, rfl⟩ := hcs
      exact ⟨zs, .inr ⟨_, rfl, hl, hm, by simpa using hz, hcell, hwz⟩⟩
  clear hA0 hval0
  refine (walk acode lencode capcode zcode amore lenmore capmore zmore W rowcode rowmore).mono fun e W' ⟨he, bel⟩ => ?_
  subst he
  exact ⟨_, rfl, _, _, _, [], _, [], hW', trodAll_mk1 (shut_bool Try.underlying4 _), (trodAll_cons_mk (Below.trod laidOut (by kernel_rfl) (of_decide_eq_true (by kernel_rfl)) k0 bel lt0) (trodAll_cons_mk (Below.trod laidOut (by kernel_rfl) (of_decide_eq_true (by kernel_rfl)) k1 bel lt1) trodAll_mk0)), rfl, bel.frame _, fun h => by cases h⟩

theorem facts : joinedFacts Try.pinned.checked.prog 10 Try.f10 Rows.fnDigitsOrderSpec Rows.fnDigitsOrderRow = true := by
  simp only [joinedFacts, Bool.and_eq_true]
  repeat' apply And.intro
  all_goals first | rw [mayEnter_eq] | (rw [liftsFinal_eq]; kernel_rfl) | (rw [make_eq]; kernel_rfl) | kernel_rfl

theorem over : Rows.fnDigitsOrderRow.holds Try.pinned (OpenSpec.ofChange Rows.fnDigitsOrderSpec) :=
  OpenClaim.holds_of_wide 10 Try.f10 rfl rfl rfl rfl rfl rfl rfl ⟨rfl, rfl, rfl, rfl, rfl⟩ rfl rfl rfl rfl rfl (by kernel_rfl) Try.func10 facts
    (of_decide_eq_true (by kernel_rfl)) (by unfold Func.isWrapper; first | (rw [if_pos (by decide +kernel)]; kernel_rfl) | (rw [if_neg (by decide +kernel)]; exact ⟨rfl, rfl⟩))
    (fun os started H enc _ => lifted os started H enc)

theorem proved : Rows.FnDigitsOrderSaid := over
#print axioms proved
end Go.Proofs.Ytdkmghbbnkppcaa.lawDigitsOrder
