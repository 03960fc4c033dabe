/- Proves that FnNextDigits returns true for every code, and leaves the code as it was. No conditions. -/
import Derived.Test.YtdkmghbbnkppcaaHead
import Derived.Test.YtdkmghbbnkppcaaNumI
import Derived.Test.YtdkmghbbnkppcaaDrawD
import Derived.Test.YtdkmghbbnkppcaaGFun2
import Derived.Deep.RegionHeld3
set_option linter.unusedVariables false
namespace Go.Proofs.Ytdkmghbbnkppcaa.lawNextDigits

set_option maxRecDepth 4000
open Go.ChangeShapes Go.WideShapes Go.ChangeAt Go.RowKit Go.Joins

/-- the next digits, at the highest place that differs, or at the lowest one -/
theorem next_facts {n s : Int} {D : List Int} (hp : nextP n s D = true) : ∃ (N S m : Nat) (X : List Int), n = (N : Int) ∧ s = (S : Int) ∧ nextF n s D = X ∧ X.length = m ∧ D.length = m ∧ 1 ≤ m ∧ m ≤ 8 ∧ okF n s X = true ∧ numF n s X = numF n s D + 1 ∧ 0 ≤ numF n s D ∧ numF n s D < 60 ∧
    (∀ i, i < m → 0 ≤ D.getD i 0 ∧ D.getD i 0 ≤ 60) ∧
    ∀ k, k < m → (∀ i, k < i → i < m → X.getD i 0 = D.getD i 0) → (X.getD k 0 ≠ D.getD k 0 ∨ k = 0) → X.getD k 0 = D.getD k 0 + 1 := by
  unfold nextP at hp
  have hp' := of_decide_eq_true hp
  have ho : okF n s D = true := by
    rcases num_cases n s D with ⟨_, h⟩ | ⟨h, _⟩
    · omega
    · exact h
  obtain ⟨N, S, rfl, rfl, hN⟩ := tokN_of (ok_tok ho)
  obtain ⟨b1, b2, _⟩ := tokN_bd hN
  obtain ⟨hl, hpos, hd⟩ := (okF_iff hN).1 ho
  obtain ⟨m1, m8, _, hsc, m60, hend⟩ := bas_facts hN
  have hv := numF_yes (n := N) (s := S) ho
  rw [hv] at hp'
  have hlt : valD (basAt N S) (dAt D) (bmN N S) + 1 < N := by omega
  obtain ⟨x1, x2⟩ := dig_is hN hlt
  have hX : nextF N S D = castL (digN N S (valD (basAt N S) (dAt D) (bmN N S) + 1)) := by
    unfold nextF nextP
    rw [hp, if_pos rfl, hv, show ((valD (basAt N S) (dAt D) (bmN N S) : Nat) : Int) + 1 = ((valD (basAt N S) (dAt D) (bmN N S) + 1 : Nat) : Int) by omega, digF_yes hN hlt]
  obtain ⟨xl, xp, xd⟩ := (okF_iff hN).1 x1
  have xv := numF_yes (n := N) (s := S) x1
  refine ⟨N, S, bmN N S, _, rfl, rfl, hX, xl, hl, m1, m8, x1, by rw [x2, hv]; omega, by omega, by rw [hv]; omega, fun i hi => ⟨hpos i hi, by have := hd.1 i hi; have := m60 i hi; have := hpos i hi; unfold dAt at *; omega⟩, ?_⟩
  intro k hk hs he
  have hxv : valD (basAt N S) (dAt (castL (digN N S (valD (basAt N S) (dAt D) (bmN N S) + 1)))) (bmN N S) = valD (basAt N S) (dAt D) (bmN N S) + 1 := by
    rw [x2] at xv; omega
  generalize castL (digN N S (valD (basAt N S) (dAt D) (bmN N S) + 1)) = X at *
  have key := next_at hsc hd xd hxv hk (fun i a b => by unfold dAt; rw [hs i a b]) (by
    rcases he with e | e
    · left
      have p1 := xp k hk
      have p2 := hpos k hk
      unfold dAt; omega
    · exact .inr e)
  have p1 := xp k hk
  have p2 := hpos k hk
  unfold dAt at key
  omega

set_option maxHeartbeats 8000000 in
theorem walk (a : Option Addr) (len cap : Nat) (z : List Int) (w : World) (row : IsRow .u8 w a len cap z) :
    Calls Try.prog 8 #[.slice a len cap] w fun e w' => e = .returned (.bool true) ∧ Below w.heap.size w w' := by
  have hc := CodeIn.of row
  clear row
  by_cases hl : 1048576 < len
  · have hl' : (1048576 : Int) < len := by omega
    go_enter Try.func8, Try.ntmps8
    go_wp2
    go_ret
    exact ⟨rfl, (by repeat (first | exact Below.refl _ _ | assumption | (refine Below.trans ?_ (Below.mono (by assumption) (by first | omega | (simp <;> omega)))) | (refine Below.alloc ?_ (by first | omega | (simp <;> omega)) _) | (refine below_drewN ?_ _) | (refine Below.drew ?_) | (refine Below.setCell ?_ (by first | omega | (simp <;> omega)) _)))⟩
  · have hl' : ¬ (1048576 : Int) < len := by omega
    go_enter Try.func8, Try.ntmps8
    go_wp2_with fail
    refine (drawNextDigits_any a len cap _ hc (by omega)).mono ?_; rintro e w1 ⟨n, s, v, D, rfl, ho1, hl10, hb1⟩
    have t1 : Two (w1.alloc (.cells #[.int .i64 n, .int .i64 s] 24)) w1.heap.size (.int .i64 n) (.int .i64 s) 24 := Two.new _ _ _ _
    have ho1' : OwnL (w1.alloc (.cells #[.int .i64 n, .int .i64 s] 24)) w.heap.size v D := World.ownsRow.alloc ho1 _
    have hB1 : Below w.heap.size w (w1.alloc (.cells #[.int .i64 n, .int .i64 s] 24)) := hb1.alloc hb1.size _
    have hD : D.length ≤ 2000000 := by omega
    clear hc ho1 hb1
    go_wp2_with fail
    refine (nextDigits_any n s v D _ ho1'.reads hD).mono ?_; rintro e w2 ⟨v2, rfl, hx2, hb2⟩
    have t2 := t1.below hb2 t1.lt
    have ho2 := ho1'.below hb2
    have hB2 := hB1.trans (hb2.mono hB1.size)
    have c0 := t2.cell0
    have c1 := t2.cell1
    clear t1 ho1' hb2 hB1
    go_wp2_with fail
    refine (specNextDigits_any n s v D _ ho2.reads hD).mono ?_; rintro e w3 ⟨v3, rfl, hy3, hb3⟩
    have t3 := t2.below hb3 t2.lt
    have ho3 := ho2.below hb3
    have hx3 := hx2.below hb3
    have hB3 := hB2.trans (hb3.mono hB2.size)
    have hnl := nextF_len n s D
    clear t2 ho2 hx2 hb3 hB2 c0 c1
    go_wp2_with fail
    refine (sameInts_any v2 v3 _ _ _ hx3.reads hy3.reads (by omega) (by omega)).mono ?_; rintro e w4 ⟨rfl, nq, rfl⟩
    rw [decide_eq_true rfl]
    have t4 : Two (w3.drewN nq) w1.heap.size (.int .i64 n) (.int .i64 s) 24 := t3
    have ho4 : OwnL (w3.drewN nq) w.heap.size v D := ho3
    have hx4 : OwnL (w3.drewN nq) _ v2 (nextF n s D) := hx3
    have hB4 := below_drewN hB3 nq
    have hnn : (nextP n s D != nextP n s D) = false := by simp
    clear t3 ho3 hx3 hy3 hB3
    generalize w3.drewN nq = w4 at *
    cases hP : nextP n s D with
    | false =>
      have hF : nextF n s D = [] := by unfold nextF; rw [hP]; rfl
      rw [hF] at hx4
      obtain ⟨a2, cap2, rfl, _⟩ := hx4.reads.cells (N := 0) rfl
      rw [hP] at hnn
      clear hx4 ho4 hnl
      go_wp2_with fail
      refine (alive_any _).mono ?_; rintro e w6 ⟨rfl, hb6⟩
      have hB6 := hB4.trans (hb6.mono hB4.size)
      go_wp2
      go_ret
      exact ⟨rfl, hB6⟩
    | true =>
      rw [hP] at hnn
      obtain ⟨N, S, m, X, rfl, rfl, f1, f2, f3, f4, f5, f6, f7, f8, f9, f10, f11⟩ := next_facts hP
      rw [f1] at hx4
      have hox := fun w hv => digitsOk_any (N : Int) S v2 X w hv (by omega)
      rw [f6] at hox
      have hnx := fun w hv => numberOf_any (N : Int) S v2 X w hv (by omega)
      rw [f7] at hnx
      have hnd := fun w hv => numberOf_any (N : Int) S v D w hv hD
      generalize numF N S D = K at *
      obtain ⟨gX, capX, curX, rfl, hbX, hrX, _, hncX, _, hcX⟩ := hx4.rowI (N := m) f2 (by omega)
      obtain ⟨gD, capD, curD, rfl, hbD, hrD, _, hncD, _, hcD⟩ := ho4.rowI (N := m) f3 (by omega)
      have HCX : Hid (∀ j, j < m → w4.cell? ⟨gX, j, none⟩ = some (.int .i64 (X.getD j 0))) := fun j hj => by rw [hrX.cell, hcX j hj]
      have HCD : Hid (∀ j, j < m → w4.cell? ⟨gD, j, none⟩ = some (.int .i64 (D.getD j 0))) := fun j hj => by rw [hrD.cell, hcD j hj]
      have HRX : Hid (Reads w4 (.slice (some ⟨gX, 0, none⟩) m capX) X) := hx4.reads
      have HRD : Hid (Reads w4 (.slice (some ⟨gD, 0, none⟩) m capD) D) := ho4.reads
      have lX := hrX.lt
      have lD := hrD.lt
      have lt4 := t4.lt
      have HOX := Lib.hid hox
      have HNX := Lib.hid hnx
      have HND := Lib.hid hnd
      have H10 := Lib.hid f10
      have H11 := Lib.hid f11
      have hwK : IntKind.i64.wrap (K + 1) = K + 1 := IntWalk.i64_in _ (by omega)
      have hwm : IntKind.i64.wrap ((m : Int) - 1) = (m : Int) - 1 := IntWalk.i64_in _ (by omega)
      obtain ⟨m', rfl⟩ : ∃ m', m = m' + 1 := ⟨m - 1, by omega⟩
      clear hx4 ho4 hrX hrD hcX hcD hox hnx hnd f1 f2 f3 f6 f7 f10 f11 hP hwm hnl
      go_wp2_with fail
      go_loopw [9] (fun x wr => ∃ (j q : Nat), x = .int .i64 j ∧ j < m' + 1 ∧ Hid (∀ i, j < i → i < m' + 1 → X.getD i 0 = D.getD i 0) ∧ wr = w4.drewN q) (fun x _ => (intOf x).toNat)
      case atStart => exact ⟨m', 0, by go_num, by omega, fun i h1 h2 => by omega, rfl⟩
      case round =>
        obtain ⟨j, q, rfl, hj, HS, rfl⟩ := hrel
        have cx := HCX.out j hj
        have cd := HCD.out j hj
        have hjI : (j : Int) < (m' : Int) + 1 := by omega
        have hj0 : (0 : Int) ≤ j := by omega
        have fin := fun hend => H11.out j hj (fun i h1 h2 => HS.out i h1 h2) hend
        by_cases hgo : 0 < j ∧ X.getD j 0 = D.getD j 0
        · obtain ⟨g1, g2⟩ := hgo
          have g1' : (0 : Int) < j := by omega
          have hwj : IntKind.i64.wrap ((j : Int) - 1) = (j : Int) - 1 := IntWalk.i64_in _ (by omega)
          have HS' : Hid (∀ i, j - 1 < i → i < m' + 1 → X.getD i 0 = D.getD i 0) := fun i h1 h2 => by
            by_cases c : i = j
            · subst c; exact g2
            · exact HS.out i (by omega) h2
          rw [g2] at cx
          clear fin g2
          generalize D.getD j 0 = Y at *
          go_wp2_with fail
          go_quiet (fail)
          go_wp2_with fail
          go_roundw
          case rel => exact ⟨j - 1, q + nq, by rw [show (j : Int) - 1 = ((j - 1 : Nat) : Int) by omega], by omega, HS'.out, by simp⟩
          case measure => simp only [intOf]; omega
        · have hend : X.getD j 0 ≠ D.getD j 0 ∨ j = 0 := by
            by_cases c : j = 0
            · exact .inr c
            · exact .inl (fun e => hgo ⟨by omega, e⟩)
          have hfin := fin hend
          have h60 := H10.out j hj
          rw [hfin] at cx
          clear fin hgo
          generalize D.getD j 0 = Y at *
          have hwY : IntKind.i64.wrap (Y + 1) = Y + 1 := IntWalk.i64_in _ (by omega)
          have d1 : (Y + 1 == Y) = false := by rw [beq_eq_false_iff_ne]; omega
          clear h60 hend
          by_cases hz : j = 0
          · subst hz
            have hjI' : (0 : Int) < (m' : Int) + 1 := by omega
            go_wp2_with fail
            go_quiet (fail)
            have tq : Two (w4.drewN (q + nq)) w1.heap.size (.int .i64 N) (.int .i64 S) 24 := t4
            have hBq : Below w.heap.size w (w4.drewN (q + nq)) := below_drewN hB4 (q + nq)
            have hRXq : Reads (w4.drewN (q + nq)) (.slice (some ⟨gX, 0, none⟩) (m' + 1) capX) X := HRX.out
            have hRDq : Reads (w4.drewN (q + nq)) (.slice (some ⟨gD, 0, none⟩) (m' + 1) capD) D := HRD.out
            have cxq : (w4.drewN (q + nq)).cell? ⟨gX, 0, none⟩ = some (.int .i64 (Y + 1)) := cx
            have cdq : (w4.drewN (q + nq)).cell? ⟨gD, 0, none⟩ = some (.int .i64 Y) := cd
            have lXq : gX < (w4.drewN (q + nq)).heap.size := lX
            have lDq : gD < (w4.drewN (q + nq)).heap.size := lD
            try simp only [World.drewN_drewN]
            generalize w4.drewN (q + nq) = wq at *
            have c0 := tq.cell0
            have c1 := tq.cell1
            have ltq := tq.lt
            clear tq
            go_wp2_with fail
            go_region_held3 (fun w' => w'.cell? ⟨w1.heap.size, 0, none⟩ = some (.int .i64 N) ∧ w'.cell? ⟨w1.heap.size, 1, none⟩ = some (.int .i64 S) ∧ w'.cell? ⟨gX, 0, none⟩ = some (.int .i64 (Y + 1)) ∧ w'.cell? ⟨gD, 0, none⟩ = some (.int .i64 Y))
              (first | go_keep | exact ⟨z0, z1, z2, z3⟩)
              (first
                | (go_at_call 34; have hh := (show Below wq.heap.size wq _ from (Below.drew (Below.refl _ _))); (with_reducible refine (HOX.out _ (hRXq.below hh)).mono ?_); rintro e w' ⟨rfl, hb'⟩; have hBB' := hh.trans (hb'.mono hh.size); have z0 := (hBB'.cell (p := ⟨w1.heap.size, 0, none⟩) ltq).trans c0; have z1 := (hBB'.cell (p := ⟨w1.heap.size, 1, none⟩) ltq).trans c1; have z2 := (hBB'.cell (p := ⟨gX, 0, none⟩) lXq).trans cxq; have z3 := (hBB'.cell (p := ⟨gD, 0, none⟩) lDq).trans cdq)
                | (go_at_call 35; have hh := (show Below wq.heap.size wq _ from (by first | exact hBB' | exact Below.drew (Below.refl _ _))); (first | (with_reducible refine (HNX.out _ (hRXq.below hh)).mono ?_) | (with_reducible refine (HND.out _ (hRDq.below hh)).mono ?_)); rintro e w' ⟨rfl, hb'⟩; have hBB' := hh.trans (hb'.mono hh.size); have z0 := (hBB'.cell (p := ⟨w1.heap.size, 0, none⟩) ltq).trans c0; have z1 := (hBB'.cell (p := ⟨w1.heap.size, 1, none⟩) ltq).trans c1; have z2 := (hBB'.cell (p := ⟨gX, 0, none⟩) lXq).trans cxq; have z3 := (hBB'.cell (p := ⟨gD, 0, none⟩) lDq).trans cdq))
            all_goals
              have hBz := hBq.trans (hBB'.mono hBq.size)
              go_wp2
              go_ret
              exact ⟨ret_bool (by first | (simp; done) | (simp; omega)), hBz⟩
          · have hzn : 0 < j := by omega
            have hz' : (0 : Int) < j := by omega
            go_wp2_with fail
            go_quiet (fail)
            have tq : Two (w4.drewN (q + nq)) w1.heap.size (.int .i64 N) (.int .i64 S) 24 := t4
            have hBq : Below w.heap.size w (w4.drewN (q + nq)) := below_drewN hB4 (q + nq)
            have hRXq : Reads (w4.drewN (q + nq)) (.slice (some ⟨gX, 0, none⟩) (m' + 1) capX) X := HRX.out
            have hRDq : Reads (w4.drewN (q + nq)) (.slice (some ⟨gD, 0, none⟩) (m' + 1) capD) D := HRD.out
            have cxq : (w4.drewN (q + nq)).cell? ⟨gX, j, none⟩ = some (.int .i64 (Y + 1)) := cx
            have cdq : (w4.drewN (q + nq)).cell? ⟨gD, j, none⟩ = some (.int .i64 Y) := cd
            have lXq : gX < (w4.drewN (q + nq)).heap.size := lX
            have lDq : gD < (w4.drewN (q + nq)).heap.size := lD
            try simp only [World.drewN_drewN]
            generalize w4.drewN (q + nq) = wq at *
            have c0 := tq.cell0
            have c1 := tq.cell1
            have ltq := tq.lt
            clear tq
            go_wp2_with fail
            go_region_held3 (fun w' => w'.cell? ⟨w1.heap.size, 0, none⟩ = some (.int .i64 N) ∧ w'.cell? ⟨w1.heap.size, 1, none⟩ = some (.int .i64 S) ∧ w'.cell? ⟨gX, j, none⟩ = some (.int .i64 (Y + 1)) ∧ w'.cell? ⟨gD, j, none⟩ = some (.int .i64 Y))
              (first | go_keep | exact ⟨z0, z1, z2, z3⟩)
              (first
                | (go_at_call 34; have hh := (show Below wq.heap.size wq _ from (Below.drew (Below.refl _ _))); (with_reducible refine (HOX.out _ (hRXq.below hh)).mono ?_); rintro e w' ⟨rfl, hb'⟩; have hBB' := hh.trans (hb'.mono hh.size); have z0 := (hBB'.cell (p := ⟨w1.heap.size, 0, none⟩) ltq).trans c0; have z1 := (hBB'.cell (p := ⟨w1.heap.size, 1, none⟩) ltq).trans c1; have z2 := (hBB'.cell (p := ⟨gX, j, none⟩) lXq).trans cxq; have z3 := (hBB'.cell (p := ⟨gD, j, none⟩) lDq).trans cdq)
                | (go_at_call 35; have hh := (show Below wq.heap.size wq _ from (by first | exact hBB' | exact Below.drew (Below.refl _ _))); (first | (with_reducible refine (HNX.out _ (hRXq.below hh)).mono ?_) | (with_reducible refine (HND.out _ (hRDq.below hh)).mono ?_)); rintro e w' ⟨rfl, hb'⟩; have hBB' := hh.trans (hb'.mono hh.size); have z0 := (hBB'.cell (p := ⟨w1.heap.size, 0, none⟩) ltq).trans c0; have z1 := (hBB'.cell (p := ⟨w1.heap.size, 1, none⟩) ltq).trans c1; have z2 := (hBB'.cell (p := ⟨gX, j, none⟩) lXq).trans cxq; have z3 := (hBB'.cell (p := ⟨gD, j, none⟩) lDq).trans cdq))
            all_goals
              have hBz := hBq.trans (hBB'.mono hBq.size)
              go_wp2
              go_ret
              exact ⟨ret_bool (by first | (simp; done) | (simp; omega)), hBz⟩

set_option maxRecDepth 100000 in
theorem lifted (os : Os) (started : os.Started) (H : Type) (enc : TypeId × Value → H) :
    ReturnsInHanded {} Try.checked os 8 .any (Rows.fnNextDigitsSpec.pre6 enc Try.prog Try.f8 Rows.fnNextDigitsRow.domain false) (Rows.fnNextDigitsSpec.post enc Try.prog Try.f8 false true false false) := by
  refine returnsInHanded_of_change (C := Try.checked) own started (by kernel_rfl) Try.func8
    (ChangeSpec.witness6 (enc := enc) (C := Try.checked) false ⟨#[], #[.slice none 0 0], []⟩ 8 (by kernel_rfl) (by kernel_rfl) (by kernel_rfl) (by kernel_rfl)) ?_
  intro W base args ds gs before hval0 hW hcnd _
  have hval : ∀ (j : Nat) t v, Try.f8.params[j]? = some t → args[j]? = some v → Value.okWide Try.prog W .any base t v := hval0
  have hW' := hW
  obtain ⟨p, q, hA0, hV, rfl, hfz, hnd⟩ := hW
  have hA : DataW.TrodAll enc Try.prog W 0 (fun _ => true) true Try.f8.params.toList args.toList ds p := hA0
  rw [Try.params8] at hA hval
  obtain ⟨v0, vs0, d0, ds0, p0, q0, hargs, rfl, rfl, h0, r0⟩ := trodAll_cons hA
  obtain ⟨rfl, rfl, rfl⟩ := trodAll_nil r0
  obtain rfl : args = #[v0] := by cases args; simp_all
  obtain ⟨rfl, rfl⟩ := trodVars_none hV
  obtain ⟨acode, lencode, capcode, rfl⟩ := okWide_slice Try.underlying22 (hval 0 22 v0 rfl rfl)
  have k0 := h0
  have lt0 : ∀ x ∈ p0, x.block < W.heap.size := by obtain ⟨m, hm⟩ := k0; exact DataW.trod_lt m _ _ _ hm
  obtain ⟨zcode, rowcode⟩ : ∃ zs, IsRow .u8 W acode lencode capcode zs := by
    obtain ⟨fuel, hf⟩ := h0
    rcases open_ints Try.underlying22 Try.underlying5 (by kernel_rfl) hf with ⟨hcs, _⟩ | ⟨x, l, c, zs, hcs, _, hl, hm, hz, _, hcell, hwz⟩
    · simp [Value.cells] at hcs
      obtain ⟨rfl, rfl, rfl⟩ := hcs
      exact ⟨[], .inl ⟨rfl, rfl, rfl, rfl⟩⟩
    · simp [Value.cells] at hcs
      obtain ⟨rfl, rfl, rfl⟩ := hcs
      exact ⟨zs, .inr ⟨_, rfl, hl, hm, by simpa using hz, hcell, hwz⟩⟩
  clear hA0 hval0
  refine (walk acode lencode capcode zcode W rowcode).mono fun e W' ⟨he, bel⟩ => ?_
  subst he
  exact ⟨_, rfl, _, _, _, [], _, [], hW', trodAll_mk1 (shut_bool Try.underlying4 _), (trodAll_cons_mk (Below.trod laidOut (by kernel_rfl) (of_decide_eq_true (by kernel_rfl)) k0 bel lt0) trodAll_mk0), rfl, bel.frame _, fun h => by cases h⟩

theorem facts : joinedFacts Try.pinned.checked.prog 8 Try.f8 Rows.fnNextDigitsSpec Rows.fnNextDigitsRow = true := by
  simp only [joinedFacts, Bool.and_eq_true]
  repeat' apply And.intro
  all_goals first | rw [mayEnter_eq] | (rw [liftsFinal_eq]; kernel_rfl) | (rw [make_eq]; kernel_rfl) | kernel_rfl

theorem over : Rows.fnNextDigitsRow.holds Try.pinned (OpenSpec.ofChange Rows.fnNextDigitsSpec) :=
  OpenClaim.holds_of_wide 8 Try.f8 rfl rfl rfl rfl rfl rfl rfl ⟨rfl, rfl, rfl, rfl, rfl⟩ rfl rfl rfl rfl rfl (by kernel_rfl) Try.func8 facts
    (of_decide_eq_true (by kernel_rfl)) (by unfold Func.isWrapper; first | (rw [if_pos (by decide +kernel)]; kernel_rfl) | (rw [if_neg (by decide +kernel)]; exact ⟨rfl, rfl⟩))
    (fun os started H enc _ => lifted os started H enc)

theorem proved : Rows.FnNextDigitsSaid := over
#print axioms proved
end Go.Proofs.Ytdkmghbbnkppcaa.lawNextDigits
