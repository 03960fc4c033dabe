/- Proves that FnLongYear returns true for every code, and leaves the code as it was. No conditions. -/
import Derived.Test.YtokmmbmkfpfmgaaHead
import Derived.Test.YtokmmbmkfpfmgaaYearI
import Derived.Test.YtokmmbmkfpfmgaaDrawY
import Derived.Test.YtokmmbmkfpfmgaaGFun2
import Derived.Test.YtokmmbmkfpfmgaaGFun
import Derived.Deep.RegionHeld3
set_option linter.unusedVariables false
set_option linter.unusedSimpArgs false
namespace Go.Proofs.Ytokmmbmkfpfmgaa.lawLongYear
set_option maxRecDepth 4000

set_option maxRecDepth 4000
open Go.ChangeShapes Go.WideShapes Go.ChangeAt Go.RowKit Go.Joins

set_option maxHeartbeats 4000000 in
theorem walk (a : Option Addr) (len cap : Nat) (z : List Int) (w : World) (row : IsRow .u8 w a len cap z) :
    Calls Try.prog 3 #[.slice a len cap] w fun e w' => e = .returned (.bool true) ∧ Below w.heap.size w w' := by
  
  have hc := CodeIn.of row
  clear row
  by_cases hl : 1048576 < len
  · have hl' : (1048576 : Int) < len := by omega
    go_enter Try.func3, Try.ntmps3
    go_wp2
    go_ret
    exact ⟨rfl, (by repeat (first | exact Below.refl _ _ | assumption | (refine Below.trans ?_ (Below.mono (by assumption) (by first | omega | (simp <;> omega)))) | (refine Below.alloc ?_ (by first | omega | (simp <;> omega)) _) | (refine below_drewN ?_ _) | (refine Below.drew ?_) | (refine Below.setCell ?_ (by first | omega | (simp <;> omega)) _)))⟩
  · have hl' : ¬ (1048576 : Int) < len := by omega
    go_enter Try.func3, Try.ntmps3
    go_wp2_with fail
    refine (drawLongYear_any a len cap _ hc (by omega)).mono ?_; rintro e w1 ⟨n, s, y, rfl, hb1⟩
    have hz1 := hb1.size
    try simp at hz1
    go_wp2_with fail
    refine (longYear_any _ _ _ _).mono ?_; rintro e w2 ⟨rfl, hb2⟩
    have hz2 := hb2.size
    try simp at hz2
    have t2 : Two w2 (w1.heap.size) (.int .i64 n) (.int .i64 s) 24 := Two.below (by repeat (first | assumption | exact Two.new' _ _ _ _ _ (by simp) | refine Two.alloc ?_ _ | refine Two.drewN ?_ _)) hb2 (by first | omega | (simp <;> omega))
    have hlt2 : (w1.heap.size) < w2.heap.size := t2.lt
    have hnt2 : ¬ (w1.heap.size) = w2.heap.size := Nat.ne_of_lt hlt2
    have t2c := t2.cell0
    have t2d := t2.cell1
    go_wp2_with fail
    refine (specLongYear_any _ _ _ _).mono ?_; rintro e w3 ⟨rfl, hb3⟩
    have hz3 := hb3.size
    try simp at hz3
    have t3 : Two w3 (w1.heap.size) (.int .i64 n) (.int .i64 s) 24 := Two.below (by repeat (first | assumption | exact Two.new' _ _ _ _ _ (by simp) | refine Two.alloc ?_ _ | refine Two.drewN ?_ _)) hb3 (by first | omega | (simp <;> omega))
    have hlt3 : (w1.heap.size) < w3.heap.size := t3.lt
    have hnt3 : ¬ (w1.heap.size) = w3.heap.size := Nat.ne_of_lt hlt3
    have t3c := t3.cell0
    have t3d := t3.cell1
    have hB3 : Below w.heap.size w w3 := (by repeat (first | exact Below.refl _ _ | assumption | (refine Below.trans ?_ (Below.mono (by assumption) (by first | omega | (simp <;> omega)))) | (refine Below.alloc ?_ (by first | omega | (simp <;> omega)) _) | (refine below_drewN ?_ _) | (refine Below.drew ?_) | (refine Below.setCell ?_ (by first | omega | (simp <;> omega)) _)))
    have hnb : (lyF n s y != lyF n s y) = false := by simp
    have HT := Lib.hid (fun w => specTurnOk_any n s w)
    clear hb1 hb2 hb3
    by_cases h : tok n s = true ∧ 0 ≤ y ∧ y ≤ 199
    · obtain ⟨ht, y0, y1⟩ := h
      rw [ht] at HT
      obtain ⟨N, S, rfl, rfl, hN⟩ := tokN_of ht
      obtain ⟨Y, rfl⟩ := Int.eq_ofNat_of_zero_le y0
      obtain ⟨b1, b2, b3, b4, _⟩ := tokN_bd hN
      have HY := Lib.hid (fun (k : Nat) (hk : k ≤ 199) w => (longYear_any (N : Int) (S : Int) (k : Int) w).mono (R' := fun e w' => e = .returned (.bool (letN N S k)) ∧ Below w.heap.size w w') (fun e w' h => by rw [lyF_yes hN hk] at h; exact h))
      have H0 := Lib.hid (fun w => HY.out 0 (by omega) w)
      rw [let_first hN] at H0
      have HL := Lib.hid (fun w => HY.out (N - 1) (by omega) w)
      rw [let_last hN] at HL
      have eN : ((N - 1 : Nat) : Int) = (N : Int) - 1 := by omega
      rw [eN] at HL
      have hwN : IntKind.i64.wrap ((N : Int) - 1) = (N : Int) - 1 := IntWalk.i64_in _ (by omega)
      have hwY : IntKind.i64.wrap ((Y : Int) + (N : Int)) = (Y : Int) + (N : Int) := IntWalk.i64_in _ (by omega)
      rw [lyF_yes hN (by omega)] at hnb ⊢
      have g0 : ¬ (Y : Int) < 0 := by omega
      have g1 : ¬ (200 : Int) ≤ (Y : Int) := by omega
      by_cases hp : Y + N ≤ 199
      · have HP := Lib.hid (fun w => HY.out (Y + N) (by omega) w)
        rw [let_turn, Int.natCast_add] at HP
        have hp1 : ¬ (200 : Int) ≤ (Y : Int) + (N : Int) := by omega
        have hp2 : decide ((200 : Int) ≤ (Y : Int) + (N : Int)) = false := decide_eq_false hp1
        generalize letN N S Y = B at *
        have bb : (B == B) = true := by simp
        clear ht hN HY eN
        go_wp2_with fail
        refine (HT.out _).mono ?_; rintro e w4 ⟨rfl, hb4⟩
        have t4 := t3.below hb4 t3.lt
        have t4c := t4.cell0
        have t4d := t4.cell1
        have hB4 := hB3.trans (hb4.mono hB3.size)
        clear t3 t3c t3d hb4 hB3
        go_wp2_with fail
        refine (HP.out _).mono ?_; rintro e w5 ⟨rfl, hb5⟩
        have t5 := t4.below hb5 t4.lt
        have t5c := t5.cell0
        have t5d := t5.cell1
        have hB5 := hB4.trans (hb5.mono hB4.size)
        clear t4 t4c t4d hb5 hB4
        go_wp2_with fail
        refine (H0.out _).mono ?_; rintro e w6 ⟨rfl, hb6⟩
        have t6 := t5.below hb6 t5.lt
        have t6c := t6.cell0
        have t6d := t6.cell1
        have hB6 := hB5.trans (hb6.mono hB5.size)
        clear t5 t5c t5d hb6 hB5
        go_wp2_with fail
        refine (HL.out _).mono ?_; rintro e w7 ⟨rfl, hb7⟩
        have t7 := t6.below hb7 t6.lt
        have t7c := t7.cell0
        have t7d := t7.cell1
        have hB7 := hB6.trans (hb7.mono hB6.size)
        clear t6 t6c t6d hb7 hB6
        go_wp2
        go_ret
        first | exact ⟨rfl, hB7⟩ | exact ⟨ret_bool (by simp), hB7⟩
      · have hp1 : (200 : Int) ≤ (Y : Int) + (N : Int) := by omega
        generalize letN N S Y = B at *
        clear ht hN HY eN
        go_wp2_with fail
        refine (HT.out _).mono ?_; rintro e w4 ⟨rfl, hb4⟩
        have t4 := t3.below hb4 t3.lt
        have t4c := t4.cell0
        have t4d := t4.cell1
        have hB4 := hB3.trans (hb4.mono hB3.size)
        clear t3 t3c t3d hb4 hB3
        go_wp2_with fail
        refine (H0.out _).mono ?_; rintro e w5 ⟨rfl, hb5⟩
        have t5 := t4.below hb5 t4.lt
        have t5c := t5.cell0
        have t5d := t5.cell1
        have hB5 := hB4.trans (hb5.mono hB4.size)
        clear t4 t4c t4d hb5 hB4
        go_wp2_with fail
        refine (HL.out _).mono ?_; rintro e w6 ⟨rfl, hb6⟩
        have t6 := t5.below hb6 t5.lt
        have t6c := t6.cell0
        have t6d := t6.cell1
        have hB6 := hB5.trans (hb6.mono hB5.size)
        clear t5 t5c t5d hb6 hB5
        go_wp2
        go_ret
        first | exact ⟨rfl, hB6⟩ | exact ⟨ret_bool (by simp), hB6⟩
    · rw [lyF_no h] at hnb ⊢
      by_cases ht : tok n s = true
      · rw [ht] at HT
        by_cases y0 : y < 0
        · go_wp2_with fail
          refine (HT.out _).mono ?_; rintro e w4 ⟨rfl, hb4⟩
          have t4 := t3.below hb4 t3.lt
          have t4c := t4.cell0
          have t4d := t4.cell1
          have hB4 := hB3.trans (hb4.mono hB3.size)
          clear t3 t3c t3d hb4 hB3
          go_wp2_with fail
          refine (alive_any _).mono ?_; rintro e w9 ⟨rfl, hb9⟩
          have hB9 := hB4.trans (hb9.mono hB4.size)
          go_wp2
          go_ret
          exact ⟨rfl, hB9⟩
        · have y1 : (200 : Int) ≤ y := by
            by_cases c : (200 : Int) ≤ y
            · exact c
            · exact absurd ⟨ht, by omega, by omega⟩ h
          have y0' : decide (y < 0) = false := decide_eq_false y0
          go_wp2_with fail
          refine (HT.out _).mono ?_; rintro e w4 ⟨rfl, hb4⟩
          have t4 := t3.below hb4 t3.lt
          have t4c := t4.cell0
          have t4d := t4.cell1
          have hB4 := hB3.trans (hb4.mono hB3.size)
          clear t3 t3c t3d hb4 hB3
          go_wp2_with fail
          refine (alive_any _).mono ?_; rintro e w9 ⟨rfl, hb9⟩
          have hB9 := hB4.trans (hb9.mono hB4.size)
          go_wp2
          go_ret
          exact ⟨rfl, hB9⟩
      · have ht' : tok n s = false := by simpa using ht
        rw [ht'] at HT
        go_wp2_with fail
        refine (HT.out _).mono ?_; rintro e w4 ⟨rfl, hb4⟩
        have t4 := t3.below hb4 t3.lt
        have t4c := t4.cell0
        have t4d := t4.cell1
        have hB4 := hB3.trans (hb4.mono hB3.size)
        clear t3 t3c t3d hb4 hB3
        go_wp2_with fail
        refine (alive_any _).mono ?_; rintro e w9 ⟨rfl, hb9⟩
        have hB9 := hB4.trans (hb9.mono hB4.size)
        go_wp2
        go_ret
        exact ⟨rfl, hB9⟩

set_option maxRecDepth 100000 in
theorem lifted (os : Os) (started : os.Started) (H : Type) (enc : TypeId × Value → H) :
    ReturnsInHanded {} Try.checked os 3 .any (Rows.fnLongYearSpec.pre6 enc Try.prog Try.f3 Rows.fnLongYearRow.domain false) (Rows.fnLongYearSpec.post enc Try.prog Try.f3 false true false false) := by
  refine returnsInHanded_of_change (C := Try.checked) own started (by kernel_rfl) Try.func3
    (ChangeSpec.witness6 (enc := enc) (C := Try.checked) false ⟨#[], #[.slice none 0 0], []⟩ 8 (by kernel_rfl) (by kernel_rfl) (by kernel_rfl) (by kernel_rfl)) ?_
  intro W base args ds gs before hval0 hW hcnd _
  have hval : ∀ (j : Nat) t v, Try.f3.params[j]? = some t → args[j]? = some v → Value.okWide Try.prog W .any base t v := hval0
  have hW' := hW
  obtain ⟨p, q, hA0, hV, rfl, hfz, hnd⟩ := hW
  have hA : DataW.TrodAll enc Try.prog W 0 (fun _ => true) true Try.f3.params.toList args.toList ds p := hA0
  rw [Try.params3] at hA hval
  obtain ⟨v0, vs0, d0, ds0, p0, q0, hargs, rfl, rfl, h0, r0⟩ := trodAll_cons hA
  obtain ⟨rfl, rfl, rfl⟩ := trodAll_nil r0
  obtain rfl : args = #[v0] := by cases args; simp_all
  obtain ⟨rfl, rfl⟩ := trodVars_none hV
  obtain ⟨acode, lencode, capcode, rfl⟩ := okWide_slice Try.underlying22 (hval 0 22 v0 rfl rfl)
  have k0 := h0
  have lt0 : ∀ x ∈ p0, x.block < W.heap.size := by obtain ⟨m, hm⟩ := k0; exact DataW.trod_lt m _ _ _ hm
  obtain ⟨zcode, rowcode⟩ : ∃ zs, IsRow .u8 W acode lencode capcode zs := by
    obtain ⟨fuel, hf⟩ := h0
    rcases open_ints Try.underlying22 Try.underlying5 (by kernel_rfl) hf with ⟨hcs, _⟩ | ⟨x, l, c, zs, hcs, _, hl, hm, hz, _, hcell, hwz⟩
    · simp [Value.cells] at hcs
      obtain ⟨rfl, rfl, rfl⟩ := hcs
      exact ⟨[], .inl ⟨rfl, rfl, rfl, rfl⟩⟩
    · simp [Value.cells] at hcs
      obtain ⟨rfl, rfl, rfl⟩ := hcs
      exact ⟨zs, .inr ⟨_, rfl, hl, hm, by simpa using hz, hcell, hwz⟩⟩
  clear hA0 hval0
  refine (walk acode lencode capcode zcode W rowcode).mono fun e W' ⟨he, bel⟩ => ?_
  subst he
  exact ⟨_, rfl, _, _, _, [], _, [], hW', trodAll_mk1 (shut_bool Try.underlying4 _), (trodAll_cons_mk (Below.trod laidOut (by kernel_rfl) (of_decide_eq_true (by kernel_rfl)) k0 bel lt0) trodAll_mk0), rfl, bel.frame _, fun h => by cases h⟩

theorem facts : joinedFacts Try.pinned.checked.prog 3 Try.f3 Rows.fnLongYearSpec Rows.fnLongYearRow = true := by
  simp only [joinedFacts, Bool.and_eq_true]
  repeat' apply And.intro
  all_goals first | rw [mayEnter_eq] | (rw [liftsFinal_eq]; kernel_rfl) | (rw [make_eq]; kernel_rfl) | kernel_rfl

theorem over : Rows.fnLongYearRow.holds Try.pinned (OpenSpec.ofChange Rows.fnLongYearSpec) :=
  OpenClaim.holds_of_wide 3 Try.f3 rfl rfl rfl rfl rfl rfl rfl ⟨rfl, rfl, rfl, rfl, rfl⟩ rfl rfl rfl rfl rfl (by kernel_rfl) Try.func3 facts
    (of_decide_eq_true (by kernel_rfl)) (by unfold Func.isWrapper; first | (rw [if_pos (by decide +kernel)]; kernel_rfl) | (rw [if_neg (by decide +kernel)]; exact ⟨rfl, rfl⟩))
    (fun os started H enc _ => lifted os started H enc)

theorem proved : Rows.FnLongYearSaid := over
#print axioms proved
end Go.Proofs.Ytokmmbmkfpfmgaa.lawLongYear
