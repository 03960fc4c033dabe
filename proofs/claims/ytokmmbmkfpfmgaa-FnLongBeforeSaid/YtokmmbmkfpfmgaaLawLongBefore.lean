/- Proves that FnLongBefore returns true for every code, and leaves the code as it was. No conditions. -/
import Derived.Test.YtokmmbmkfpfmgaaHead
import Derived.Test.YtokmmbmkfpfmgaaYearI
import Derived.Test.YtokmmbmkfpfmgaaDrawY
import Derived.Test.YtokmmbmkfpfmgaaGFun2
import Derived.Test.YtokmmbmkfpfmgaaGFun
import Derived.Deep.RegionHeld3
set_option linter.unusedVariables false
set_option linter.unusedSimpArgs false
namespace Go.Proofs.Ytokmmbmkfpfmgaa.lawLongBefore
set_option maxRecDepth 4000

set_option maxRecDepth 4000
open Go.ChangeShapes Go.WideShapes Go.ChangeAt Go.RowKit Go.Joins

set_option maxHeartbeats 4000000 in
theorem walk (a : Option Addr) (len cap : Nat) (z : List Int) (w : World) (row : IsRow .u8 w a len cap z) :
    Calls Try.prog 4 #[.slice a len cap] w fun e w' => e = .returned (.bool true) ∧ Below w.heap.size w w' := by
  
  have hc := CodeIn.of row
  clear row
  by_cases hl : 1048576 < len
  · have hl' : (1048576 : Int) < len := by omega
    go_enter Try.func4, Try.ntmps4
    go_wp2
    go_ret
    exact ⟨rfl, (by repeat (first | exact Below.refl _ _ | assumption | (refine Below.trans ?_ (Below.mono (by assumption) (by first | omega | (simp <;> omega)))) | (refine Below.alloc ?_ (by first | omega | (simp <;> omega)) _) | (refine below_drewN ?_ _) | (refine Below.drew ?_) | (refine Below.setCell ?_ (by first | omega | (simp <;> omega)) _)))⟩
  · have hl' : ¬ (1048576 : Int) < len := by omega
    go_enter Try.func4, Try.ntmps4
    go_wp2_with fail
    refine (drawLongBefore_any a len cap _ hc (by omega)).mono ?_; rintro e w1 ⟨n, s, y, rfl, hb1⟩
    have hz1 := hb1.size
    try simp at hz1
    go_wp2_with fail
    refine (longBefore_any _ _ _ _).mono ?_; rintro e w2 ⟨rfl, hb2⟩
    have hz2 := hb2.size
    try simp at hz2
    have t2 : Two w2 (w1.heap.size) (.int .i64 n) (.int .i64 s) 24 := Two.below (by repeat (first | assumption | exact Two.new' _ _ _ _ _ (by simp) | refine Two.alloc ?_ _ | refine Two.drewN ?_ _)) hb2 (by first | omega | (simp <;> omega))
    have hlt2 : (w1.heap.size) < w2.heap.size := t2.lt
    have hnt2 : ¬ (w1.heap.size) = w2.heap.size := Nat.ne_of_lt hlt2
    have t2c := t2.cell0
    have t2d := t2.cell1
    go_wp2_with fail
    refine (specLongBefore_any _ _ _ _).mono ?_; rintro e w3 ⟨rfl, hb3⟩
    have hz3 := hb3.size
    try simp at hz3
    have t3 : Two w3 (w1.heap.size) (.int .i64 n) (.int .i64 s) 24 := Two.below (by repeat (first | assumption | exact Two.new' _ _ _ _ _ (by simp) | refine Two.alloc ?_ _ | refine Two.drewN ?_ _)) hb3 (by first | omega | (simp <;> omega))
    have hlt3 : (w1.heap.size) < w3.heap.size := t3.lt
    have hnt3 : ¬ (w1.heap.size) = w3.heap.size := Nat.ne_of_lt hlt3
    have t3c := t3.cell0
    have t3d := t3.cell1
    have hB3 : Below w.heap.size w w3 := (by repeat (first | exact Below.refl _ _ | assumption | (refine Below.trans ?_ (Below.mono (by assumption) (by first | omega | (simp <;> omega)))) | (refine Below.alloc ?_ (by first | omega | (simp <;> omega)) _) | (refine below_drewN ?_ _) | (refine Below.drew ?_) | (refine Below.setCell ?_ (by first | omega | (simp <;> omega)) _)))
    have hnb : (lbF n s y != lbF n s y) = false := by simp
    clear hb1 hb2 hb3
    by_cases h : tok n s = true ∧ 0 ≤ y ∧ y ≤ 200
    · obtain ⟨ht, y0, y1⟩ := h
      obtain ⟨N, S, rfl, rfl, hN⟩ := tokN_of ht
      obtain ⟨Y, rfl⟩ := Int.eq_ofNat_of_zero_le y0
      obtain ⟨b1, b2, b3, b4, _⟩ := tokN_bd hN
      have HY := Lib.hid (fun w => longBefore_any (N : Int) (S : Int) ((Y : Int) + 1) w)
      have H1 := Lib.hid (fun w => (longBefore_any (N : Int) (S : Int) ((1 : Nat) : Int) w).mono (R' := fun e w' => e = .returned (.int .i64 0) ∧ Below w.heap.size w w') (fun e w' h => by
        rw [lbF_yes hN (by omega), show flN N S 1 = 0 from by unfold flN; rw [Nat.one_mul]; exact Nat.div_eq_of_lt b4] at h; exact h))
      rw [show ((1 : Nat) : Int) = 1 from rfl] at H1
      have hfs := fl_succ (n := N) (s := S) (by omega) (by omega) Y
      have hfl : flN N S Y ≤ Y := by
        unfold flN
        have : Y * S / N ≤ Y * N / N := Nat.div_le_div_right (Nat.mul_le_mul_left Y (by omega))
        rwa [Nat.mul_div_cancel _ (by omega)] at this
      have hf : ((flN N S Y : Nat) : Int) = (Y : Int) * (S : Int) / (N : Int) := by unfold flN; simp
      have m1 : Y * S ≤ 200 * 60 := Nat.mul_le_mul (by omega) (by omega)
      have e1 : (Y : Int) * (S : Int) = ((Y * S : Nat) : Int) := (Int.natCast_mul _ _).symm
      have hw1 : IntKind.i64.wrap ((Y : Int) * (S : Int)) = (Y : Int) * (S : Int) := IntWalk.i64_in _ (by rw [e1]; omega)
      have ht1 : ((Y : Int) * (S : Int)).tdiv (N : Int) = ((flN N S Y : Nat) : Int) := by rw [hf]; exact Int.tdiv_eq_ediv_of_nonneg (by rw [e1]; omega)
      have hw0 : IntKind.i64.wrap ((Y : Int) + 1) = (Y : Int) + 1 := IntWalk.i64_in _ (by omega)
      have hN0 : ¬ (N : Int) = 0 := by omega
      rw [lbF_yes hN (by omega)] at hnb ⊢
      have hl1 : (letN N S Y).toNat ≤ 1 := by cases letN N S Y <;> simp
      by_cases hp : Y ≤ 199
      · rw [show (Y : Int) + 1 = ((Y + 1 : Nat) : Int) by omega, lbF_yes hN (by omega), hfs, show ((Y + 1 : Nat) : Int) = (Y : Int) + 1 by omega] at HY
        generalize (letN N S Y).toNat = d at *
        generalize flN N S Y = F at *
        have hwF : IntKind.i64.wrap (F : Int) = F := IntWalk.i64_in _ (by omega)
        have q0 : ¬ (F : Int) < 0 := by omega
        have q1 : ¬ ((F + d : Nat) : Int) < 0 := by omega
        have q2 : IntKind.i64.wrap (((F + d : Nat) : Int) - 0) = ((F + d : Nat) : Int) := by rw [Int.sub_zero]; exact IntWalk.i64_in _ (by omega)
        have q2' : IntKind.i64.wrap (((F + d : Nat) : Int)) = ((F + d : Nat) : Int) := IntWalk.i64_in _ (by omega)
        have q3 : IntKind.i64.wrap (((F + d : Nat) : Int) - (F : Int)) = (d : Int) := by rw [show ((F + d : Nat) : Int) - (F : Int) = (d : Int) by omega]; exact IntWalk.i64_in _ (by omega)
        have q4 : (d : Int) ≤ 1 := by omega
        have q5 : (0 : Int) ≤ (d : Int) := by omega
        have ff : ((F : Int) == (F : Int)) = true := by simp
        generalize hFD : ((F + d : Nat) : Int) = FD at *
        clear hFD hf hfs e1 ht hN
        go_wp2_with fail
        refine (HY.out _).mono ?_; rintro e w4 ⟨rfl, hb4⟩
        have t4 := t3.below hb4 t3.lt
        have t4c := t4.cell0
        have t4d := t4.cell1
        have hB4 := hB3.trans (hb4.mono hB3.size)
        clear t3 t3c t3d hb4 hB3
        go_wp2_with fail
        refine (H1.out _).mono ?_; rintro e w5 ⟨rfl, hb5⟩
        have t5 := t4.below hb5 t4.lt
        have t5c := t5.cell0
        have t5d := t5.cell1
        have hB5 := hB4.trans (hb5.mono hB4.size)
        clear t4 t4c t4d hb5 hB4
        go_wp2_with fail
        refine (H1.out _).mono ?_; rintro e w6 ⟨rfl, hb6⟩
        have t6 := t5.below hb6 t5.lt
        have t6c := t6.cell0
        have t6d := t6.cell1
        have hB6 := hB5.trans (hb6.mono hB5.size)
        clear t5 t5c t5d hb6 hB5
        go_wp2
        go_ret
        first | exact ⟨rfl, hB6⟩ | exact ⟨ret_bool (by simp), hB6⟩
      · rw [lbF_no (fun h => by omega)] at HY
        generalize flN N S Y = F at *
        have hwF : IntKind.i64.wrap (F : Int) = F := IntWalk.i64_in _ (by omega)
        have q0 : ¬ (F : Int) < 0 := by omega
        have ff : ((F : Int) == (F : Int)) = true := by simp
        clear hf hfs e1 ht hN
        go_wp2_with fail
        refine (HY.out _).mono ?_; rintro e w4 ⟨rfl, hb4⟩
        have t4 := t3.below hb4 t3.lt
        have t4c := t4.cell0
        have t4d := t4.cell1
        have hB4 := hB3.trans (hb4.mono hB3.size)
        clear t3 t3c t3d hb4 hB3
        go_wp2
        go_ret
        first | exact ⟨rfl, hB4⟩ | exact ⟨ret_bool (by simp), hB4⟩
    · rw [lbF_no h] at hnb ⊢
      go_wp2_with fail
      refine (alive_any _).mono ?_; rintro e w9 ⟨rfl, hb9⟩
      have hB9 := hB3.trans (hb9.mono hB3.size)
      go_wp2
      go_ret
      exact ⟨rfl, hB9⟩

set_option maxRecDepth 100000 in
theorem lifted (os : Os) (started : os.Started) (H : Type) (enc : TypeId × Value → H) :
    ReturnsInHanded {} Try.checked os 4 .any (Rows.fnLongBeforeSpec.pre6 enc Try.prog Try.f4 Rows.fnLongBeforeRow.domain false) (Rows.fnLongBeforeSpec.post enc Try.prog Try.f4 false true false false) := by
  refine returnsInHanded_of_change (C := Try.checked) own started (by kernel_rfl) Try.func4
    (ChangeSpec.witness6 (enc := enc) (C := Try.checked) false ⟨#[], #[.slice none 0 0], []⟩ 8 (by kernel_rfl) (by kernel_rfl) (by kernel_rfl) (by kernel_rfl)) ?_
  intro W base args ds gs before hval0 hW hcnd _
  have hval : ∀ (j : Nat) t v, Try.f4.params[j]? = some t → args[j]? = some v → Value.okWide Try.prog W .any base t v := hval0
  have hW' := hW
  obtain ⟨p, q, hA0, hV, rfl, hfz, hnd⟩ := hW
  have hA : DataW.TrodAll enc Try.prog W 0 (fun _ => true) true Try.f4.params.toList args.toList ds p := hA0
  rw [Try.params4] at hA hval
  obtain ⟨v0, vs0, d0, ds0, p0, q0, hargs, rfl, rfl, h0, r0⟩ := trodAll_cons hA
  obtain ⟨rfl, rfl, rfl⟩ := trodAll_nil r0
  obtain rfl : args = #[v0] := by cases args; simp_all
  obtain ⟨rfl, rfl⟩ := trodVars_none hV
  obtain ⟨acode, lencode, capcode, rfl⟩ := okWide_slice Try.underlying22 (hval 0 22 v0 rfl rfl)
  have k0 := h0
  have lt0 : ∀ x ∈ p0, x.block < W.heap.size := by obtain ⟨m, hm⟩ := k0; exact DataW.trod_lt m _ _ _ hm
  obtain ⟨zcode, rowcode⟩ : ∃ zs, IsRow .u8 W acode lencode capcode zs := by
    obtain ⟨fuel, hf⟩ := h0
    rcases open_ints Try.underlying22 Try.underlying5 (by kernel_rfl) hf with ⟨hcs, _⟩ | ⟨x, l, c, zs, hcs, _, hl, hm, hz, _, hcell, hwz⟩
    · simp [Value.cells] at hcs
      obtain ⟨rfl, rfl, rfl⟩ := hcs
      exact ⟨[], .inl ⟨rfl, rfl, rfl, rfl⟩⟩
    · simp [Value.cells] at hcs
      obtain ⟨rfl, rfl, rfl⟩ := hcs
      exact ⟨zs, .inr ⟨_, rfl, hl, hm, by simpa using hz, hcell, hwz⟩⟩
  clear hA0 hval0
  refine (walk acode lencode capcode zcode W rowcode).mono fun e W' ⟨he, bel⟩ => ?_
  subst he
  exact ⟨_, rfl, _, _, _, [], _, [], hW', trodAll_mk1 (shut_bool Try.underlying4 _), (trodAll_cons_mk (Below.trod laidOut (by kernel_rfl) (of_decide_eq_true (by kernel_rfl)) k0 bel lt0) trodAll_mk0), rfl, bel.frame _, fun h => by cases h⟩

theorem facts : joinedFacts Try.pinned.checked.prog 4 Try.f4 Rows.fnLongBeforeSpec Rows.fnLongBeforeRow = true := by
  simp only [joinedFacts, Bool.and_eq_true]
  repeat' apply And.intro
  all_goals first | rw [mayEnter_eq] | (rw [liftsFinal_eq]; kernel_rfl) | (rw [make_eq]; kernel_rfl) | kernel_rfl

theorem over : Rows.fnLongBeforeRow.holds Try.pinned (OpenSpec.ofChange Rows.fnLongBeforeSpec) :=
  OpenClaim.holds_of_wide 4 Try.f4 rfl rfl rfl rfl rfl rfl rfl ⟨rfl, rfl, rfl, rfl, rfl⟩ rfl rfl rfl rfl rfl (by kernel_rfl) Try.func4 facts
    (of_decide_eq_true (by kernel_rfl)) (by unfold Func.isWrapper; first | (rw [if_pos (by decide +kernel)]; kernel_rfl) | (rw [if_neg (by decide +kernel)]; exact ⟨rfl, rfl⟩))
    (fun os started H enc _ => lifted os started H enc)

theorem proved : Rows.FnLongBeforeSaid := over
#print axioms proved
end Go.Proofs.Ytokmmbmkfpfmgaa.lawLongBefore
