/- Proves that FnDayNumber returns true for every code, and leaves the code as it was. No conditions. -/
import Derived.Test.YtokmmbmkfpfmgaaHead
import Derived.Test.YtokmmbmkfpfmgaaYearI
import Derived.Test.YtokmmbmkfpfmgaaDrawY
import Derived.Test.YtokmmbmkfpfmgaaGFun2
import Derived.Test.YtokmmbmkfpfmgaaGFun
import Derived.Deep.RegionHeld3
set_option linter.unusedVariables false
set_option linter.unusedSimpArgs false
namespace Go.Proofs.Ytokmmbmkfpfmgaa.lawDayNumber
set_option maxRecDepth 4000

set_option maxRecDepth 4000
open Go.ChangeShapes Go.WideShapes Go.ChangeAt Go.RowKit Go.Joins

set_option maxHeartbeats 4000000 in
theorem walk (a : Option Addr) (len cap : Nat) (z : List Int) (w : World) (row : IsRow .u8 w a len cap z) :
    Calls Try.prog 6 #[.slice a len cap] w fun e w' => e = .returned (.bool true) ∧ Below w.heap.size w w' := by
  
  have hc := CodeIn.of row
  clear row
  by_cases hl : 1048576 < len
  · have hl' : (1048576 : Int) < len := by omega
    go_enter Try.func6, Try.ntmps6
    go_wp2
    go_ret
    exact ⟨rfl, (by repeat (first | exact Below.refl _ _ | assumption | (refine Below.trans ?_ (Below.mono (by assumption) (by first | omega | (simp <;> omega)))) | (refine Below.alloc ?_ (by first | omega | (simp <;> omega)) _) | (refine below_drewN ?_ _) | (refine Below.drew ?_) | (refine Below.setCell ?_ (by first | omega | (simp <;> omega)) _)))⟩
  · have hl' : ¬ (1048576 : Int) < len := by omega
    go_enter Try.func6, Try.ntmps6
    go_wp2_with fail
    refine (drawDayNumber_any a len cap _ hc (by omega)).mono ?_; rintro e w1 ⟨n, s, d, y, x, rfl, hb1⟩
    have hz1 := hb1.size
    try simp at hz1
    go_wp2_with fail
    refine (dayNumber_any _ _ _ _ _ _).mono ?_; rintro e w2 ⟨rfl, hb2⟩
    have hz2 := hb2.size
    try simp at hz2
    have t2 : Two w2 (w1.heap.size) (.int .i64 n) (.int .i64 s) 24 := Two.below (by repeat (first | assumption | exact Two.new' _ _ _ _ _ (by simp) | refine Two.alloc ?_ _ | refine Two.drewN ?_ _)) hb2 (by first | omega | (simp <;> omega))
    have hlt2 : (w1.heap.size) < w2.heap.size := t2.lt
    have hnt2 : ¬ (w1.heap.size) = w2.heap.size := Nat.ne_of_lt hlt2
    have t2c := t2.cell0
    have t2d := t2.cell1
    go_wp2_with fail
    refine (specDayNumber_any _ _ _ _ _ _).mono ?_; rintro e w3 ⟨rfl, hb3⟩
    have hz3 := hb3.size
    try simp at hz3
    have t3 : Two w3 (w1.heap.size) (.int .i64 n) (.int .i64 s) 24 := Two.below (by repeat (first | assumption | exact Two.new' _ _ _ _ _ (by simp) | refine Two.alloc ?_ _ | refine Two.drewN ?_ _)) hb3 (by first | omega | (simp <;> omega))
    have hlt3 : (w1.heap.size) < w3.heap.size := t3.lt
    have hnt3 : ¬ (w1.heap.size) = w3.heap.size := Nat.ne_of_lt hlt3
    have t3c := t3.cell0
    have t3d := t3.cell1
    have hB3 : Below w.heap.size w w3 := (by repeat (first | exact Below.refl _ _ | assumption | (refine Below.trans ?_ (Below.mono (by assumption) (by first | omega | (simp <;> omega)))) | (refine Below.alloc ?_ (by first | omega | (simp <;> omega)) _) | (refine below_drewN ?_ _) | (refine Below.drew ?_) | (refine Below.setCell ?_ (by first | omega | (simp <;> omega)) _)))
    have hnb : (dayF n s d y x != dayF n s d y x) = false := by simp
    clear hb1 hb2 hb3
    by_cases h : (tok n s = true ∧ (1 ≤ d ∧ d ≤ 400) ∧ (0 ≤ y ∧ y ≤ 199)) ∧ 0 ≤ x ∧ x < d + ((lyF n s y).toNat : Int)
    · obtain ⟨⟨ht, ⟨d0, d1⟩, y0, y1⟩, x0, x1⟩ := h
      obtain ⟨N, S, rfl, rfl, hN⟩ := tokN_of ht
      obtain ⟨Y, rfl⟩ := Int.eq_ofNat_of_zero_le y0
      obtain ⟨D, rfl⟩ := Int.eq_ofNat_of_zero_le (show 0 ≤ d by omega)
      obtain ⟨X, rfl⟩ := Int.eq_ofNat_of_zero_le x0
      obtain ⟨b1, b2, b3, b4, _⟩ := tokN_bd hN
      rw [lyF_yes hN (by omega)] at x1
      have hx : X < D + (letN N S Y).toNat := by omega
      have hsu := dbN_succ (n := N) (s := S) (by omega) (by omega) D Y
      have hyr : yearN N S D (dbN N S D Y + X) = Y := yearN_of (by omega) (by omega) (by omega) (by omega) (by omega)
      have h200 : dbN N S D Y + X < dbN N S D 200 := by
        have : dbN N S D (Y + 1) ≤ dbN N S D 200 := by
          by_cases c : Y + 1 = 200
          · rw [c]; exact Nat.le_refl _
          · exact Nat.le_of_lt (dbN_mono (by omega) (by omega) (by omega) (by omega))
        omega
      obtain ⟨f1, f2, f3, f4, f5, f6, f7⟩ := date_yes hN (by omega : 1 ≤ D) (by omega) h200
      rw [hyr] at f1 f2
      have HD := Lib.hid (fun w => dateOf_any (N : Int) (S : Int) (D : Int) ((dbN N S D Y + X : Nat) : Int) w)
      rw [f1, f2, f3, show dbN N S D Y + X - dbN N S D Y = X by omega] at HD
      rw [dayF_yes hN (by omega) (by omega) (by omega) hx] at hnb ⊢
      generalize dbN N S D Y + X = DX at *
      have q0 : ¬ (DX : Int) < 0 := by omega
      have yy : ((Y : Int) == (Y : Int)) = true := by simp
      have xx : ((X : Int) == (X : Int)) = true := by simp
      clear f1 f2 f3 f4 f5 f6 hyr hsu ht hN h200
      go_wp2_with fail
      refine (HD.out _).mono ?_; rintro e w4 ⟨rfl, hb4⟩
      have t4 := t3.below hb4 t3.lt
      have t4c := t4.cell0
      have t4d := t4.cell1
      have hB4 := hB3.trans (hb4.mono hB3.size)
      clear t3 t3c t3d hb4 hB3
      go_wp2
      go_ret
      first | exact ⟨rfl, hB4⟩ | exact ⟨ret_bool (by simp), hB4⟩
    · rw [dayF_no h] at hnb ⊢
      go_wp2_with fail
      refine (alive_any _).mono ?_; rintro e w9 ⟨rfl, hb9⟩
      have hB9 := hB3.trans (hb9.mono hB3.size)
      go_wp2
      go_ret
      exact ⟨rfl, hB9⟩

set_option maxRecDepth 100000 in
theorem lifted (os : Os) (started : os.Started) (H : Type) (enc : TypeId × Value → H) :
    ReturnsInHanded {} Try.checked os 6 .any (Rows.fnDayNumberSpec.pre6 enc Try.prog Try.f6 Rows.fnDayNumberRow.domain false) (Rows.fnDayNumberSpec.post enc Try.prog Try.f6 false true false false) := by
  refine returnsInHanded_of_change (C := Try.checked) own started (by kernel_rfl) Try.func6
    (ChangeSpec.witness6 (enc := enc) (C := Try.checked) false ⟨#[], #[.slice none 0 0], []⟩ 8 (by kernel_rfl) (by kernel_rfl) (by kernel_rfl) (by kernel_rfl)) ?_
  intro W base args ds gs before hval0 hW hcnd _
  have hval : ∀ (j : Nat) t v, Try.f6.params[j]? = some t → args[j]? = some v → Value.okWide Try.prog W .any base t v := hval0
  have hW' := hW
  obtain ⟨p, q, hA0, hV, rfl, hfz, hnd⟩ := hW
  have hA : DataW.TrodAll enc Try.prog W 0 (fun _ => true) true Try.f6.params.toList args.toList ds p := hA0
  rw [Try.params6] at hA hval
  obtain ⟨v0, vs0, d0, ds0, p0, q0, hargs, rfl, rfl, h0, r0⟩ := trodAll_cons hA
  obtain ⟨rfl, rfl, rfl⟩ := trodAll_nil r0
  obtain rfl : args = #[v0] := by cases args; simp_all
  obtain ⟨rfl, rfl⟩ := trodVars_none hV
  obtain ⟨acode, lencode, capcode, rfl⟩ := okWide_slice Try.underlying22 (hval 0 22 v0 rfl rfl)
  have k0 := h0
  have lt0 : ∀ x ∈ p0, x.block < W.heap.size := by obtain ⟨m, hm⟩ := k0; exact DataW.trod_lt m _ _ _ hm
  obtain ⟨zcode, rowcode⟩ : ∃ zs, IsRow .u8 W acode lencode capcode zs := by
    obtain ⟨fuel, hf⟩ := h0
    rcases open_ints Try.underlying22 Try.underlying5 (by kernel_rfl) hf with ⟨hcs, _⟩ | ⟨x, l, c, zs, hcs, _, hl, hm, hz, _, hcell, hwz⟩
    · simp [Value.cells] at hcs
      obtain ⟨rfl, rfl, rfl⟩ := hcs
      exact ⟨[], .inl ⟨rfl, rfl, rfl, rfl⟩⟩
    · simp [Value.cells] at hcs
      obtain ⟨rfl, rfl, rfl⟩ := hcs
      exact ⟨zs, .inr ⟨_, rfl, hl, hm, by simpa using hz, hcell, hwz⟩⟩
  clear hA0 hval0
  refine (walk acode lencode capcode zcode W rowcode).mono fun e W' ⟨he, bel⟩ => ?_
  subst he
  exact ⟨_, rfl, _, _, _, [], _, [], hW', trodAll_mk1 (shut_bool Try.underlying4 _), (trodAll_cons_mk (Below.trod laidOut (by kernel_rfl) (of_decide_eq_true (by kernel_rfl)) k0 bel lt0) trodAll_mk0), rfl, bel.frame _, fun h => by cases h⟩

theorem facts : joinedFacts Try.pinned.checked.prog 6 Try.f6 Rows.fnDayNumberSpec Rows.fnDayNumberRow = true := by
  simp only [joinedFacts, Bool.and_eq_true]
  repeat' apply And.intro
  all_goals first | rw [mayEnter_eq] | (rw [liftsFinal_eq]; kernel_rfl) | (rw [make_eq]; kernel_rfl) | kernel_rfl

theorem over : Rows.fnDayNumberRow.holds Try.pinned (OpenSpec.ofChange Rows.fnDayNumberSpec) :=
  OpenClaim.holds_of_wide 6 Try.f6 rfl rfl rfl rfl rfl rfl rfl ⟨rfl, rfl, rfl, rfl, rfl⟩ rfl rfl rfl rfl rfl (by kernel_rfl) Try.func6 facts
    (of_decide_eq_true (by kernel_rfl)) (by unfold Func.isWrapper; first | (rw [if_pos (by decide +kernel)]; kernel_rfl) | (rw [if_neg (by decide +kernel)]; exact ⟨rfl, rfl⟩))
    (fun os started H enc _ => lifted os started H enc)

theorem proved : Rows.FnDayNumberSaid := over
#print axioms proved
end Go.Proofs.Ytokmmbmkfpfmgaa.lawDayNumber
