/- Proves that FnOppositeOf returns true for every code, and leaves the code as it was. No conditions. -/
import Derived.Test.YtppahekbgbbidaaHead
import Derived.Test.YtppahekbgbbidaaGFun2
import Derived.Test.YtppahekbgbbidaaGDraw
import Derived.Test.YtppahekbgbbidaaGMath
set_option linter.unusedVariables false
namespace Go.Proofs.Ytppahekbgbbidaa.law4
open Go.ChangeShapes Go.WideShapes Go.ChangeAt Go.RowKit Go.Joins

set_option maxHeartbeats 1000000 in
theorem walk (a : Option Addr) (len cap : Nat) (z : List Int) (w : World) (row : IsRow .u8 w a len cap z) :
    Calls Try.prog 8 #[.slice a len cap] w fun e w' => e = .returned (.bool true) ∧ Below w.heap.size w w' := by
  
  have hc := CodeIn.of row
  clear row
  by_cases hl : 1048576 < len
  · have hl' : (1048576 : Int) < len := by omega
    go_enter Try.func8, Try.ntmps8
    go_wp2
    go_ret
    exact ⟨rfl, (by repeat (first | exact Below.refl _ _ | assumption | (refine Below.trans ?_ (Below.mono (by assumption) (by first | omega | (simp <;> omega)))) | (refine Below.alloc ?_ (by first | omega | (simp <;> omega)) _) | (refine below_drewN ?_ _) | (refine Below.drew ?_) | (refine Below.setCell ?_ (by first | omega | (simp <;> omega)) _)))⟩
  · have hl' : ¬ (1048576 : Int) < len := by omega
    go_enter Try.func8, Try.ntmps8
    go_wp2_with fail
    refine (drawOppositeOf_any a len cap _ hc (by omega)).mono ?_; rintro e w1 ⟨n, s, rfl, n0, n1, s0, s1, hb1⟩
    have hz1 := hb1.size
    try simp at hz1
    go_wp2_with fail
    refine (oppositeOf_any _ _ _).mono ?_; rintro e w2 ⟨rfl, hb2⟩
    have hz2 := hb2.size
    try simp at hz2
    have t2 : Two w2 (w1.heap.size) (.int .i64 n) (.int .i64 s) 24 := Two.below (by repeat (first | assumption | exact Two.new' _ _ _ _ _ (by simp) | refine Two.alloc ?_ _ | refine Two.drewN ?_ _)) hb2 (by first | omega | (simp <;> omega))
    have hlt2 : (w1.heap.size) < w2.heap.size := t2.lt
    have hnt2 : ¬ (w1.heap.size) = w2.heap.size := Nat.ne_of_lt hlt2
    have t2c := t2.cell0
    have t2d := t2.cell1
    by_cases ht : tok n s = true
    · have hb := tok_bd ht
      have hb' := tok_bd (tok_inv ht)
      have E2 := Lib.hid (oppT_yes ht)
      have E3 := Lib.hid (oppT_yes (tok_inv ht))
      have E4 := Lib.hid (inv_inv ht)
      have E5 := Lib.hid (tok_inv ht)
      have E6 := Lib.hid (bothT_yes ht (tok_inv ht))
      have E7 : Hid (s * invF n s % n = 1) := Lib.hid (by rw [Int.mul_comm]; exact (invF_spec ht).2.2)
      rw [E2.out]
      go_wp2_with fail
      have u2 : Two (w2.alloc (Obj.cells #[Value.int IntKind.i64 n, Value.int IntKind.i64 (invF n s)] 24)) w2.heap.size (.int .i64 n) (.int .i64 (invF n s)) 24 := Two.new _ _ _ _
      have t2a := t2.alloc (Obj.cells #[Value.int IntKind.i64 n, Value.int IntKind.i64 (invF n s)] 24)
      have u2c := u2.cell0
      have u2d := u2.cell1
      have t2ac := t2a.cell0
      have t2ad := t2a.cell1
      go_region_held3 (fun w' => w'.cell? ⟨w1.heap.size, 0, none⟩ = some (.int .i64 n) ∧ w'.cell? ⟨w1.heap.size, 1, none⟩ = some (.int .i64 s) ∧ w'.cell? ⟨w2.heap.size, 0, none⟩ = some (.int .i64 n) ∧ w'.cell? ⟨w2.heap.size, 1, none⟩ = some (.int .i64 (invF n s))) (first | go_keep | exact ⟨t'c, t'd, u'c, u'd⟩ | exact ⟨((t'.set (b := _) (by omega) 0 _).set (b := _) (by omega) 1 _).cell0, ((t'.set (b := _) (by omega) 0 _).set (b := _) (by omega) 1 _).cell1, ((u'.set (b := _) (by omega) 0 _).set (b := _) (by omega) 1 _).cell0, ((u'.set (b := _) (by omega) 0 _).set (b := _) (by omega) 1 _).cell1⟩) (first | (go_at_call 27; refine (specOppositeOf_any n s _).mono ?_; rintro e w' ⟨rfl, hb'⟩; have t' := Two.below (b := w1.heap.size) (x := .int .i64 n) (y := .int .i64 s) (T := 24) (by repeat (first | assumption | refine Two.alloc ?_ _)) hb' (by first | omega | (simp <;> omega)); have lt' := t'.lt; have t'c := t'.cell0; have t'd := t'.cell1; have u' := Two.below (b := w2.heap.size) (x := .int .i64 n) (y := .int .i64 (invF n s)) (T := 24) (by repeat (first | assumption | refine Two.alloc ?_ _)) hb' (by first | omega | (simp <;> omega)); have lu' := u'.lt; have u'c := u'.cell0; have u'd := u'.cell1; rw [E2.out]))
      have lt' : w1.heap.size < w'.heap.size := t'.lt
      go_wp2_with fail
      refine (specTurnOk_any _ _ _).mono ?_; rintro e w4 ⟨rfl, hb4⟩
      have hz4 := hb4.size
      try simp at hz4
      have t4 : Two w4 (w1.heap.size) (.int .i64 n) (.int .i64 s) 24 := Two.below (by repeat (first | assumption | exact Two.new' _ _ _ _ _ (by simp) | refine Two.alloc ?_ _ | refine Two.drewN ?_ _)) hb4 (by first | omega | (simp <;> omega))
      have hlt4 : (w1.heap.size) < w4.heap.size := t4.lt
      have hnt4 : ¬ (w1.heap.size) = w4.heap.size := Nat.ne_of_lt hlt4
      have t4c := t4.cell0
      have t4d := t4.cell1
      have u4 : Two w4 (w2.heap.size) (.int .i64 n) (.int .i64 (invF n s)) 24 := Two.below (by repeat (first | assumption | exact Two.new' _ _ _ _ _ (by simp) | refine Two.alloc ?_ _ | refine Two.drewN ?_ _)) hb4 (by first | omega | (simp <;> omega))
      have hlu4 : (w2.heap.size) < w4.heap.size := u4.lt
      have hnu4 : ¬ (w2.heap.size) = w4.heap.size := Nat.ne_of_lt hlu4
      have u4c := u4.cell0
      have u4d := u4.cell1
      rw [ht]
      go_wp2_with fail
      refine (bothSteps_any _ _ _ _ _).mono ?_; rintro e w5 ⟨rfl, hb5⟩
      have hz5 := hb5.size
      try simp at hz5
      have t5 : Two w5 (w1.heap.size) (.int .i64 n) (.int .i64 s) 24 := Two.below (by repeat (first | assumption | exact Two.new' _ _ _ _ _ (by simp) | refine Two.alloc ?_ _ | refine Two.drewN ?_ _)) hb5 (by first | omega | (simp <;> omega))
      have hlt5 : (w1.heap.size) < w5.heap.size := t5.lt
      have hnt5 : ¬ (w1.heap.size) = w5.heap.size := Nat.ne_of_lt hlt5
      have t5c := t5.cell0
      have t5d := t5.cell1
      have u5 : Two w5 (w2.heap.size) (.int .i64 n) (.int .i64 (invF n s)) 24 := Two.below (by repeat (first | assumption | exact Two.new' _ _ _ _ _ (by simp) | refine Two.alloc ?_ _ | refine Two.drewN ?_ _)) hb5 (by first | omega | (simp <;> omega))
      have hlu5 : (w2.heap.size) < w5.heap.size := u5.lt
      have hnu5 : ¬ (w2.heap.size) = w5.heap.size := Nat.ne_of_lt hlu5
      have u5c := u5.cell0
      have u5d := u5.cell1
      rw [E6.out]
      simp only [E7.out]
      go_wp2_with fail
      have v5 : Two (w5.alloc (Obj.cells #[Value.int IntKind.i64 n, Value.int IntKind.i64 1] 24)) w5.heap.size (.int .i64 n) (.int .i64 1) 24 := Two.new _ _ _ _
      have t5a := t5.alloc (Obj.cells #[Value.int IntKind.i64 n, Value.int IntKind.i64 1] 24)
      have u5a := u5.alloc (Obj.cells #[Value.int IntKind.i64 n, Value.int IntKind.i64 1] 24)
      have c1 := v5.cell0
      have c2 := v5.cell1
      have c3 := t5a.cell0
      have c4 := t5a.cell1
      have c5 := u5a.cell0
      have c6 := u5a.cell1
      go_region_held3 (fun w' => w'.cell? ⟨w1.heap.size, 0, none⟩ = some (.int .i64 n) ∧ w'.cell? ⟨w1.heap.size, 1, none⟩ = some (.int .i64 s) ∧ w'.cell? ⟨w2.heap.size, 0, none⟩ = some (.int .i64 n) ∧ w'.cell? ⟨w2.heap.size, 1, none⟩ = some (.int .i64 (invF n s)) ∧ w'.cell? ⟨w5.heap.size, 0, none⟩ = some (.int .i64 n) ∧ w'.cell? ⟨w5.heap.size, 1, none⟩ = some (.int .i64 1)) (first | go_keep | exact ⟨t'c, t'd, u'c, u'd, v'c, v'd⟩ | exact ⟨((t'.set (b := _) (by omega) 0 _).set (b := _) (by omega) 1 _).cell0, ((t'.set (b := _) (by omega) 0 _).set (b := _) (by omega) 1 _).cell1, ((u'.set (b := _) (by omega) 0 _).set (b := _) (by omega) 1 _).cell0, ((u'.set (b := _) (by omega) 0 _).set (b := _) (by omega) 1 _).cell1, ((v'.set (b := _) (by omega) 0 _).set (b := _) (by omega) 1 _).cell0, ((v'.set (b := _) (by omega) 0 _).set (b := _) (by omega) 1 _).cell1⟩) (first | (go_at_call 23; refine (turnOk_any n (invF n s) _).mono ?_; rintro e w' ⟨rfl, hb'⟩; have t' := Two.below (b := w1.heap.size) (x := .int .i64 n) (y := .int .i64 s) (T := 24) (by repeat (first | assumption | refine Two.alloc ?_ _)) hb' (by first | omega | (simp <;> omega)); have lt' := t'.lt; have t'c := t'.cell0; have t'd := t'.cell1; have u' := Two.below (b := w2.heap.size) (x := .int .i64 n) (y := .int .i64 (invF n s)) (T := 24) (by repeat (first | assumption | refine Two.alloc ?_ _)) hb' (by first | omega | (simp <;> omega)); have lu' := u'.lt; have u'c := u'.cell0; have u'd := u'.cell1; have v' := Two.below (b := w5.heap.size) (x := .int .i64 n) (y := .int .i64 1) (T := 24) (by repeat (first | assumption | refine Two.alloc ?_ _)) hb' (by first | omega | (simp <;> omega)); have lv' := v'.lt; have v'c := v'.cell0; have v'd := v'.cell1; rw [E5.out]) | (go_at_call 29; refine (oppositeOf_any n (invF n s) _).mono ?_; rintro e w' ⟨rfl, hb'⟩; have t' := Two.below (b := w1.heap.size) (x := .int .i64 n) (y := .int .i64 s) (T := 24) (by repeat (first | assumption | refine Two.alloc ?_ _)) hb' (by first | omega | (simp <;> omega)); have lt' := t'.lt; have t'c := t'.cell0; have t'd := t'.cell1; have u' := Two.below (b := w2.heap.size) (x := .int .i64 n) (y := .int .i64 (invF n s)) (T := 24) (by repeat (first | assumption | refine Two.alloc ?_ _)) hb' (by first | omega | (simp <;> omega)); have lu' := u'.lt; have u'c := u'.cell0; have u'd := u'.cell1; have v' := Two.below (b := w5.heap.size) (x := .int .i64 n) (y := .int .i64 1) (T := 24) (by repeat (first | assumption | refine Two.alloc ?_ _)) hb' (by first | omega | (simp <;> omega)); have lv' := v'.lt; have v'c := v'.cell0; have v'd := v'.cell1; rw [E3.out, E4.out]))
      go_wp2
      go_ret
      exact ⟨rfl, (by repeat (first | exact Below.refl _ _ | assumption | (refine Below.trans ?_ (Below.mono (by assumption) (by first | omega | (simp <;> omega)))) | (refine Below.alloc ?_ (by first | omega | (simp <;> omega)) _) | (refine below_drewN ?_ _) | (refine Below.drew ?_) | (refine Below.setCell ?_ (by first | omega | (simp <;> omega)) _)))⟩
    · have ht' : tok n s = false := by simpa using ht
      have E2 := Lib.hid (oppT_no ht)
      rw [E2.out]
      go_wp2_with fail
      have u2 : Two (w2.alloc (Obj.cells #[Value.int IntKind.i64 0, Value.int IntKind.i64 0] 24)) w2.heap.size (.int .i64 0) (.int .i64 0) 24 := Two.new _ _ _ _
      have t2a := t2.alloc (Obj.cells #[Value.int IntKind.i64 0, Value.int IntKind.i64 0] 24)
      have u2c := u2.cell0
      have u2d := u2.cell1
      have t2ac := t2a.cell0
      have t2ad := t2a.cell1
      go_region_held3 (fun w' => w'.cell? ⟨w1.heap.size, 0, none⟩ = some (.int .i64 n) ∧ w'.cell? ⟨w1.heap.size, 1, none⟩ = some (.int .i64 s) ∧ w'.cell? ⟨w2.heap.size, 0, none⟩ = some (.int .i64 0) ∧ w'.cell? ⟨w2.heap.size, 1, none⟩ = some (.int .i64 0)) (first | go_keep | exact ⟨t'c, t'd, u'c, u'd⟩ | exact ⟨((t'.set (b := _) (by omega) 0 _).set (b := _) (by omega) 1 _).cell0, ((t'.set (b := _) (by omega) 0 _).set (b := _) (by omega) 1 _).cell1, ((u'.set (b := _) (by omega) 0 _).set (b := _) (by omega) 1 _).cell0, ((u'.set (b := _) (by omega) 0 _).set (b := _) (by omega) 1 _).cell1⟩) (first | (go_at_call 27; refine (specOppositeOf_any n s _).mono ?_; rintro e w' ⟨rfl, hb'⟩; have t' := Two.below (b := w1.heap.size) (x := .int .i64 n) (y := .int .i64 s) (T := 24) (by repeat (first | assumption | refine Two.alloc ?_ _)) hb' (by first | omega | (simp <;> omega)); have lt' := t'.lt; have t'c := t'.cell0; have t'd := t'.cell1; have u' := Two.below (b := w2.heap.size) (x := .int .i64 0) (y := .int .i64 0) (T := 24) (by repeat (first | assumption | refine Two.alloc ?_ _)) hb' (by first | omega | (simp <;> omega)); have lu' := u'.lt; have u'c := u'.cell0; have u'd := u'.cell1; rw [E2.out]))
      have lt' : w1.heap.size < w'.heap.size := t'.lt
      go_wp2_with fail
      refine (specTurnOk_any _ _ _).mono ?_; rintro e w4 ⟨rfl, hb4⟩
      have hz4 := hb4.size
      try simp at hz4
      have t4 : Two w4 (w1.heap.size) (.int .i64 n) (.int .i64 s) 24 := Two.below (by repeat (first | assumption | exact Two.new' _ _ _ _ _ (by simp) | refine Two.alloc ?_ _ | refine Two.drewN ?_ _)) hb4 (by first | omega | (simp <;> omega))
      have hlt4 : (w1.heap.size) < w4.heap.size := t4.lt
      have hnt4 : ¬ (w1.heap.size) = w4.heap.size := Nat.ne_of_lt hlt4
      have t4c := t4.cell0
      have t4d := t4.cell1
      have u4 : Two w4 (w2.heap.size) (.int .i64 0) (.int .i64 0) 24 := Two.below (by repeat (first | assumption | exact Two.new' _ _ _ _ _ (by simp) | refine Two.alloc ?_ _ | refine Two.drewN ?_ _)) hb4 (by first | omega | (simp <;> omega))
      have hlu4 : (w2.heap.size) < w4.heap.size := u4.lt
      have hnu4 : ¬ (w2.heap.size) = w4.heap.size := Nat.ne_of_lt hlu4
      have u4c := u4.cell0
      have u4d := u4.cell1
      rw [ht']
      go_wp2_with fail
      refine (alive_any _).mono ?_; rintro e w5 ⟨rfl, hb5⟩
      have hz5 := hb5.size
      try simp at hz5
      go_wp2
      go_ret
      exact ⟨rfl, (by repeat (first | exact Below.refl _ _ | assumption | (refine Below.trans ?_ (Below.mono (by assumption) (by first | omega | (simp <;> omega)))) | (refine Below.alloc ?_ (by first | omega | (simp <;> omega)) _) | (refine below_drewN ?_ _) | (refine Below.drew ?_) | (refine Below.setCell ?_ (by first | omega | (simp <;> omega)) _)))⟩

set_option maxRecDepth 100000 in
theorem lifted (os : Os) (started : os.Started) (H : Type) (enc : TypeId × Value → H) :
    ReturnsInHanded {} Try.checked os 8 .any (Rows.fnOppositeOfSpec.pre6 enc Try.prog Try.f8 Rows.fnOppositeOfRow.domain false) (Rows.fnOppositeOfSpec.post enc Try.prog Try.f8 false true false false) := by
  refine returnsInHanded_of_change (C := Try.checked) own started (by kernel_rfl) Try.func8
    (ChangeSpec.witness6 (enc := enc) (C := Try.checked) false ⟨#[], #[.slice none 0 0], []⟩ 8 (by kernel_rfl) (by kernel_rfl) (by kernel_rfl) (by kernel_rfl)) ?_
  intro W base args ds gs before hval0 hW hcnd _
  have hval : ∀ (j : Nat) t v, Try.f8.params[j]? = some t → args[j]? = some v → Value.okWide Try.prog W .any base t v := hval0
  have hW' := hW
  obtain ⟨p, q, hA0, hV, rfl, hfz, hnd⟩ := hW
  have hA : DataW.TrodAll enc Try.prog W 0 (fun _ => true) true Try.f8.params.toList args.toList ds p := hA0
  rw [Try.params8] at hA hval
  obtain ⟨v0, vs0, d0, ds0, p0, q0, hargs, rfl, rfl, h0, r0⟩ := trodAll_cons hA
  obtain ⟨rfl, rfl, rfl⟩ := trodAll_nil r0
  obtain rfl : args = #[v0] := by cases args; simp_all
  obtain ⟨rfl, rfl⟩ := trodVars_none hV
  obtain ⟨acode, lencode, capcode, rfl⟩ := okWide_slice Try.underlying22 (hval 0 22 v0 rfl rfl)
  have k0 := h0
  have lt0 : ∀ x ∈ p0, x.block < W.heap.size := by obtain ⟨m, hm⟩ := k0; exact DataW.trod_lt m _ _ _ hm
  obtain ⟨zcode, rowcode⟩ : ∃ zs, IsRow .u8 W acode lencode capcode zs := by
    obtain ⟨fuel, hf⟩ := h0
    rcases open_ints Try.underlying22 Try.underlying5 (by kernel_rfl) hf with ⟨hcs, _⟩ | ⟨x, l, c, zs, hcs, _, hl, hm, hz, _, hcell, hwz⟩
    · simp [Value.cells] at hcs
      obtain ⟨rfl, rfl, rfl⟩ := hcs
      exact ⟨[], .inl ⟨rfl, rfl, rfl, rfl⟩⟩
    · simp [Value.cells] at hcs
      obtain ⟨rfl, rfl, rfl⟩ := hcs
      exact ⟨zs, .inr ⟨_, rfl, hl, hm, by simpa using hz, hcell, hwz⟩⟩
  clear hA0 hval0
  refine (walk acode lencode capcode zcode W rowcode).mono fun e W' ⟨he, bel⟩ => ?_
  subst he
  exact ⟨_, rfl, _, _, _, [], _, [], hW', trodAll_mk1 (shut_bool Try.underlying4 _), (trodAll_cons_mk (Below.trod laidOut (by kernel_rfl) (of_decide_eq_true (by kernel_rfl)) k0 bel lt0) trodAll_mk0), rfl, bel.frame _, fun h => by cases h⟩

theorem facts : joinedFacts Try.pinned.checked.prog 8 Try.f8 Rows.fnOppositeOfSpec Rows.fnOppositeOfRow = true := by
  simp only [joinedFacts, Bool.and_eq_true]
  repeat' apply And.intro
  all_goals first | rw [mayEnter_eq] | (rw [liftsFinal_eq]; kernel_rfl) | (rw [make_eq]; kernel_rfl) | kernel_rfl

theorem over : Rows.fnOppositeOfRow.holds Try.pinned (OpenSpec.ofChange Rows.fnOppositeOfSpec) :=
  OpenClaim.holds_of_wide 8 Try.f8 rfl rfl rfl rfl rfl rfl rfl ⟨rfl, rfl, rfl, rfl, rfl⟩ rfl rfl rfl rfl rfl (by kernel_rfl) Try.func8 facts
    (of_decide_eq_true (by kernel_rfl)) (by unfold Func.isWrapper; first | (rw [if_pos (by decide +kernel)]; kernel_rfl) | (rw [if_neg (by decide +kernel)]; exact ⟨rfl, rfl⟩))
    (fun os started H enc _ => lifted os started H enc)

theorem proved : Rows.FnOppositeOfSaid := over
#print axioms proved
end Go.Proofs.Ytppahekbgbbidaa.law4
