/- Proves that FnBothSteps returns true for every code, and leaves the code as it was. No conditions. -/
import Derived.Test.YtppahekbgbbidaaHead
import Derived.Test.YtppahekbgbbidaaGFun2
import Derived.Test.YtppahekbgbbidaaDraw8
set_option linter.unusedVariables false
namespace Go.Proofs.Ytppahekbgbbidaa.lawBoth
open Go.ChangeShapes Go.WideShapes Go.ChangeAt Go.RowKit Go.Joins

theorem tok_mul {n s l : Int} (h : tok n s = true) (h' : tok n l = true) : tok n (s * l % n) = true := by
  have hb := tok_bd h
  have hb' := tok_bd h'
  obtain ⟨n, rfl⟩ := Int.eq_ofNat_of_zero_le (by omega : 0 ≤ n)
  obtain ⟨s, rfl⟩ := Int.eq_ofNat_of_zero_le (by omega : 0 ≤ s)
  obtain ⟨l, rfl⟩ := Int.eq_ofNat_of_zero_le (by omega : 0 ≤ l)
  rw [tok_iff] at h h' ⊢
  have g1 : Nat.gcd n s = 1 := by simpa using h.2.2.2.2
  have g2 : Nat.gcd n l = 1 := by simpa using h'.2.2.2.2
  have e : ((s : Int) * l % n) = ((s * l % n : Nat) : Int) := by simp
  have g3 : Nat.gcd n (s * l % n) = 1 := by
    rw [Nat.gcd_comm, ← Nat.gcd_rec]
    exact Nat.Coprime.mul_right g1 g2
  have lt : s * l % n < n := Nat.mod_lt _ (by omega)
  have pos : s * l % n ≠ 0 := by
    intro e
    rw [e] at g3
    simp at g3
    omega
  rw [e]
  refine ⟨by omega, by omega, by omega, by omega, ?_⟩
  rw [Int.toNat_natCast, Int.toNat_natCast]
  exact g3

set_option maxHeartbeats 4000000 in
theorem walk (a : Option Addr) (len cap : Nat) (z : List Int) (w : World) (row : IsRow .u8 w a len cap z) :
    Calls Try.prog 4 #[.slice a len cap] w fun e w' => e = .returned (.bool true) ∧ Below w.heap.size w w' := by
  
  have hc := CodeIn.of row
  clear row
  by_cases hl : 1048576 < len
  · have hl' : (1048576 : Int) < len := by omega
    go_enter Try.func4, Try.ntmps4
    go_wp2
    go_ret
    exact ⟨rfl, (by repeat (first | exact Below.refl _ _ | assumption | (refine Below.trans ?_ (Below.mono (by assumption) (by first | omega | (simp <;> omega)))) | (refine Below.alloc ?_ (by first | omega | (simp <;> omega)) _) | (refine below_drewN ?_ _) | (refine Below.drew ?_) | (refine Below.setCell ?_ (by first | omega | (simp <;> omega)) _)))⟩
  · have hl' : ¬ (1048576 : Int) < len := by omega
    go_enter Try.func4, Try.ntmps4
    go_wp2_with fail
    refine (drawBothSteps_any a len cap _ hc (by omega)).mono ?_; rintro e w1 ⟨n, s, m, l, rfl, n0, n1, s0, s1, m0, m1, l0, l1, hb1⟩
    have hz1 := hb1.size
    try simp at hz1
    go_wp2_with fail
    refine (bothSteps_any _ _ _ _ _).mono ?_; rintro e w2 ⟨rfl, hb2⟩
    have t1 : Two ((w1.alloc (Obj.cells #[Value.int IntKind.i64 n, Value.int IntKind.i64 s] 24)).alloc (Obj.cells #[Value.int IntKind.i64 m, Value.int IntKind.i64 l] 24)) w1.heap.size (.int .i64 n) (.int .i64 s) 24 := (Two.new _ _ _ _).alloc _
    have u1 : Two ((w1.alloc (Obj.cells #[Value.int IntKind.i64 n, Value.int IntKind.i64 s] 24)).alloc (Obj.cells #[Value.int IntKind.i64 m, Value.int IntKind.i64 l] 24)) (w1.heap.size + 1) (.int .i64 m) (.int .i64 l) 24 := Two.new' _ _ _ _ _ (by simp)
    have t2 := t1.below hb2 t1.lt
    have u2 := u1.below hb2 u1.lt
    have hB2 : Below w.heap.size w w2 := (by repeat (first | exact Below.refl _ _ | assumption | (refine Below.trans ?_ (Below.mono (by assumption) (by first | omega | (simp <;> omega)))) | (refine Below.alloc ?_ (by first | omega | (simp <;> omega)) _) | (refine below_drewN ?_ _) | (refine Below.drew ?_) | (refine Below.setCell ?_ (by first | omega | (simp <;> omega)) _)))
    have hz2 : w1.heap.size + 1 < w2.heap.size := u2.lt
    clear hb1 hb2 t1 u1
    have tn2 : ¬ w1.heap.size = w2.heap.size := by omega
    have un2 : ¬ w1.heap.size + 1 = w2.heap.size := by omega
    have tl2 := t2.lt
    have ul2 := u2.lt
    have t2c := t2.cell0
    have t2d := t2.cell1
    have u2c := u2.cell0
    have u2d := u2.cell1
    by_cases h : tok n s = true ∧ tok m l = true ∧ n = m
    · obtain ⟨ht, hu, rfl⟩ := h
      have hb := tok_bd ht
      have hb' := tok_bd hu
      have E := Lib.hid (bothT_yes ht hu)
      have E2 : Hid (bothT n l n s = ((n, s * l % n), true)) := by
        show _ = _
        rw [bothT_yes hu ht, Int.mul_comm]
      have E3 := Lib.hid (tok_mul ht hu)
      have E4 : Hid (pointF n (s * l % n) 1 = s * l % n) := by
        show _ = _
        rw [pointF_yes (tok_mul ht hu) (by omega) (by omega), Int.one_mul, Int.emod_emod]
      have E5 : Hid (pointF n s l = s * l % n) := by
        show _ = _
        rw [pointF_yes ht (by omega) (by omega), Int.mul_comm]
      rw [E.out]
      simp only
      generalize s * l % n = X at *
      go_wp2_with fail
      refine (specBothSteps_any _ _ _ _ _).mono ?_; rintro e w3 ⟨rfl, hb3⟩
      rw [E.out]
      simp only
      have x2 : Two (w2.alloc (Obj.cells #[Value.int IntKind.i64 n, Value.int IntKind.i64 X] 24)) w2.heap.size (.int .i64 n) (.int .i64 X) 24 := Two.new _ _ _ _
      have t3 := (t2.alloc (Obj.cells #[Value.int IntKind.i64 n, Value.int IntKind.i64 X] 24)).below hb3 (by simp; omega)
      have u3 := (u2.alloc (Obj.cells #[Value.int IntKind.i64 n, Value.int IntKind.i64 X] 24)).below hb3 (by simp; omega)
      have x3 := x2.below hb3 x2.lt
      have hB3 : Below w.heap.size w w3 := (by repeat (first | exact Below.refl _ _ | assumption | (refine Below.trans ?_ (Below.mono (by assumption) (by first | omega | (simp <;> omega)))) | (refine Below.alloc ?_ (by first | omega | (simp <;> omega)) _) | (refine below_drewN ?_ _) | (refine Below.drew ?_) | (refine Below.setCell ?_ (by first | omega | (simp <;> omega)) _)))
      have xl3 := x3.lt
      clear t2 u2 x2 hb3 t2c t2d u2c u2d hB2
      have tn3 : ¬ w1.heap.size = w3.heap.size := by omega
      have un3 : ¬ w1.heap.size + 1 = w3.heap.size := by omega
      have xn3 : ¬ w2.heap.size = w3.heap.size := by omega
      have tl3 := t3.lt
      have ul3 := u3.lt
      have t3c := t3.cell0
      have t3d := t3.cell1
      have u3c := u3.cell0
      have u3d := u3.cell1
      have x3c := x3.cell0
      have x3d := x3.cell1
      go_wp2_with fail
      refine (bothSteps_any _ _ _ _ _).mono ?_; rintro e w4 ⟨rfl, hb4⟩
      rw [E2.out]
      simp only
      have t4 := (t3.alloc (Obj.cells #[Value.int IntKind.i64 n, Value.int IntKind.i64 X] 24)).below hb4 (by simp; omega)
      have u4 := (u3.alloc (Obj.cells #[Value.int IntKind.i64 n, Value.int IntKind.i64 X] 24)).below hb4 (by simp; omega)
      have x4 := (x3.alloc (Obj.cells #[Value.int IntKind.i64 n, Value.int IntKind.i64 X] 24)).below hb4 (by simp; omega)
      have hB4 : Below w.heap.size w w4 := (by repeat (first | exact Below.refl _ _ | assumption | (refine Below.trans ?_ (Below.mono (by assumption) (by first | omega | (simp <;> omega)))) | (refine Below.alloc ?_ (by first | omega | (simp <;> omega)) _) | (refine below_drewN ?_ _) | (refine Below.drew ?_) | (refine Below.setCell ?_ (by first | omega | (simp <;> omega)) _)))
      clear t3 u3 x3 hb4 t3c t3d u3c u3d x3c x3d hB3
      have t5 := t4.alloc (Obj.cells #[Value.int IntKind.i64 n, Value.int IntKind.i64 X] 24)
      have u5 := u4.alloc (Obj.cells #[Value.int IntKind.i64 n, Value.int IntKind.i64 X] 24)
      have x5 := x4.alloc (Obj.cells #[Value.int IntKind.i64 n, Value.int IntKind.i64 X] 24)
      have b5 := Two.new w4 (.int .i64 n) (.int .i64 X) 24
      have hB5 : Below w.heap.size w (w4.alloc (Obj.cells #[Value.int IntKind.i64 n, Value.int IntKind.i64 X] 24)) := hB4.alloc (by have := hB4.size; omega) _
      have tl5 := t5.lt
      have ul5 := u5.lt
      have xl5 := x5.lt
      have bl5 := b5.lt
      clear t4 u4 x4 hB4
      go_wp2_with fail
      generalize w4.alloc (Obj.cells #[Value.int IntKind.i64 n, Value.int IntKind.i64 X] 24) = w5 at *
      have t5c := t5.cell0
      have t5d := t5.cell1
      have u5c := u5.cell0
      have u5d := u5.cell1
      have x5c := x5.cell0
      have x5d := x5.cell1
      have b5c := b5.cell0
      have b5d := b5.cell1
      go_region_held3 (fun w' => w'.cell? ⟨w1.heap.size, 0, none⟩ = some (.int .i64 n) ∧ w'.cell? ⟨w1.heap.size, 1, none⟩ = some (.int .i64 s) ∧ w'.cell? ⟨w1.heap.size + 1, 0, none⟩ = some (.int .i64 n) ∧ w'.cell? ⟨w1.heap.size + 1, 1, none⟩ = some (.int .i64 l) ∧ w'.cell? ⟨w2.heap.size, 0, none⟩ = some (.int .i64 n) ∧ w'.cell? ⟨w2.heap.size, 1, none⟩ = some (.int .i64 X) ∧ w'.cell? ⟨w4.heap.size, 0, none⟩ = some (.int .i64 n) ∧ w'.cell? ⟨w4.heap.size, 1, none⟩ = some (.int .i64 X)) (first | go_keep | exact ⟨t'c, t'd, u'c, u'd, x'c, x'd, b'c, b'd⟩ | exact ⟨((t'.set (b := _) (by omega) 0 _).set (b := _) (by omega) 1 _).cell0, ((t'.set (b := _) (by omega) 0 _).set (b := _) (by omega) 1 _).cell1, ((u'.set (b := _) (by omega) 0 _).set (b := _) (by omega) 1 _).cell0, ((u'.set (b := _) (by omega) 0 _).set (b := _) (by omega) 1 _).cell1, ((x'.set (b := _) (by omega) 0 _).set (b := _) (by omega) 1 _).cell0, ((x'.set (b := _) (by omega) 0 _).set (b := _) (by omega) 1 _).cell1, ((b'.set (b := _) (by omega) 0 _).set (b := _) (by omega) 1 _).cell0, ((b'.set (b := _) (by omega) 0 _).set (b := _) (by omega) 1 _).cell1⟩) (first | (go_at_call 23; refine (turnOk_any n X _).mono ?_; rintro e w' ⟨rfl, hb'⟩; have t' := Two.below (b := w1.heap.size) (x := .int .i64 n) (y := .int .i64 s) (T := 24) (by repeat (first | assumption | refine Two.alloc ?_ _)) hb' (by first | omega | (simp <;> omega)); have lt' := t'.lt; have t'c := t'.cell0; have t'd := t'.cell1; have u' := Two.below (b := w1.heap.size + 1) (x := .int .i64 n) (y := .int .i64 l) (T := 24) (by repeat (first | assumption | refine Two.alloc ?_ _)) hb' (by first | omega | (simp <;> omega)); have lu' := u'.lt; have u'c := u'.cell0; have u'd := u'.cell1; have x' := Two.below (b := w2.heap.size) (x := .int .i64 n) (y := .int .i64 X) (T := 24) (by repeat (first | assumption | refine Two.alloc ?_ _)) hb' (by first | omega | (simp <;> omega)); have lx' := x'.lt; have x'c := x'.cell0; have x'd := x'.cell1; have b' := Two.below (b := w4.heap.size) (x := .int .i64 n) (y := .int .i64 X) (T := 24) (by repeat (first | assumption | refine Two.alloc ?_ _)) hb' (by first | omega | (simp <;> omega)); have lb' := b'.lt; have b'c := b'.cell0; have b'd := b'.cell1; rw [E3.out]) | (go_at_call 22; refine (pointOf_any _ _ _ _).mono ?_; rintro e w' ⟨rfl, hb'⟩; have t' := Two.below (b := w1.heap.size) (x := .int .i64 n) (y := .int .i64 s) (T := 24) (by repeat (first | assumption | refine Two.alloc ?_ _)) hb' (by first | omega | (simp <;> omega)); have lt' := t'.lt; have t'c := t'.cell0; have t'd := t'.cell1; have u' := Two.below (b := w1.heap.size + 1) (x := .int .i64 n) (y := .int .i64 l) (T := 24) (by repeat (first | assumption | refine Two.alloc ?_ _)) hb' (by first | omega | (simp <;> omega)); have lu' := u'.lt; have u'c := u'.cell0; have u'd := u'.cell1; have x' := Two.below (b := w2.heap.size) (x := .int .i64 n) (y := .int .i64 X) (T := 24) (by repeat (first | assumption | refine Two.alloc ?_ _)) hb' (by first | omega | (simp <;> omega)); have lx' := x'.lt; have x'c := x'.cell0; have x'd := x'.cell1; have b' := Two.below (b := w4.heap.size) (x := .int .i64 n) (y := .int .i64 X) (T := 24) (by repeat (first | assumption | refine Two.alloc ?_ _)) hb' (by first | omega | (simp <;> omega)); have lb' := b'.lt; have b'c := b'.cell0; have b'd := b'.cell1; first | rw [E4.out] | rw [E5.out]))
      go_wp2
      go_ret
      exact ⟨rfl, (by repeat (first | exact Below.refl _ _ | assumption | (refine Below.trans ?_ (Below.mono (by assumption) (by first | omega | (simp <;> omega)))) | (refine Below.alloc ?_ (by first | omega | (simp <;> omega)) _) | (refine below_drewN ?_ _) | (refine Below.drew ?_) | (refine Below.setCell ?_ (by first | omega | (simp <;> omega)) _)))⟩
    · have E := Lib.hid (bothT_no h)
      rw [E.out]
      simp only
      go_wp2_with fail
      refine (specBothSteps_any _ _ _ _ _).mono ?_; rintro e w3 ⟨rfl, hb3⟩
      rw [E.out]
      simp only
      have x2 : Two (w2.alloc (Obj.cells #[Value.int IntKind.i64 0, Value.int IntKind.i64 0] 24)) w2.heap.size (.int .i64 0) (.int .i64 0) 24 := Two.new _ _ _ _
      have x3 := x2.below hb3 x2.lt
      have hB3 : Below w.heap.size w w3 := (by repeat (first | exact Below.refl _ _ | assumption | (refine Below.trans ?_ (Below.mono (by assumption) (by first | omega | (simp <;> omega)))) | (refine Below.alloc ?_ (by first | omega | (simp <;> omega)) _) | (refine below_drewN ?_ _) | (refine Below.drew ?_) | (refine Below.setCell ?_ (by first | omega | (simp <;> omega)) _)))
      have xl3 := x3.lt
      clear t2 u2 x2 hb3 t2c t2d u2c u2d hB2
      have xn3 : ¬ w2.heap.size = w3.heap.size := by omega
      have x3c := x3.cell0
      have x3d := x3.cell1
      go_wp2_with fail
      refine (alive_any _).mono ?_; rintro e w5 ⟨rfl, hb5⟩
      go_wp2
      go_ret
      exact ⟨rfl, (by repeat (first | exact Below.refl _ _ | assumption | (refine Below.trans ?_ (Below.mono (by assumption) (by first | omega | (simp <;> omega)))) | (refine Below.alloc ?_ (by first | omega | (simp <;> omega)) _) | (refine below_drewN ?_ _) | (refine Below.drew ?_) | (refine Below.setCell ?_ (by first | omega | (simp <;> omega)) _)))⟩

set_option maxRecDepth 100000 in
theorem lifted (os : Os) (started : os.Started) (H : Type) (enc : TypeId × Value → H) :
    ReturnsInHanded {} Try.checked os 4 .any (Rows.fnBothStepsSpec.pre6 enc Try.prog Try.f4 Rows.fnBothStepsRow.domain false) (Rows.fnBothStepsSpec.post enc Try.prog Try.f4 false true false false) := by
  refine returnsInHanded_of_change (C := Try.checked) own started (by kernel_rfl) Try.func4
    (ChangeSpec.witness6 (enc := enc) (C := Try.checked) false ⟨#[], #[.slice none 0 0], []⟩ 8 (by kernel_rfl) (by kernel_rfl) (by kernel_rfl) (by kernel_rfl)) ?_
  intro W base args ds gs before hval0 hW hcnd _
  have hval : ∀ (j : Nat) t v, Try.f4.params[j]? = some t → args[j]? = some v → Value.okWide Try.prog W .any base t v := hval0
  have hW' := hW
  obtain ⟨p, q, hA0, hV, rfl, hfz, hnd⟩ := hW
  have hA : DataW.TrodAll enc Try.prog W 0 (fun _ => true) true Try.f4.params.toList args.toList ds p := hA0
  rw [Try.params4] at hA hval
  obtain ⟨v0, vs0, d0, ds0, p0, q0, hargs, rfl, rfl, h0, r0⟩ := trodAll_cons hA
  obtain ⟨rfl, rfl, rfl⟩ := trodAll_nil r0
  obtain rfl : args = #[v0] := by cases args; simp_all
  obtain ⟨rfl, rfl⟩ := trodVars_none hV
  obtain ⟨acode, lencode, capcode, rfl⟩ := okWide_slice Try.underlying22 (hval 0 22 v0 rfl rfl)
  have k0 := h0
  have lt0 : ∀ x ∈ p0, x.block < W.heap.size := by obtain ⟨m, hm⟩ := k0; exact DataW.trod_lt m _ _ _ hm
  obtain ⟨zcode, rowcode⟩ : ∃ zs, IsRow .u8 W acode lencode capcode zs := by
    obtain ⟨fuel, hf⟩ := h0
    rcases open_ints Try.underlying22 Try.underlying5 (by kernel_rfl) hf with ⟨hcs, _⟩ | ⟨x, l, c, zs, hcs, _, hl, hm, hz, _, hcell, hwz⟩
    · simp [Value.cells] at hcs
      obtain ⟨rfl, rfl, rfl⟩ := hcs
      exact ⟨[], .inl ⟨rfl, rfl, rfl, rfl⟩⟩
    · simp [Value.cells] at hcs
      obtain ⟨rfl, rfl, rfl⟩ := hcs
      exact ⟨zs, .inr ⟨_, rfl, hl, hm, by simpa using hz, hcell, hwz⟩⟩
  clear hA0 hval0
  refine (walk acode lencode capcode zcode W rowcode).mono fun e W' ⟨he, bel⟩ => ?_
  subst he
  exact ⟨_, rfl, _, _, _, [], _, [], hW', trodAll_mk1 (shut_bool Try.underlying4 _), (trodAll_cons_mk (Below.trod laidOut (by kernel_rfl) (of_decide_eq_true (by kernel_rfl)) k0 bel lt0) trodAll_mk0), rfl, bel.frame _, fun h => by cases h⟩

theorem facts : joinedFacts Try.pinned.checked.prog 4 Try.f4 Rows.fnBothStepsSpec Rows.fnBothStepsRow = true := by
  simp only [joinedFacts, Bool.and_eq_true]
  repeat' apply And.intro
  all_goals first | rw [mayEnter_eq] | (rw [liftsFinal_eq]; kernel_rfl) | (rw [make_eq]; kernel_rfl) | kernel_rfl

theorem over : Rows.fnBothStepsRow.holds Try.pinned (OpenSpec.ofChange Rows.fnBothStepsSpec) :=
  OpenClaim.holds_of_wide 4 Try.f4 rfl rfl rfl rfl rfl rfl rfl ⟨rfl, rfl, rfl, rfl, rfl⟩ rfl rfl rfl rfl rfl (by kernel_rfl) Try.func4 facts
    (of_decide_eq_true (by kernel_rfl)) (by unfold Func.isWrapper; first | (rw [if_pos (by decide +kernel)]; kernel_rfl) | (rw [if_neg (by decide +kernel)]; exact ⟨rfl, rfl⟩))
    (fun os started H enc _ => lifted os started H enc)

theorem proved : Rows.FnBothStepsSaid := over
#print axioms proved
end Go.Proofs.Ytppahekbgbbidaa.lawBoth
