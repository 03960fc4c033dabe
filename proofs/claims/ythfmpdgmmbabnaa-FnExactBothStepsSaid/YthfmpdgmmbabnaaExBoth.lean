/- Proves that FnExactBothSteps returns true for all turns, and leaves them as they were. No conditions. -/
import Derived.Test.YthfmpdgmmbabnaaReg
set_option linter.unusedVariables false
namespace Go.Proofs.Ythfmpdgmmbabnaa.exBothSteps
open Go.ChangeShapes Go.WideShapes Go.ChangeAt Go.RowKit Go.Joins

set_option maxHeartbeats 4000000 in
theorem walk (n s m r : Int) (w : World) :
    Calls Try.prog 4 #[(.agg #[.int .i64 (n), .int .i64 (s)]), (.agg #[.int .i64 (m), .int .i64 (r)])] w fun e w' => e = .returned (.bool true) ∧ Below w.heap.size w w' := by
  
  go_enter Try.func4, Try.ntmps4
  go_wp2_with fail
  have t0 : Two ((w.alloc (Obj.cells #[Value.int IntKind.i64 n, Value.int IntKind.i64 s] 33)).alloc (Obj.cells #[Value.int IntKind.i64 m, Value.int IntKind.i64 r] 33)) w.heap.size (.int .i64 n) (.int .i64 s) 33 := (Two.new _ _ _ _).alloc _
  have u0 : Two ((w.alloc (Obj.cells #[Value.int IntKind.i64 n, Value.int IntKind.i64 s] 33)).alloc (Obj.cells #[Value.int IntKind.i64 m, Value.int IntKind.i64 r] 33)) (w.heap.size + 1) (.int .i64 m) (.int .i64 r) 33 := Two.new' _ _ _ _ _ (by simp)
  have hza : w.heap.size + 1 < ((w.alloc (Obj.cells #[Value.int IntKind.i64 n, Value.int IntKind.i64 s] 33)).alloc (Obj.cells #[Value.int IntKind.i64 m, Value.int IntKind.i64 r] 33)).heap.size := by simp
  have hB0 : Below w.heap.size w ((w.alloc (Obj.cells #[Value.int IntKind.i64 n, Value.int IntKind.i64 s] 33)).alloc (Obj.cells #[Value.int IntKind.i64 m, Value.int IntKind.i64 r] 33)) := (by repeat (first | exact Below.refl _ _ | assumption | (refine Below.trans ?_ (Below.mono (by assumption) (by first | omega | (simp <;> omega)))) | (refine Below.alloc ?_ (by first | omega | (simp <;> omega)) _) | (refine below_drewN ?_ _) | (refine Below.drew ?_) | (refine Below.setCell ?_ (by first | omega | (simp <;> omega)) _)))
  generalize ((w.alloc (Obj.cells #[Value.int IntKind.i64 n, Value.int IntKind.i64 s] 33)).alloc (Obj.cells #[Value.int IntKind.i64 m, Value.int IntKind.i64 r] 33)) = W0 at *
  have t0c := t0.cell0
  have t0d := t0.cell1
  have u0c := u0.cell0
  have u0d := u0.cell1
  obtain ⟨x, y, ok, hE⟩ : ∃ x y ok, bothT n s m r = ((x, y), ok) := ⟨_, _, _, rfl⟩
  have E := Lib.hid hE
  clear hE
  go_region_held3 (fun w' => w'.cell? ⟨w.heap.size, 0, none⟩ = some (.int .i64 n) ∧ w'.cell? ⟨w.heap.size, 1, none⟩ = some (.int .i64 s) ∧ w'.cell? ⟨w.heap.size + 1, 0, none⟩ = some (.int .i64 m) ∧ w'.cell? ⟨w.heap.size + 1, 1, none⟩ = some (.int .i64 r)) (first | go_keep | exact ⟨t'c, t'd, u'c, u'd⟩ | exact ⟨(set_away (by omega) _ _ _ _ _).trans t'c, (set_away (by omega) _ _ _ _ _).trans t'd, (set_away (by omega) _ _ _ _ _).trans u'c, (set_away (by omega) _ _ _ _ _).trans u'd⟩) (first | (go_at_call 18; refine (toTurn_any _ _ _).mono ?_; rintro e w' ⟨rfl, hb'⟩; have hsz' := hb'.size; (first | (have v' := Two.ofA (x := .int .i64 0) (y := .int .i64 0) (T := 24) hb' (by first | omega | (simp <;> omega)); have lv' := v'.lt; have v'c := v'.cell0; have v'd := v'.cell1; have fv0 := v'.free 0; have fv1 := v'.free 1) | (have v' := Two.ofD (x := .int .i64 0) (y := .int .i64 0) (T := 24) hb' (by first | omega | (simp <;> omega)); have lv' := v'.lt; have v'c := v'.cell0; have v'd := v'.cell1; have fv0 := v'.free 0; have fv1 := v'.free 1) | (have v' := Two.below (x := .int .i64 0) (y := .int .i64 0) (T := 24) (by assumption) hb' (by first | omega | (simp <;> omega)); have lv' := v'.lt; have v'c := v'.cell0; have v'd := v'.cell1; have fv0 := v'.free 0; have fv1 := v'.free 1) | skip); have t' : Two w' (w.heap.size) (.int .i64 n) (.int .i64 s) 33 := Two.below (by repeat (first | assumption | refine Two.alloc ?_ _ | refine Two.drew1 ?_)) hb' (by first | omega | (simp <;> omega)); have lt' := t'.lt; have t'c := t'.cell0; have t'd := t'.cell1; have u' : Two w' (w.heap.size + 1) (.int .i64 m) (.int .i64 r) 33 := Two.below (by repeat (first | assumption | refine Two.alloc ?_ _ | refine Two.drew1 ?_)) hb' (by first | omega | (simp <;> omega)); have lu' := u'.lt; have u'c := u'.cell0; have u'd := u'.cell1) | (go_at_call 14; refine (specBothSteps_any n s m r _).mono ?_; rintro e w' ⟨rfl, hb'⟩; rw [E.out]; have hsz' := hb'.size; (first | (have v' := Two.ofA (x := .int .i64 0) (y := .int .i64 0) (T := 24) hb' (by first | omega | (simp <;> omega)); have lv' := v'.lt; have v'c := v'.cell0; have v'd := v'.cell1; have fv0 := v'.free 0; have fv1 := v'.free 1) | (have v' := Two.ofD (x := .int .i64 0) (y := .int .i64 0) (T := 24) hb' (by first | omega | (simp <;> omega)); have lv' := v'.lt; have v'c := v'.cell0; have v'd := v'.cell1; have fv0 := v'.free 0; have fv1 := v'.free 1) | (have v' := Two.below (x := .int .i64 0) (y := .int .i64 0) (T := 24) (by assumption) hb' (by first | omega | (simp <;> omega)); have lv' := v'.lt; have v'c := v'.cell0; have v'd := v'.cell1; have fv0 := v'.free 0; have fv1 := v'.free 1) | skip); have t' : Two w' (w.heap.size) (.int .i64 n) (.int .i64 s) 33 := Two.below (by repeat (first | assumption | refine Two.alloc ?_ _ | refine Two.drew1 ?_)) hb' (by first | omega | (simp <;> omega)); have lt' := t'.lt; have t'c := t'.cell0; have t'd := t'.cell1; have u' : Two w' (w.heap.size + 1) (.int .i64 m) (.int .i64 r) 33 := Two.below (by repeat (first | assumption | refine Two.alloc ?_ _ | refine Two.drew1 ?_)) hb' (by first | omega | (simp <;> omega)); have lu' := u'.lt; have u'c := u'.cell0; have u'd := u'.cell1))
  all_goals (
    have hB1 : Below w.heap.size w w' := (by repeat (first | exact Below.refl _ _ | assumption | (refine Below.trans ?_ (Below.mono (by assumption) (by first | omega | (simp <;> omega)))) | (refine Below.alloc ?_ (by first | omega | (simp <;> omega)) _) | (refine below_drewN ?_ _) | (refine Below.drew ?_) | (refine Below.setCell ?_ (by first | omega | (simp <;> omega)) _)))
    first
    | (have g1 := Two.put (p := .int .i64 x) (q := .int .i64 y) v'
       have t1 := Two.after (.int .i64 x) (.int .i64 y) v' t' (by first | omega | (simp <;> omega))
       have u1 := Two.after (.int .i64 x) (.int .i64 y) v' u' (by first | omega | (simp <;> omega))
       have hB2 := Two.putB (.int .i64 x) (.int .i64 y) v' hB1 (by first | omega | (simp <;> omega))
       obtain ⟨B, hBv⟩ := v'.nm
       rw [hBv] at g1 t1 u1 hB2 ⊢
       have hBl : w.heap.size + 1 < B := by rw [← hBv]; first | omega | (simp <;> omega)
       clear hBv v' lv' v'c v'd fv0 fv1
       generalize ((w'.setCell ⟨B, 0, none⟩ (.int .i64 x)).setCell ⟨B, 1, none⟩ (.int .i64 y)) = W1 at *)
    | (have g1 := Two.new w' (.int .i64 x) (.int .i64 y) 24
       have t1 := t'.alloc (Obj.cells #[Value.int IntKind.i64 x, Value.int IntKind.i64 y] 24)
       have u1 := u'.alloc (Obj.cells #[Value.int IntKind.i64 x, Value.int IntKind.i64 y] 24)
       have hB2 := hB1.alloc (by have := hB1.size; omega) (Obj.cells #[Value.int IntKind.i64 x, Value.int IntKind.i64 y] 24)
       obtain ⟨B, hBv⟩ := g1.nm
       rw [hBv] at g1 ⊢
       have hBl : w.heap.size + 1 < B := by rw [← hBv]; omega
       clear hBv
       generalize w'.alloc (Obj.cells #[Value.int IntKind.i64 x, Value.int IntKind.i64 y] 24) = W1 at *)
    have g1c := g1.cell0; have g1d := g1.cell1; have t1c := t1.cell0; have t1d := t1.cell1; have u1c := u1.cell0; have u1d := u1.cell1
    have g1l := g1.lt; have t1l := t1.lt; have u1l := u1.lt
    clear hB1 t' u' t'c t'd u'c u'd hsz' hb'
    go_wp2_with fail
    go_region_held3 (fun w' => w'.cell? ⟨w.heap.size, 0, none⟩ = some (.int .i64 n) ∧ w'.cell? ⟨w.heap.size, 1, none⟩ = some (.int .i64 s) ∧ w'.cell? ⟨w.heap.size + 1, 0, none⟩ = some (.int .i64 m) ∧ w'.cell? ⟨w.heap.size + 1, 1, none⟩ = some (.int .i64 r)) (first | go_keep | exact ⟨t'c, t'd, u'c, u'd⟩ | exact ⟨(set_away (by omega) _ _ _ _ _).trans t'c, (set_away (by omega) _ _ _ _ _).trans t'd, (set_away (by omega) _ _ _ _ _).trans u'c, (set_away (by omega) _ _ _ _ _).trans u'd⟩) (first | (go_at_call 18; refine (toTurn_any _ _ _).mono ?_; rintro e w' ⟨rfl, hb'⟩; have hsz' := hb'.size; (first | (have v' := Two.ofA (x := .int .i64 0) (y := .int .i64 0) (T := 24) hb' (by first | omega | (simp <;> omega)); have lv' := v'.lt; have v'c := v'.cell0; have v'd := v'.cell1; have fv0 := v'.free 0; have fv1 := v'.free 1) | (have v' := Two.ofD (x := .int .i64 0) (y := .int .i64 0) (T := 24) hb' (by first | omega | (simp <;> omega)); have lv' := v'.lt; have v'c := v'.cell0; have v'd := v'.cell1; have fv0 := v'.free 0; have fv1 := v'.free 1) | (have v' := Two.below (x := .int .i64 0) (y := .int .i64 0) (T := 24) (by assumption) hb' (by first | omega | (simp <;> omega)); have lv' := v'.lt; have v'c := v'.cell0; have v'd := v'.cell1; have fv0 := v'.free 0; have fv1 := v'.free 1) | skip); have t' : Two w' (w.heap.size) (.int .i64 n) (.int .i64 s) 33 := Two.below (by repeat (first | assumption | refine Two.alloc ?_ _ | refine Two.drew1 ?_)) hb' (by first | omega | (simp <;> omega)); have lt' := t'.lt; have t'c := t'.cell0; have t'd := t'.cell1; have u' : Two w' (w.heap.size + 1) (.int .i64 m) (.int .i64 r) 33 := Two.below (by repeat (first | assumption | refine Two.alloc ?_ _ | refine Two.drew1 ?_)) hb' (by first | omega | (simp <;> omega)); have lu' := u'.lt; have u'c := u'.cell0; have u'd := u'.cell1; have g' : Two w' (B) (.int .i64 x) (.int .i64 y) 24 := Two.below (by repeat (first | assumption | refine Two.alloc ?_ _ | refine Two.drew1 ?_)) hb' (by first | omega | (simp <;> omega)); have lg' := g'.lt; have g'c := g'.cell0; have g'd := g'.cell1) | (go_at_call 13; refine (bothSteps_any n s m r _).mono ?_; rintro e w' ⟨rfl, hb'⟩; rw [E.out]; have hsz' := hb'.size; (first | (have v' := Two.ofA (x := .int .i64 0) (y := .int .i64 0) (T := 24) hb' (by first | omega | (simp <;> omega)); have lv' := v'.lt; have v'c := v'.cell0; have v'd := v'.cell1; have fv0 := v'.free 0; have fv1 := v'.free 1) | (have v' := Two.ofD (x := .int .i64 0) (y := .int .i64 0) (T := 24) hb' (by first | omega | (simp <;> omega)); have lv' := v'.lt; have v'c := v'.cell0; have v'd := v'.cell1; have fv0 := v'.free 0; have fv1 := v'.free 1) | (have v' := Two.below (x := .int .i64 0) (y := .int .i64 0) (T := 24) (by assumption) hb' (by first | omega | (simp <;> omega)); have lv' := v'.lt; have v'c := v'.cell0; have v'd := v'.cell1; have fv0 := v'.free 0; have fv1 := v'.free 1) | skip); have t' : Two w' (w.heap.size) (.int .i64 n) (.int .i64 s) 33 := Two.below (by repeat (first | assumption | refine Two.alloc ?_ _ | refine Two.drew1 ?_)) hb' (by first | omega | (simp <;> omega)); have lt' := t'.lt; have t'c := t'.cell0; have t'd := t'.cell1; have u' : Two w' (w.heap.size + 1) (.int .i64 m) (.int .i64 r) 33 := Two.below (by repeat (first | assumption | refine Two.alloc ?_ _ | refine Two.drew1 ?_)) hb' (by first | omega | (simp <;> omega)); have lu' := u'.lt; have u'c := u'.cell0; have u'd := u'.cell1; have g' : Two w' (B) (.int .i64 x) (.int .i64 y) 24 := Two.below (by repeat (first | assumption | refine Two.alloc ?_ _ | refine Two.drew1 ?_)) hb' (by first | omega | (simp <;> omega)); have lg' := g'.lt; have g'c := g'.cell0; have g'd := g'.cell1))
    all_goals (
      have hB3 : Below w.heap.size w w' := (by repeat (first | exact Below.refl _ _ | assumption | (refine Below.trans ?_ (Below.mono (by assumption) (by first | omega | (simp <;> omega)))) | (refine Below.alloc ?_ (by first | omega | (simp <;> omega)) _) | (refine below_drewN ?_ _) | (refine Below.drew ?_) | (refine Below.setCell ?_ (by first | omega | (simp <;> omega)) _)))
      first
      | (have h2 := Two.put (p := .int .i64 x) (q := .int .i64 y) v'
         have g2 := Two.after (.int .i64 x) (.int .i64 y) v' g' (by first | omega | (simp <;> omega))
         have hB4 := Two.putB (.int .i64 x) (.int .i64 y) v' hB3 (by first | omega | (simp <;> omega)))
      | (have h2 := Two.new w' (.int .i64 x) (.int .i64 y) 24
         have g2 := g'.alloc (Obj.cells #[Value.int IntKind.i64 x, Value.int IntKind.i64 y] 24)
         have hB4 := hB3.alloc (by have := hB3.size; omega) (Obj.cells #[Value.int IntKind.i64 x, Value.int IntKind.i64 y] 24))
      have h2c := h2.cell0; have h2d := h2.cell1; have g2c := g2.cell0; have g2d := g2.cell1
      go_wp2_with fail
      refine (eqTurn_any _ _ _ _ _).mono ?_; rintro e w9 ⟨rfl, hb9⟩
      rw [decide_eq_true (⟨rfl, rfl⟩ : _ ∧ _)]
      go_wp2
      go_ret
      exact ⟨rfl, hB4.trans (hb9.mono (by have := hB4.size; first | omega | (simp <;> omega)))⟩))

set_option maxRecDepth 100000 in
theorem lifted (os : Os) (started : os.Started) (H : Type) (enc : TypeId × Value → H) :
    ReturnsInHanded {} Try.checked os 4 .any (Rows.fnExactBothStepsSpec.pre6 enc Try.prog Try.f4 Rows.fnExactBothStepsRow.domain false) (Rows.fnExactBothStepsSpec.post enc Try.prog Try.f4 false true false false) := by
  refine returnsInHanded_of_change (C := Try.checked) own started (by kernel_rfl) Try.func4
    (ChangeSpec.witness6 (enc := enc) (C := Try.checked) false ⟨#[], #[.agg #[.int .i64 0, .int .i64 0], .agg #[.int .i64 0, .int .i64 0]], []⟩ 8 (by kernel_rfl) (by kernel_rfl) (by kernel_rfl) (by kernel_rfl)) ?_
  intro W base args ds gs before hval0 hW hcnd _
  have hval : ∀ (j : Nat) t v, Try.f4.params[j]? = some t → args[j]? = some v → Value.okWide Try.prog W .any base t v := hval0
  have hW' := hW
  obtain ⟨p, q, hA0, hV, rfl, hfz, hnd⟩ := hW
  have hA : DataW.TrodAll enc Try.prog W 0 (fun _ => true) true Try.f4.params.toList args.toList ds p := hA0
  rw [Try.params4] at hA hval
  obtain ⟨v0, vs0, d0, ds0, p0, q0, hargs, rfl, rfl, h0, r0⟩ := trodAll_cons hA
  obtain ⟨v1, vs1, d1, ds1, p1, q1, rfl, rfl, rfl, h1, r1⟩ := trodAll_cons r0
  obtain ⟨rfl, rfl, rfl⟩ := trodAll_nil r1
  obtain rfl : args = #[v0, v1] := by cases args; simp_all
  obtain ⟨rfl, rfl⟩ := trodVars_none hV
  have lt0 : ∀ x ∈ p0, x.block < W.heap.size := by obtain ⟨m, hm⟩ := h0; exact DataW.trod_lt m _ _ _ hm
  obtain ⟨n, s, rfl, wfn, wfs⟩ : ∃ n s : Int, v0 = .agg #[.int .i64 n, .int .i64 s] ∧ (Lit.int .i64 n).wf = true ∧ (Lit.int .i64 s).wf = true := by
    obtain ⟨c0, c1, y0, y1, m, hv, _, _, hy0, hy1⟩ := open_agg2 Try.underlying33 (by kernel_rfl) (by kernel_rfl) (hval 0 33 v0 rfl rfl) h0
    obtain ⟨n, e0, _, wn⟩ := DataW.trod_int Try.underlying3 hy0
    obtain ⟨s, e1, _, ws⟩ := DataW.trod_int Try.underlying3 hy1
    simp at e0 e1
    subst e0 e1
    exact ⟨n, s, hv, wn, ws⟩
  have lt1 : ∀ x ∈ p1, x.block < W.heap.size := by obtain ⟨m, hm⟩ := h1; exact DataW.trod_lt m _ _ _ hm
  obtain ⟨m, r, rfl, wfm, wfr⟩ : ∃ n s : Int, v1 = .agg #[.int .i64 n, .int .i64 s] ∧ (Lit.int .i64 n).wf = true ∧ (Lit.int .i64 s).wf = true := by
    obtain ⟨c0, c1, y0, y1, m, hv, _, _, hy0, hy1⟩ := open_agg2 Try.underlying33 (by kernel_rfl) (by kernel_rfl) (hval 1 33 v1 rfl rfl) h1
    obtain ⟨n, e0, _, wn⟩ := DataW.trod_int Try.underlying3 hy0
    obtain ⟨s, e1, _, ws⟩ := DataW.trod_int Try.underlying3 hy1
    simp at e0 e1
    subst e0 e1
    exact ⟨n, s, hv, wn, ws⟩
  clear hA0 hval0
  refine (walk n s m r W ).mono fun e W' ⟨he, bel⟩ => ?_
  subst he
  exact ⟨_, rfl, _, _, _, [], _, [], hW', trodAll_mk1 (shut_bool Try.underlying4 _), (trodAll_cons_mk (Below.trod laidOut (by kernel_rfl) (of_decide_eq_true (by kernel_rfl)) h0 bel lt0) (trodAll_cons_mk (Below.trod laidOut (by kernel_rfl) (of_decide_eq_true (by kernel_rfl)) h1 bel lt1) trodAll_mk0)), rfl, bel.frame _, fun h => by cases h⟩

theorem facts : joinedFacts Try.pinned.checked.prog 4 Try.f4 Rows.fnExactBothStepsSpec Rows.fnExactBothStepsRow = true := by
  simp only [joinedFacts, Bool.and_eq_true]
  repeat' apply And.intro
  all_goals first | rw [mayEnter_eq] | (rw [liftsFinal_eq]; kernel_rfl) | (rw [make_eq]; kernel_rfl) | kernel_rfl

theorem over : Rows.fnExactBothStepsRow.holds Try.pinned (OpenSpec.ofChange Rows.fnExactBothStepsSpec) :=
  OpenClaim.holds_of_wide 4 Try.f4 rfl rfl rfl rfl rfl rfl rfl ⟨rfl, rfl, rfl, rfl, rfl⟩ rfl rfl rfl rfl rfl (by kernel_rfl) Try.func4 facts
    (of_decide_eq_true (by kernel_rfl)) (by unfold Func.isWrapper; first | (rw [if_pos (by decide +kernel)]; kernel_rfl) | (rw [if_neg (by decide +kernel)]; exact ⟨rfl, rfl⟩))
    (fun os started H enc _ => lifted os started H enc)

theorem proved : Rows.FnExactBothStepsSaid := over
#print axioms proved
end Go.Proofs.Ythfmpdgmmbabnaa.exBothSteps
