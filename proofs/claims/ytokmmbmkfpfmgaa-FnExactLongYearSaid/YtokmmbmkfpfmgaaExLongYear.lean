/- Proves that FnExactLongYear returns true for every turn and numbers, and leaves them as they were. No conditions. -/
import Derived.Test.YtokmmbmkfpfmgaaHead
import Derived.Test.YtokmmbmkfpfmgaaYearI
import Derived.Test.YtokmmbmkfpfmgaaGFun2
set_option linter.unusedVariables false
namespace Go.Proofs.Ytokmmbmkfpfmgaa.exLongYear
set_option maxRecDepth 4000
open Go.ChangeShapes Go.WideShapes Go.ChangeAt Go.RowKit Go.Joins

set_option maxHeartbeats 1000000 in
theorem walk (n s y : Int) (w : World) :
    Calls Try.prog 9 #[(.agg #[.int .i64 (n), .int .i64 (s)]), .int .i64 y] w fun e w' => e = .returned (.bool true) ∧ Below w.heap.size w w' := by
  
  have hn0 : (lyF n s y != lyF n s y) = false := by simp
  go_enter Try.func9, Try.ntmps9
  go_wp2_with fail
  refine (toTurn_any _ _ _).mono ?_; rintro e w1 ⟨rfl, hb1⟩
  have hz1 := hb1.size
  try simp at hz1
  have t1 : Two w1 (w.heap.size) (.int .i64 n) (.int .i64 s) 40 := Two.below (by repeat (first | assumption | exact Two.new' _ _ _ _ _ (by simp) | refine Two.alloc ?_ _ | refine Two.drewN ?_ _)) hb1 (by first | omega | (simp <;> omega))
  have hlt1 : (w.heap.size) < w1.heap.size := t1.lt
  have hnt1 : ¬ (w.heap.size) = w1.heap.size := Nat.ne_of_lt hlt1
  have t1c := t1.cell0
  have t1d := t1.cell1
  go_wp2_with fail
  refine (specLongYear_any _ _ _ _).mono ?_; rintro e w2 ⟨rfl, hb2⟩
  have hz2 := hb2.size
  try simp at hz2
  have t2 : Two w2 (w.heap.size) (.int .i64 n) (.int .i64 s) 40 := Two.below (by repeat (first | assumption | exact Two.new' _ _ _ _ _ (by simp) | refine Two.alloc ?_ _ | refine Two.drewN ?_ _)) hb2 (by first | omega | (simp <;> omega))
  have hlt2 : (w.heap.size) < w2.heap.size := t2.lt
  have hnt2 : ¬ (w.heap.size) = w2.heap.size := Nat.ne_of_lt hlt2
  have t2c := t2.cell0
  have t2d := t2.cell1
  go_wp2_with fail
  refine (toTurn_any _ _ _).mono ?_; rintro e w3 ⟨rfl, hb3⟩
  have hz3 := hb3.size
  try simp at hz3
  have t3 : Two w3 (w.heap.size) (.int .i64 n) (.int .i64 s) 40 := Two.below (by repeat (first | assumption | exact Two.new' _ _ _ _ _ (by simp) | refine Two.alloc ?_ _ | refine Two.drewN ?_ _)) hb3 (by first | omega | (simp <;> omega))
  have hlt3 : (w.heap.size) < w3.heap.size := t3.lt
  have hnt3 : ¬ (w.heap.size) = w3.heap.size := Nat.ne_of_lt hlt3
  have t3c := t3.cell0
  have t3d := t3.cell1
  go_wp2_with fail
  refine (longYear_any _ _ _ _).mono ?_; rintro e w4 ⟨rfl, hb4⟩
  have hz4 := hb4.size
  try simp at hz4
  have t4 : Two w4 (w.heap.size) (.int .i64 n) (.int .i64 s) 40 := Two.below (by repeat (first | assumption | exact Two.new' _ _ _ _ _ (by simp) | refine Two.alloc ?_ _ | refine Two.drewN ?_ _)) hb4 (by first | omega | (simp <;> omega))
  have hlt4 : (w.heap.size) < w4.heap.size := t4.lt
  have hnt4 : ¬ (w.heap.size) = w4.heap.size := Nat.ne_of_lt hlt4
  have t4c := t4.cell0
  have t4d := t4.cell1
  go_wp2
  go_ret
  exact ⟨rfl, (by repeat (first | exact Below.refl _ _ | assumption | (refine Below.trans ?_ (Below.mono (by assumption) (by first | omega | (simp <;> omega)))) | (refine Below.alloc ?_ (by first | omega | (simp <;> omega)) _) | (refine below_drewN ?_ _) | (refine Below.drew ?_) | (refine Below.setCell ?_ (by first | omega | (simp <;> omega)) _)))⟩

set_option maxRecDepth 100000 in
theorem lifted (os : Os) (started : os.Started) (H : Type) (enc : TypeId × Value → H) :
    ReturnsInHanded {} Try.checked os 9 .any (Rows.fnExactLongYearSpec.pre6 enc Try.prog Try.f9 Rows.fnExactLongYearRow.domain false) (Rows.fnExactLongYearSpec.post enc Try.prog Try.f9 false true false false) := by
  refine returnsInHanded_of_change (C := Try.checked) own started (by kernel_rfl) Try.func9
    (ChangeSpec.witness6 (enc := enc) (C := Try.checked) false ⟨#[], #[.agg #[.int .i64 0, .int .i64 0], .int .i64 0], []⟩ 8 (by kernel_rfl) (by kernel_rfl) (by kernel_rfl) (by kernel_rfl)) ?_
  intro W base args ds gs before hval0 hW hcnd _
  have hval : ∀ (j : Nat) t v, Try.f9.params[j]? = some t → args[j]? = some v → Value.okWide Try.prog W .any base t v := hval0
  have hW' := hW
  obtain ⟨p, q, hA0, hV, rfl, hfz, hnd⟩ := hW
  have hA : DataW.TrodAll enc Try.prog W 0 (fun _ => true) true Try.f9.params.toList args.toList ds p := hA0
  rw [Try.params9] at hA hval
  obtain ⟨v0, vs0, d0, ds0, p0, q0, hargs, rfl, rfl, h0, r0⟩ := trodAll_cons hA
  obtain ⟨v1, vs1, d1, ds1, p1, q1, rfl, rfl, rfl, h1, r1⟩ := trodAll_cons r0
  obtain ⟨rfl, rfl, rfl⟩ := trodAll_nil r1
  obtain rfl : args = #[v0, v1] := by cases args; simp_all
  obtain ⟨rfl, rfl⟩ := trodVars_none hV
  have lt0 : ∀ x ∈ p0, x.block < W.heap.size := by obtain ⟨m, hm⟩ := h0; exact DataW.trod_lt m _ _ _ hm
  obtain ⟨n, s, rfl, wfn, wfs⟩ : ∃ n s : Int, v0 = .agg #[.int .i64 n, .int .i64 s] ∧ (Lit.int .i64 n).wf = true ∧ (Lit.int .i64 s).wf = true := by
    obtain ⟨c0, c1, y0, y1, m, hv, _, _, hy0, hy1⟩ := open_agg2 Try.underlying40 (by kernel_rfl) (by kernel_rfl) (hval 0 40 v0 rfl rfl) h0
    obtain ⟨n, e0, _, wn⟩ := DataW.trod_int Try.underlying3 hy0
    obtain ⟨s, e1, _, ws⟩ := DataW.trod_int Try.underlying3 hy1
    simp at e0 e1
    subst e0 e1
    exact ⟨n, s, hv, wn, ws⟩
  obtain ⟨y, rfl, rfl, rfl, wfy⟩ := open_int Try.underlying3 (hval 1 3 v1 rfl rfl) h1
  clear hA0 hval0
  refine (walk n s y W ).mono fun e W' ⟨he, bel⟩ => ?_
  subst he
  exact ⟨_, rfl, _, _, _, [], _, [], hW', trodAll_mk1 (shut_bool Try.underlying4 _), (trodAll_cons_mk (Below.trod laidOut (by kernel_rfl) (of_decide_eq_true (by kernel_rfl)) h0 bel lt0) (trodAll_cons_mk (shut_int Try.underlying3 wfy) trodAll_mk0)), rfl, bel.frame _, fun h => by cases h⟩

theorem facts : joinedFacts Try.pinned.checked.prog 9 Try.f9 Rows.fnExactLongYearSpec Rows.fnExactLongYearRow = true := by
  simp only [joinedFacts, Bool.and_eq_true]
  repeat' apply And.intro
  all_goals first | rw [mayEnter_eq] | (rw [liftsFinal_eq]; kernel_rfl) | (rw [make_eq]; kernel_rfl) | kernel_rfl

theorem over : Rows.fnExactLongYearRow.holds Try.pinned (OpenSpec.ofChange Rows.fnExactLongYearSpec) :=
  OpenClaim.holds_of_wide 9 Try.f9 rfl rfl rfl rfl rfl rfl rfl ⟨rfl, rfl, rfl, rfl, rfl⟩ rfl rfl rfl rfl rfl (by kernel_rfl) Try.func9 facts
    (of_decide_eq_true (by kernel_rfl)) (by unfold Func.isWrapper; first | (rw [if_pos (by decide +kernel)]; kernel_rfl) | (rw [if_neg (by decide +kernel)]; exact ⟨rfl, rfl⟩))
    (fun os started H enc _ => lifted os started H enc)

theorem proved : Rows.FnExactLongYearSaid := over
#print axioms proved
end Go.Proofs.Ytokmmbmkfpfmgaa.exLongYear
