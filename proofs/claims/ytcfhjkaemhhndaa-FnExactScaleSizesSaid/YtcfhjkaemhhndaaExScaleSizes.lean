/- Proves that FnExactScaleSizes returns true for every turn, and leaves it as it was. No conditions. -/
import Derived.Test.YtcfhjkaemhhndaaHead
import Derived.Test.YtcfhjkaemhhndaaMark
import Derived.Test.YtcfhjkaemhhndaaSclI
import Derived.Test.YtcfhjkaemhhndaaGFun2
set_option linter.unusedVariables false
namespace Go.Proofs.Ytcfhjkaemhhndaa.exScaleSizes
open Go.ChangeShapes Go.WideShapes Go.ChangeAt Go.RowKit Go.Joins

theorem scales_le (n s : Int) : (scalesF n s).length ≤ 61 := by
  by_cases ht : tok n s = true
  · have hb := tok_bd ht
    have := (scUp_facts n s (n.toNat + 1)).2.2
    unfold scalesF
    omega
  · rw [scalesF_no ht]; simp

set_option maxHeartbeats 1000000 in
theorem walk (n s : Int) (w : World) :
    Calls Try.prog 8 #[(.agg #[.int .i64 (n), .int .i64 (s)])] w fun e w' => e = .returned (.bool true) ∧ Below w.heap.size w w' := by
  
  have hlen := scales_le n s
  go_enter Try.func8, Try.ntmps8
  go_wp2_with fail
  refine (toTurn_any _ _ _).mono ?_; rintro e w1 ⟨rfl, hb1⟩
  have hz1 := hb1.size
  try simp at hz1
  have t1 : Two w1 (w.heap.size) (.int .i64 n) (.int .i64 s) 44 := Two.below (by repeat (first | assumption | exact Two.new' _ _ _ _ _ (by simp) | refine Two.alloc ?_ _ | refine Two.drewN ?_ _)) hb1 (by first | omega | (simp <;> omega))
  have hlt1 : (w.heap.size) < w1.heap.size := t1.lt
  have hnt1 : ¬ (w.heap.size) = w1.heap.size := Nat.ne_of_lt hlt1
  have t1c := t1.cell0
  have t1d := t1.cell1
  go_wp2_with fail
  refine (specScaleSizes_any _ _ _).mono ?_; rintro e w2 ⟨v0, rfl, ho2, hb2⟩
  have hz2 := hb2.size
  try simp at hz2
  have t2 : Two w2 (w.heap.size) (.int .i64 n) (.int .i64 s) 44 := Two.below (by repeat (first | assumption | exact Two.new' _ _ _ _ _ (by simp) | refine Two.alloc ?_ _ | refine Two.drewN ?_ _)) hb2 (by first | omega | (simp <;> omega))
  have hlt2 : (w.heap.size) < w2.heap.size := t2.lt
  have hnt2 : ¬ (w.heap.size) = w2.heap.size := Nat.ne_of_lt hlt2
  have t2c := t2.cell0
  have t2d := t2.cell1
  go_wp2_with fail
  refine (toTurn_any _ _ _).mono ?_; rintro e w3 ⟨rfl, hb3⟩
  have hz3 := hb3.size
  try simp at hz3
  have t3 : Two w3 (w.heap.size) (.int .i64 n) (.int .i64 s) 44 := Two.below (by repeat (first | assumption | exact Two.new' _ _ _ _ _ (by simp) | refine Two.alloc ?_ _ | refine Two.drewN ?_ _)) hb3 (by first | omega | (simp <;> omega))
  have hlt3 : (w.heap.size) < w3.heap.size := t3.lt
  have hnt3 : ¬ (w.heap.size) = w3.heap.size := Nat.ne_of_lt hlt3
  have t3c := t3.cell0
  have t3d := t3.cell1
  have ho3 := ho2.below hb3
  go_wp2_with fail
  refine (scaleSizes_any _ _ _).mono ?_; rintro e w4 ⟨v1, rfl, hp4, hb4⟩
  have hz4 := hb4.size
  try simp at hz4
  have t4 : Two w4 (w.heap.size) (.int .i64 n) (.int .i64 s) 44 := Two.below (by repeat (first | assumption | exact Two.new' _ _ _ _ _ (by simp) | refine Two.alloc ?_ _ | refine Two.drewN ?_ _)) hb4 (by first | omega | (simp <;> omega))
  have hlt4 : (w.heap.size) < w4.heap.size := t4.lt
  have hnt4 : ¬ (w.heap.size) = w4.heap.size := Nat.ne_of_lt hlt4
  have t4c := t4.cell0
  have t4d := t4.cell1
  have ho4 := ho3.below hb4
  have hB4 : Below w.heap.size w w4 := (by repeat (first | exact Below.refl _ _ | assumption | (refine Below.trans ?_ (Below.mono (by assumption) (by first | omega | (simp <;> omega)))) | (refine Below.alloc ?_ (by first | omega | (simp <;> omega)) _) | (refine below_drewN ?_ _) | (refine Below.drew ?_) | (refine Below.setCell ?_ (by first | omega | (simp <;> omega)) _)))
  generalize hL : scalesF n s = L at *
  have HL := Lib.hid hL
  clear hL
  have hlt0 := World.ownsRow.lt ho2
  have hlt1 := World.ownsRow.lt hp4
  have hsz : w2.heap.size ≤ w3.heap.size := hb3.size
  clear hb1 hb2 hb3 hb4 ho2 ho3
  go_wp2_with fail
  refine (eqIntS_any v1 v0 L L _ hp4.reads ho4.reads (by omega) (by omega)).mono ?_; rintro e w5 ⟨rfl, nq, rfl⟩
  rw [decide_eq_true (rfl : L = L)]
  go_wp2_with fail
  refine (markIntS_any v1 L 1 w3.heap.size _ (show OwnL (w4.drewN nq) w3.heap.size v1 L from hp4) (by omega) (by omega) (by omega)).mono ?_; rintro e w6 ⟨rfl, hp6, hgr6, hs6⟩
  have ho6 : OwnL w6 w1.heap.size v0 L := World.ownsRow.kept (w := w4.drewN nq) ho4 hgr6 (by
    cases h0 : v0.ownBlock with
    | none => exact .inl rfl
    | some q =>
      right
      intro e
      have a1 := hlt0 q h0
      have a2 := hlt1 q e.symm
      omega)
  have t6 : Two w6 w.heap.size (.int .i64 n) (.int .i64 s) 44 := (t4.drewN nq).same (hgr6.block _ (by simp; omega) (fun e => by have := hlt1 _ e.symm; omega))
  have hB6 : Below w.heap.size w w6 := (below_drewN hB4 nq).grown hgr6 (by simp; omega) (fun q hq => by have := hlt1 q hq; omega)
  have t6c := t6.cell0
  have t6d := t6.cell1
  have l6 := t6.lt
  clear ho4 hp4 hgr6 hs6 hlt0 hlt1 hB4
  go_wp2_with fail
  refine (heldIntS_any v1 1 L.length _ hp6.reads (by omega) (by omega) (by omega)).mono ?_; rintro e w7 ⟨rfl, rfl⟩
  have hq : ¬ (1 + (L.length : Int)) < 0 := by omega
  go_wp2_with fail
  refine (toTurn_any _ _ _).mono ?_; rintro e w8 ⟨rfl, hb8⟩
  have hz8 := hb8.size
  try simp at hz8
  have t8 : Two w8 (w.heap.size) (.int .i64 n) (.int .i64 s) 44 := Two.below (by repeat (first | assumption | exact Two.new' _ _ _ _ _ (by simp) | refine Two.alloc ?_ _ | refine Two.drewN ?_ _)) hb8 (by first | omega | (simp <;> omega))
  have hlt8 : (w.heap.size) < w8.heap.size := t8.lt
  have hnt8 : ¬ (w.heap.size) = w8.heap.size := Nat.ne_of_lt hlt8
  have t8c := t8.cell0
  have t8d := t8.cell1
  go_wp2_with fail
  refine (scaleSizes_any _ _ _).mono ?_; rintro e w9 ⟨v2, rfl, hp9, hb9⟩
  have hz9 := hb9.size
  try simp at hz9
  have t9 : Two w9 (w.heap.size) (.int .i64 n) (.int .i64 s) 44 := Two.below (by repeat (first | assumption | exact Two.new' _ _ _ _ _ (by simp) | refine Two.alloc ?_ _ | refine Two.drewN ?_ _)) hb9 (by first | omega | (simp <;> omega))
  have hlt9 : (w.heap.size) < w9.heap.size := t9.lt
  have hnt9 : ¬ (w.heap.size) = w9.heap.size := Nat.ne_of_lt hlt9
  have t9c := t9.cell0
  have t9d := t9.cell1
  have ho9 := (ho6.below hb8).below hb9
  have hq9 := (hp6.below hb8).below hb9
  have hB9 : Below w.heap.size w w9 := (by repeat (first | exact Below.refl _ _ | assumption | (refine Below.trans ?_ (Below.mono (by assumption) (by first | omega | (simp <;> omega)))) | (refine Below.alloc ?_ (by first | omega | (simp <;> omega)) _) | (refine below_drewN ?_ _) | (refine Below.drew ?_) | (refine Below.setCell ?_ (by first | omega | (simp <;> omega)) _)))
  clear hb8 hb9
  rw [HL.out] at hp9
  go_wp2_with fail
  refine (eqIntS_any v2 v0 L L _ hp9.reads ho9.reads (by omega) (by omega)).mono ?_; rintro e w10 ⟨rfl, nr, rfl⟩
  rw [decide_eq_true (rfl : L = L)]
  go_wp2_with fail
  refine (heldIntS_any v1 1 L.length _ (show OwnL (w9.drewN nr) w3.heap.size v1 (marksL 1 L.length) from hq9).reads (by omega) (by omega) (by omega)).mono ?_; rintro e w11 ⟨rfl, rfl⟩
  go_wp2
  go_ret
  exact ⟨rfl, below_drewN hB9 nr⟩

set_option maxRecDepth 100000 in
theorem lifted (os : Os) (started : os.Started) (H : Type) (enc : TypeId × Value → H) :
    ReturnsInHanded {} Try.checked os 8 .any (Rows.fnExactScaleSizesSpec.pre6 enc Try.prog Try.f8 Rows.fnExactScaleSizesRow.domain false) (Rows.fnExactScaleSizesSpec.post enc Try.prog Try.f8 false true false false) := by
  refine returnsInHanded_of_change (C := Try.checked) own started (by kernel_rfl) Try.func8
    (ChangeSpec.witness6 (enc := enc) (C := Try.checked) false ⟨#[], #[.agg #[.int .i64 0, .int .i64 0]], []⟩ 8 (by kernel_rfl) (by kernel_rfl) (by kernel_rfl) (by kernel_rfl)) ?_
  intro W base args ds gs before hval0 hW hcnd _
  have hval : ∀ (j : Nat) t v, Try.f8.params[j]? = some t → args[j]? = some v → Value.okWide Try.prog W .any base t v := hval0
  have hW' := hW
  obtain ⟨p, q, hA0, hV, rfl, hfz, hnd⟩ := hW
  have hA : DataW.TrodAll enc Try.prog W 0 (fun _ => true) true Try.f8.params.toList args.toList ds p := hA0
  rw [Try.params8] at hA hval
  obtain ⟨v0, vs0, d0, ds0, p0, q0, hargs, rfl, rfl, h0, r0⟩ := trodAll_cons hA
  obtain ⟨rfl, rfl, rfl⟩ := trodAll_nil r0
  obtain rfl : args = #[v0] := by cases args; simp_all
  obtain ⟨rfl, rfl⟩ := trodVars_none hV
  have lt0 : ∀ x ∈ p0, x.block < W.heap.size := by obtain ⟨m, hm⟩ := h0; exact DataW.trod_lt m _ _ _ hm
  obtain ⟨n, s, rfl, wfn, wfs⟩ : ∃ n s : Int, v0 = .agg #[.int .i64 n, .int .i64 s] ∧ (Lit.int .i64 n).wf = true ∧ (Lit.int .i64 s).wf = true := by
    obtain ⟨c0, c1, y0, y1, m, hv, _, _, hy0, hy1⟩ := open_agg2 Try.underlying44 (by kernel_rfl) (by kernel_rfl) (hval 0 44 v0 rfl rfl) h0
    obtain ⟨n, e0, _, wn⟩ := DataW.trod_int Try.underlying3 hy0
    obtain ⟨s, e1, _, ws⟩ := DataW.trod_int Try.underlying3 hy1
    simp at e0 e1
    subst e0 e1
    exact ⟨n, s, hv, wn, ws⟩
  clear hA0 hval0
  refine (walk n s W ).mono fun e W' ⟨he, bel⟩ => ?_
  subst he
  exact ⟨_, rfl, _, _, _, [], _, [], hW', trodAll_mk1 (shut_bool Try.underlying4 _), (trodAll_cons_mk (Below.trod laidOut (by kernel_rfl) (of_decide_eq_true (by kernel_rfl)) h0 bel lt0) trodAll_mk0), rfl, bel.frame _, fun h => by cases h⟩

theorem facts : joinedFacts Try.pinned.checked.prog 8 Try.f8 Rows.fnExactScaleSizesSpec Rows.fnExactScaleSizesRow = true := by
  simp only [joinedFacts, Bool.and_eq_true]
  repeat' apply And.intro
  all_goals first | rw [mayEnter_eq] | (rw [liftsFinal_eq]; kernel_rfl) | (rw [make_eq]; kernel_rfl) | kernel_rfl

theorem over : Rows.fnExactScaleSizesRow.holds Try.pinned (OpenSpec.ofChange Rows.fnExactScaleSizesSpec) :=
  OpenClaim.holds_of_wide 8 Try.f8 rfl rfl rfl rfl rfl rfl rfl ⟨rfl, rfl, rfl, rfl, rfl⟩ rfl rfl rfl rfl rfl (by kernel_rfl) Try.func8 facts
    (of_decide_eq_true (by kernel_rfl)) (by unfold Func.isWrapper; first | (rw [if_pos (by decide +kernel)]; kernel_rfl) | (rw [if_neg (by decide +kernel)]; exact ⟨rfl, rfl⟩))
    (fun os started H enc _ => lifted os started H enc)

theorem proved : Rows.FnExactScaleSizesSaid := over
#print axioms proved
end Go.Proofs.Ytcfhjkaemhhndaa.exScaleSizes
