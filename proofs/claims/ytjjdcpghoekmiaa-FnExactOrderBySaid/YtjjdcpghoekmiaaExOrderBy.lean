/- Proves that FnExactOrderBy returns true for all numbers. No conditions. -/
import Derived.Test.YtjjdcpghoekmiaaOrdC
import Derived.Test.YtjjdcpghoekmiaaMark
set_option linter.unusedVariables false
namespace Go.Proofs.Ytjjdcpghoekmiaa.exOrderBy
open Go.ChangeShapes Go.WideShapes Go.ChangeAt Go.RowKit Go.Joins

set_option maxHeartbeats 1000000 in
theorem walk (m u d : Int) (w : World) :
    Calls Try.prog 9 #[.int .i64 m, .int .i64 u, .int .i64 d] w fun e w' => e = .returned (.bool true) ∧ Below w.heap.size w w' := by
  have hlen := orderByF_len m u d
  have hs := specOrderBy_any m u d
  have hi := orderBy_any m u d
  obtain ⟨⟨L, ok⟩, hx⟩ : ∃ x, orderByF m u d = x := ⟨_, rfl⟩
  rw [hx] at hlen hs hi
  unfold PairPost at hs hi
  dsimp only at hlen hs hi
  have hnn : (ok != ok) = false := by simp
  clear hx
  go_enter Try.func9, Try.ntmps9
  go_wp2_with fail
  refine (hs _).mono ?_; rintro e w1 ⟨v0, rfl, ho1, hb1⟩
  go_wp2_with fail
  refine (hi _).mono ?_; rintro e w2 ⟨v1, rfl, hp2, hb2⟩
  have ho2 := ho1.below hb2
  have hsz1 := hb1.size
  have hsz2 := hb2.size
  have hB2 : Below w.heap.size w w2 := hb1.trans (hb2.mono hsz1)
  have hlt0 := World.ownsRow.lt ho1
  have hlt1 := World.ownsRow.lt hp2
  clear ho1 hb1 hb2
  go_wp2_with fail
  refine (eqIntS_any v1 v0 L L _ (OwnL.reads hp2) (OwnL.reads ho2) (by omega) (by omega)).mono ?_; rintro e w3 ⟨rfl, nq, rfl⟩
  rw [decide_eq_true (rfl : L = L)]
  go_wp2_with fail
  refine (markIntS_any v1 L 1 w1.heap.size _ (show OwnL (w2.drewN nq) w1.heap.size v1 L from hp2) (by omega) (by omega) (by omega)).mono ?_; rintro e w4 ⟨rfl, hp4, hgr4, hs4⟩
  have ho4 : OwnL w4 w.heap.size v0 L := World.ownsRow.kept (w := w2.drewN nq) ho2 hgr4 (by
    cases h0 : v0.ownBlock with
    | none => exact .inl rfl
    | some q =>
      right
      intro e
      have a1 := hlt0 q h0
      have a2 := hlt1 q e.symm
      omega)
  have hB4 : Below w.heap.size w w4 := (below_drewN hB2 nq).grown hgr4 (by simp; omega) (fun q hq => by have := hlt1 q hq; omega)
  clear ho2 hp2 hgr4 hs4 hlt0 hlt1 hB2
  go_wp2_with fail
  refine (heldIntS_any v1 1 L.length _ (OwnL.reads hp4) (by omega) (by omega) (by omega)).mono ?_; rintro e w5 ⟨rfl, rfl⟩
  have hq : ¬ (1 + (L.length : Int)) < 0 := by omega
  go_wp2_with fail
  refine (hi _).mono ?_; rintro e w6 ⟨v2, rfl, hp6, hb6⟩
  have ho6 := ho4.below hb6
  have hq6 := hp4.below hb6
  have hB6 : Below w.heap.size w w6 := hB4.trans (hb6.mono hB4.size)
  clear hb6 ho4 hp4 hB4
  go_wp2_with fail
  refine (eqIntS_any v2 v0 L L _ (OwnL.reads hp6) (OwnL.reads ho6) (by omega) (by omega)).mono ?_; rintro e w7 ⟨rfl, nr, rfl⟩
  rw [decide_eq_true (rfl : L = L)]
  go_wp2_with fail
  refine (heldIntS_any v1 1 L.length _ (OwnL.reads (show OwnL (w6.drewN nr) w1.heap.size v1 (marksL 1 L.length) from hq6)) (by omega) (by omega) (by omega)).mono ?_; rintro e w8 ⟨rfl, rfl⟩
  go_wp2
  go_ret
  exact ⟨rfl, below_drewN hB6 nr⟩

set_option maxRecDepth 100000 in
theorem lifted (os : Os) (started : os.Started) (H : Type) (enc : TypeId × Value → H) :
    ReturnsInHanded {} Try.checked os 9 .any (Rows.fnExactOrderBySpec.pre6 enc Try.prog Try.f9 Rows.fnExactOrderByRow.domain false) (Rows.fnExactOrderBySpec.post enc Try.prog Try.f9 false true false false) := by
  refine returnsInHanded_of_change (C := Try.checked) own started (by kernel_rfl) Try.func9
    (ChangeSpec.witness6 (enc := enc) (C := Try.checked) false ⟨#[], #[.int .i64 0, .int .i64 0, .int .i64 0], []⟩ 8 (by kernel_rfl) (by kernel_rfl) (by kernel_rfl) (by kernel_rfl)) ?_
  intro W base args ds gs before hval0 hW hcnd _
  have hval : ∀ (j : Nat) t v, Try.f9.params[j]? = some t → args[j]? = some v → Value.okWide Try.prog W .any base t v := hval0
  have hW' := hW
  obtain ⟨p, q, hA0, hV, rfl, hfz, hnd⟩ := hW
  have hA : DataW.TrodAll enc Try.prog W 0 (fun _ => true) true Try.f9.params.toList args.toList ds p := hA0
  rw [Try.params9] at hA hval
  obtain ⟨v0, vs0, d0, ds0, p0, q0, hargs, rfl, rfl, h0, r0⟩ := trodAll_cons hA
  obtain ⟨v1, vs1, d1, ds1, p1, q1, rfl, rfl, rfl, h1, r1⟩ := trodAll_cons r0
  obtain ⟨v2, vs2, d2, ds2, p2, q2, rfl, rfl, rfl, h2, r2⟩ := trodAll_cons r1
  obtain ⟨rfl, rfl, rfl⟩ := trodAll_nil r2
  obtain rfl : args = #[v0, v1, v2] := by cases args; simp_all
  obtain ⟨rfl, rfl⟩ := trodVars_none hV
  obtain ⟨m, rfl, rfl, rfl, wfm⟩ := open_int Try.underlying3 (hval 0 3 v0 rfl rfl) h0
  obtain ⟨u, rfl, rfl, rfl, wfu⟩ := open_int Try.underlying3 (hval 1 3 v1 rfl rfl) h1
  obtain ⟨d, rfl, rfl, rfl, wfd⟩ := open_int Try.underlying3 (hval 2 3 v2 rfl rfl) h2
  clear hA0 hval0
  refine (walk m u d W ).mono fun e W' ⟨he, bel⟩ => ?_
  subst he
  exact ⟨_, rfl, _, _, _, [], _, [], hW', trodAll_mk1 (shut_bool Try.underlying4 _), (trodAll_cons_mk (shut_int Try.underlying3 wfm) (trodAll_cons_mk (shut_int Try.underlying3 wfu) (trodAll_cons_mk (shut_int Try.underlying3 wfd) trodAll_mk0))), rfl, bel.frame _, fun h => by cases h⟩

theorem facts : joinedFacts Try.pinned.checked.prog 9 Try.f9 Rows.fnExactOrderBySpec Rows.fnExactOrderByRow = true := by
  simp only [joinedFacts, Bool.and_eq_true]
  repeat' apply And.intro
  all_goals first | rw [mayEnter_eq] | (rw [liftsFinal_eq]; kernel_rfl) | (rw [make_eq]; kernel_rfl) | kernel_rfl

theorem over : Rows.fnExactOrderByRow.holds Try.pinned (OpenSpec.ofChange Rows.fnExactOrderBySpec) :=
  OpenClaim.holds_of_wide 9 Try.f9 rfl rfl rfl rfl rfl rfl rfl ⟨rfl, rfl, rfl, rfl, rfl⟩ rfl rfl rfl rfl rfl (by kernel_rfl) Try.func9 facts
    (of_decide_eq_true (by kernel_rfl)) (by unfold Func.isWrapper; first | (rw [if_pos (by decide +kernel)]; kernel_rfl) | (rw [if_neg (by decide +kernel)]; exact ⟨rfl, rfl⟩))
    (fun os started H enc _ => lifted os started H enc)

theorem proved : Rows.FnExactOrderBySaid := over
#print axioms proved
end Go.Proofs.Ytjjdcpghoekmiaa.exOrderBy
