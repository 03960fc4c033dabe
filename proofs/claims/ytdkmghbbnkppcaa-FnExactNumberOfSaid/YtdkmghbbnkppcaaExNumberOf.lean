/- Proves that FnExactNumberOf returns true for every turn and list of numbers, and leaves them as they were. No conditions. -/
import Derived.Test.YtdkmghbbnkppcaaHead
import Derived.Test.YtdkmghbbnkppcaaNumI
import Derived.Test.YtdkmghbbnkppcaaToI
import Derived.Test.YtdkmghbbnkppcaaGFun2
set_option linter.unusedVariables false
namespace Go.Proofs.Ytdkmghbbnkppcaa.exNumberOf

set_option maxRecDepth 4000
open Go.ChangeShapes Go.WideShapes Go.ChangeAt Go.RowKit Go.Joins

set_option maxHeartbeats 2000000 in
theorem walk (n s : Int) (a : Option Addr) (len cap : Nat) (z : List Int) (w : World) (row : IsRow .i64 w a len cap z) :
    Calls Try.prog 15 #[(.agg #[.int .i64 (n), .int .i64 (s)]), .slice a len cap] w fun e w' => e = .returned (.bool true) ∧ Below w.heap.size w w' := by
  obtain ⟨hr, hlen⟩ := Reads.of_row row
  clear row
  generalize z.take len = xs at *
  have t0 : Two (w.alloc (.cells #[.int .i64 n, .int .i64 s] 45)) w.heap.size (.int .i64 n) (.int .i64 s) 45 := Two.new _ _ _ _
  have hB0 : Below w.heap.size w (w.alloc (.cells #[.int .i64 n, .int .i64 s] 45)) := (by repeat (first | exact Below.refl _ _ | assumption | (refine Below.trans ?_ (Below.mono (by assumption) (by first | omega | (simp <;> omega)))) | (refine Below.alloc ?_ (by first | omega | (simp <;> omega)) _) | (refine below_drewN ?_ _) | (refine Below.drew ?_) | (refine Below.setCell ?_ (by first | omega | (simp <;> omega)) _)))
  have hr0 := hr.below hB0
  have c0 := t0.cell0
  have c1 := t0.cell1
  clear hr
  by_cases hl : 1048576 < len
  · have hl' : (1048576 : Int) < len := by omega
    clear hr0 t0
    go_enter Try.func15, Try.ntmps15
    go_wp2
    go_ret
    exact ⟨rfl, (by repeat (first | exact Below.refl _ _ | assumption | (refine Below.trans ?_ (Below.mono (by assumption) (by first | omega | (simp <;> omega)))) | (refine Below.alloc ?_ (by first | omega | (simp <;> omega)) _) | (refine below_drewN ?_ _) | (refine Below.drew ?_) | (refine Below.setCell ?_ (by first | omega | (simp <;> omega)) _)))⟩
  · have hl' : ¬ (1048576 : Int) < len := by omega
    have hx : xs.length ≤ 1048576 := by omega
    have hx2 : xs.length ≤ 2000000 := by omega
    clear hlen
    go_enter Try.func15, Try.ntmps15
    go_wp2_with fail
    refine (toTurn_any _ _ _).mono ?_; rintro e w1 ⟨rfl, hb1⟩
    have t1 := t0.below hb1 t0.lt
    have hr1 := hr0.below hb1
    have hB1 := hB0.trans (hb1.mono hB0.size)
    clear t0 hr0 hb1 hB0 c0 c1
    go_wp2_with fail
    refine (toIntS_any _ xs _ hr1 hx).mono ?_; rintro e w2 ⟨v2, rfl, ho2, hb2⟩
    have t2 := t1.below hb2 t1.lt
    have hr2 := hr1.below hb2
    have hB2 := hB1.trans (hb2.mono hB1.size)
    clear t1 hr1 hb2 hB1
    go_wp2_with fail
    refine (specNumberOf_any n s v2 xs _ ho2.reads hx2).mono ?_; rintro e w3 ⟨rfl, hb3⟩
    have t3 := t2.below hb3 t2.lt
    have hr3 := hr2.below hb3
    have hB3 := hB2.trans (hb3.mono hB2.size)
    clear t2 hr2 hb3 hB2 ho2
    go_wp2_with fail
    refine (toIntS_any _ xs _ hr3 hx).mono ?_; rintro e w4 ⟨v4, rfl, ho4, hb4⟩
    have t4 := t3.below hb4 t3.lt
    have hr4 := hr3.below hb4
    have hB4 := hB3.trans (hb4.mono hB3.size)
    have c0 := t4.cell0
    have c1 := t4.cell1
    clear t3 hr3 hb4 hB3
    go_wp2_with fail
    refine (toTurn_any _ _ _).mono ?_; rintro e w5 ⟨rfl, hb5⟩
    have ho5 := ho4.below hb5
    have hr5 := hr4.below hb5
    have hB5 := hB4.trans (hb5.mono hB4.size)
    clear t4 hr4 hb5 hB4 ho4 c0 c1
    go_wp2_with fail
    refine (numberOf_any n s v4 xs _ ho5.reads hx2).mono ?_; rintro e w6 ⟨rfl, hb6⟩
    have ho6 := ho5.below hb6
    have hr6 := hr5.below hb6
    have hB6 := hB5.trans (hb6.mono hB5.size)
    have hnn : (numF n s xs != numF n s xs) = false := by simp
    clear hr5 hb6 hB5 ho5
    go_wp2_with fail
    refine (toIntS_any _ xs _ hr6 hx).mono ?_; rintro e w7 ⟨v7, rfl, ho7, hb7⟩
    have ho7' := ho6.below hb7
    have hB7 := hB6.trans (hb7.mono hB6.size)
    clear hr6 hb7 hB6 ho6 hnn
    have h9 := (eqIntS_big v4 v7 xs xs w7 ho7'.reads ho7.reads hx2 hx2).mono (R' := fun e w' => e = .returned (.bool true) ∧ ∃ n, w' = w7.drewN n) (fun e w' h => ⟨by rw [h.1, decide_eq_true rfl], h.2⟩)
    go_wp2_with fail
    refine h9.mono ?_; rintro e w9 ⟨rfl, nq, rfl⟩
    have hB9 := below_drewN hB7 nq
    clear h9
    go_wp2
    go_ret
    exact ⟨rfl, hB9⟩

set_option maxRecDepth 100000 in
theorem lifted (os : Os) (started : os.Started) (H : Type) (enc : TypeId × Value → H) :
    ReturnsInHanded {} Try.checked os 15 .any (Rows.fnExactNumberOfSpec.pre6 enc Try.prog Try.f15 Rows.fnExactNumberOfRow.domain false) (Rows.fnExactNumberOfSpec.post enc Try.prog Try.f15 false true false false) := by
  refine returnsInHanded_of_change (C := Try.checked) own started (by kernel_rfl) Try.func15
    (ChangeSpec.witness6 (enc := enc) (C := Try.checked) false ⟨#[], #[.agg #[.int .i64 0, .int .i64 0], .slice none 0 0], []⟩ 8 (by kernel_rfl) (by kernel_rfl) (by kernel_rfl) (by kernel_rfl)) ?_
  intro W base args ds gs before hval0 hW hcnd _
  have hval : ∀ (j : Nat) t v, Try.f15.params[j]? = some t → args[j]? = some v → Value.okWide Try.prog W .any base t v := hval0
  have hW' := hW
  obtain ⟨p, q, hA0, hV, rfl, hfz, hnd⟩ := hW
  have hA : DataW.TrodAll enc Try.prog W 0 (fun _ => true) true Try.f15.params.toList args.toList ds p := hA0
  rw [Try.params15] at hA hval
  obtain ⟨v0, vs0, d0, ds0, p0, q0, hargs, rfl, rfl, h0, r0⟩ := trodAll_cons hA
  obtain ⟨v1, vs1, d1, ds1, p1, q1, rfl, rfl, rfl, h1, r1⟩ := trodAll_cons r0
  obtain ⟨rfl, rfl, rfl⟩ := trodAll_nil r1
  obtain rfl : args = #[v0, v1] := by cases args; simp_all
  obtain ⟨rfl, rfl⟩ := trodVars_none hV
  have lt0 : ∀ x ∈ p0, x.block < W.heap.size := by obtain ⟨m, hm⟩ := h0; exact DataW.trod_lt m _ _ _ hm
  obtain ⟨n, s, rfl, wfn, wfs⟩ : ∃ n s : Int, v0 = .agg #[.int .i64 n, .int .i64 s] ∧ (Lit.int .i64 n).wf = true ∧ (Lit.int .i64 s).wf = true := by
    obtain ⟨c0, c1, y0, y1, m, hv, _, _, hy0, hy1⟩ := open_agg2 Try.underlying45 (by kernel_rfl) (by kernel_rfl) (hval 0 45 v0 rfl rfl) h0
    obtain ⟨n, e0, _, wn⟩ := DataW.trod_int Try.underlying3 hy0
    obtain ⟨s, e1, _, ws⟩ := DataW.trod_int Try.underlying3 hy1
    simp at e0 e1
    subst e0 e1
    exact ⟨n, s, hv, wn, ws⟩
  obtain ⟨ad, lend, capd, rfl⟩ := okWide_slice Try.underlying26 (hval 1 26 v1 rfl rfl)
  have k1 := h1
  have lt1 : ∀ x ∈ p1, x.block < W.heap.size := by obtain ⟨m, hm⟩ := k1; exact DataW.trod_lt m _ _ _ hm
  obtain ⟨zd, rowd⟩ : ∃ zs, IsRow .i64 W ad lend capd zs := by
    obtain ⟨fuel, hf⟩ := h1
    rcases open_ints Try.underlying26 Try.underlying3 (by kernel_rfl) hf with ⟨hcs, _⟩ | ⟨x, l, c, zs, hcs, _, hl, hm, hz, _, hcell, hwz⟩
    · simp [Value.cells] at hcs
      obtain ⟨rfl, rfl, rfl⟩ := hcs
      exact ⟨[], .inl ⟨rfl, rfl, rfl, rfl⟩⟩
    · simp [Value.cells] at hcs
      obtain ⟨rfl, rfl, rfl⟩ := hcs
      exact ⟨zs, .inr ⟨_, rfl, hl, hm, by simpa using hz, hcell, hwz⟩⟩
  clear hA0 hval0
  refine (walk n s ad lend capd zd W rowd).mono fun e W' ⟨he, bel⟩ => ?_
  subst he
  exact ⟨_, rfl, _, _, _, [], _, [], hW', trodAll_mk1 (shut_bool Try.underlying4 _), (trodAll_cons_mk (Below.trod laidOut (by kernel_rfl) (of_decide_eq_true (by kernel_rfl)) h0 bel lt0) (trodAll_cons_mk (Below.trod laidOut (by kernel_rfl) (of_decide_eq_true (by kernel_rfl)) k1 bel lt1) trodAll_mk0)), rfl, bel.frame _, fun h => by cases h⟩

theorem facts : joinedFacts Try.pinned.checked.prog 15 Try.f15 Rows.fnExactNumberOfSpec Rows.fnExactNumberOfRow = true := by
  simp only [joinedFacts, Bool.and_eq_true]
  repeat' apply And.intro
  all_goals first | rw [mayEnter_eq] | (rw [liftsFinal_eq]; kernel_rfl) | (rw [make_eq]; kernel_rfl) | kernel_rfl

theorem over : Rows.fnExactNumberOfRow.holds Try.pinned (OpenSpec.ofChange Rows.fnExactNumberOfSpec) :=
  OpenClaim.holds_of_wide 15 Try.f15 rfl rfl rfl rfl rfl rfl rfl ⟨rfl, rfl, rfl, rfl, rfl⟩ rfl rfl rfl rfl rfl (by kernel_rfl) Try.func15 facts
    (of_decide_eq_true (by kernel_rfl)) (by unfold Func.isWrapper; first | (rw [if_pos (by decide +kernel)]; kernel_rfl) | (rw [if_neg (by decide +kernel)]; exact ⟨rfl, rfl⟩))
    (fun os started H enc _ => lifted os started H enc)

theorem proved : Rows.FnExactNumberOfSaid := over
#print axioms proved
end Go.Proofs.Ytdkmghbbnkppcaa.exNumberOf
