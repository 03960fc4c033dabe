/- Proves that FnFromQuotients returns true for every code, and leaves the code as it was. No conditions. -/
import Derived.Test.YtbdgginamnllaaaFromQ
import Derived.Test.YtbdgginamnllaaaDrawQ
import Derived.Test.YtbdgginamnllaaaQuot2
import Derived.Test.YtbdgginamnllaaaFun3
set_option linter.unusedVariables false
namespace Go.Proofs.Ytbdgginamnllaaa.lawFrom

set_option maxRecDepth 4000
open Go.ChangeShapes Go.WideShapes Go.ChangeAt Go.RowKit Go.Joins N

set_option maxHeartbeats 4000000 in
theorem walk (a : Option Addr) (len cap : Nat) (z : List Int) (w : World) (row : IsRow .u8 w a len cap z) :
    Calls Try.prog 7 #[.slice a len cap] w fun e w' => e = .returned (.bool true) ∧ Below w.heap.size w w' := by
  have hc := CodeIn.of row
  clear row
  by_cases hl : 1048576 < len
  · have hl' : (1048576 : Int) < len := by omega
    go_enter Try.func7, Try.ntmps7
    go_wp2
    go_ret
    exact ⟨rfl, (by repeat (first | exact Below.refl _ _ | assumption | (refine Below.trans ?_ (Below.mono (by assumption) (by first | omega | (simp <;> omega)))) | (refine Below.alloc ?_ (by first | omega | (simp <;> omega)) _) | (refine below_drewN ?_ _) | (refine Below.drew ?_) | (refine Below.setCell ?_ (by first | omega | (simp <;> omega)) _)))⟩
  · have hl' : ¬ (1048576 : Int) < len := by omega
    go_enter Try.func7, Try.ntmps7
    go_wp2_with fail
    refine (drawFromQuotients_any a len cap _ hc (by omega)).mono ?_; rintro e w1 ⟨v1, xs, rfl, ho1, hx, hb1⟩
    obtain ⟨⟨⟨p, q⟩, ok⟩, hf⟩ : ∃ x, fromF xs = x := ⟨_, rfl⟩
    have hz1 := hb1.size
    have hfi := fromQuotients_any v1 xs w1 ho1.reads (by omega)
    go_wp2_with fail
    refine hfi.mono ?_; rintro e w2 ⟨rfl, hb2⟩
    rw [hf]
    have ho2 := ho1.below hb2
    have hz2 := hb2.size
    have hB2 := hb1.trans (hb2.mono hz1)
    have t2 : Two (w2.alloc (.cells #[.int .i64 p, .int .i64 q] 24)) w2.heap.size (.int .i64 p) (.int .i64 q) 24 := Two.new _ _ _ _
    have hB3 : Below w.heap.size w (w2.alloc (.cells #[.int .i64 p, .int .i64 q] 24)) := hB2.alloc hB2.size _
    have ho3 := ho2.below ((Below.refl w2.heap.size w2).alloc (Nat.le_refl _) (.cells #[.int .i64 p, .int .i64 q] 24))
    have hsz3 : (w2.alloc (.cells #[.int .i64 p, .int .i64 q] 24)).heap.size = w2.heap.size + 1 := by simp
    have hfs := specFromQuotients_any v1 xs _ ho3.reads (by omega)
    clear hfi hb2 hb1 ho1 ho2
    go_wp2_with fail
    refine hfs.mono ?_; rintro e w4 ⟨rfl, hb4⟩
    rw [hf]
    have t4 := t2.below hb4 t2.lt
    have ho4 := ho3.below hb4
    have hB4 := hB3.trans (hb4.mono hB3.size)
    have hz4 : w2.heap.size < w4.heap.size := t4.lt
    have HF := Lib.hid hf
    have x5 : Two (w4.alloc (.cells #[.int .i64 p, .int .i64 q] 24)) w4.heap.size (.int .i64 p) (.int .i64 q) 24 := Two.new _ _ _ _
    have t5 := t4.alloc (.cells #[.int .i64 p, .int .i64 q] 24)
    have hB5 := hB4.alloc hB4.size (.cells #[.int .i64 p, .int .i64 q] 24)
    have ho5 := ho4.below ((Below.refl w4.heap.size w4).alloc (Nat.le_refl _) (.cells #[.int .i64 p, .int .i64 q] 24))
    have x5c := x5.cell0
    have x5d := x5.cell1
    have t5c := t5.cell0
    have t5d := t5.cell1
    clear hfs hb4 ho3 ho4 t2 t4 hB3 hB4 hB2 hf hsz3
    cases ok with
    | false =>
      have h0 := from_no (L := xs) (by rw [HF.out])
      have he : p = 0 ∧ q = 0 := by rw [HF.out] at h0; simpa using h0
      obtain ⟨rfl, rfl⟩ := he
      clear h0 HF
      go_wp2_with fail
      refine (alive_any _).mono ?_; rintro e w6 ⟨rfl, hb6⟩
      have hB6 := hB5.trans (hb6.mono hB5.size)
      go_wp2
      go_ret
      exact ⟨rfl, hB6⟩
    | true =>
      obtain ⟨hy1, na, nb, hy2, hy3⟩ := from_yes HF.out
      injection hy2 with e1 e2
      subst e1 e2
      have HQ : Hid (quotF (na : Int) nb = xs) := by
        show _ = _
        obtain ⟨A, B, eA, eB, hAB⟩ := tokN_of hy1
        have eA' : A = na := by omega
        have eB' : B = nb := by omega
        subst eA' eB'
        rw [quotF_yes hAB]; exact hy3
      have ht : tok (na : Int) (nb : Int) = true := hy1
      clear hy1 hy3 HF
      have hz5 : w2.heap.size < (w4.alloc (.cells #[.int .i64 (na : Int), .int .i64 (nb : Int)] 24)).heap.size := t5.lt
      go_wp2_with fail
      refine (turnOk_any _ _ _).mono ?_; rintro e w6 ⟨rfl, hb6⟩
      rw [ht]
      have t6 := t5.below hb6 hz5
      have t6c := t6.cell0
      have t6d := t6.cell1
      have ho6 := ho5.below hb6
      have hB6 := hB5.trans (hb6.mono hB5.size)
      clear hb6 t5 t5c t5d ho5 x5 x5c x5d hB5
      go_wp2_with fail
      refine (quotientsOf_any _ _ _).mono ?_; rintro e w7 ⟨v7, rfl, ho7, hb7⟩
      rw [HQ.out] at ho7
      have ho8 := ho6.below hb7
      have hB7 := hB6.trans (hb7.mono hB6.size)
      clear hb7 ho6 hB6
      go_wp2_with fail
      refine (sameInts_any _ _ _ _ _ ho7.reads ho8.reads (by omega) (by omega)).mono ?_; rintro e w8 ⟨rfl, nr, rfl⟩
      rw [decide_eq_true rfl]
      have hB8 := below_drewN hB7 nr
      clear ho7 ho8
      go_wp2
      go_ret
      exact ⟨rfl, hB8⟩

set_option maxRecDepth 100000 in
theorem lifted (os : Os) (started : os.Started) (H : Type) (enc : TypeId × Value → H) :
    ReturnsInHanded {} Try.checked os 7 .any (Rows.fnFromQuotientsSpec.pre6 enc Try.prog Try.f7 Rows.fnFromQuotientsRow.domain false) (Rows.fnFromQuotientsSpec.post enc Try.prog Try.f7 false true false false) := by
  refine returnsInHanded_of_change (C := Try.checked) own started (by kernel_rfl) Try.func7
    (ChangeSpec.witness6 (enc := enc) (C := Try.checked) false ⟨#[], #[.slice none 0 0], []⟩ 8 (by kernel_rfl) (by kernel_rfl) (by kernel_rfl) (by kernel_rfl)) ?_
  intro W base args ds gs before hval0 hW hcnd _
  have hval : ∀ (j : Nat) t v, Try.f7.params[j]? = some t → args[j]? = some v → Value.okWide Try.prog W .any base t v := hval0
  have hW' := hW
  obtain ⟨p, q, hA0, hV, rfl, hfz, hnd⟩ := hW
  have hA : DataW.TrodAll enc Try.prog W 0 (fun _ => true) true Try.f7.params.toList args.toList ds p := hA0
  rw [Try.params7] at hA hval
  obtain ⟨v0, vs0, d0, ds0, p0, q0, hargs, rfl, rfl, h0, r0⟩ := trodAll_cons hA
  obtain ⟨rfl, rfl, rfl⟩ := trodAll_nil r0
  obtain rfl : args = #[v0] := by cases args; simp_all
  obtain ⟨rfl, rfl⟩ := trodVars_none hV
  obtain ⟨acode, lencode, capcode, rfl⟩ := okWide_slice Try.underlying22 (hval 0 22 v0 rfl rfl)
  have k0 := h0
  have lt0 : ∀ x ∈ p0, x.block < W.heap.size := by obtain ⟨m, hm⟩ := k0; exact DataW.trod_lt m _ _ _ hm
  obtain ⟨zcode, rowcode⟩ : ∃ zs, IsRow .u8 W acode lencode capcode zs := by
    obtain ⟨fuel, hf⟩ := h0
    rcases open_ints Try.underlying22 Try.underlying5 (by kernel_rfl) hf with ⟨hcs, _⟩ | ⟨x, l, c, zs, hcs, _, hl, hm, hz, _, hcell, hwz⟩
    · simp [Value.cells] at hcs
      obtain ⟨rfl, rfl, rfl⟩ := hcs
      exact ⟨[], .inl ⟨rfl, rfl, rfl, rfl⟩⟩
    · simp [Value.cells] at hcs
      obtain ⟨rfl, rfl, rfl⟩ := hcs
      exact ⟨zs, .inr ⟨_, rfl, hl, hm, by simpa using hz, hcell, hwz⟩⟩
  clear hA0 hval0
  refine (walk acode lencode capcode zcode W rowcode).mono fun e W' ⟨he, bel⟩ => ?_
  subst he
  exact ⟨_, rfl, _, _, _, [], _, [], hW', trodAll_mk1 (shut_bool Try.underlying4 _), (trodAll_cons_mk (Below.trod laidOut (by kernel_rfl) (of_decide_eq_true (by kernel_rfl)) k0 bel lt0) trodAll_mk0), rfl, bel.frame _, fun h => by cases h⟩

theorem facts : joinedFacts Try.pinned.checked.prog 7 Try.f7 Rows.fnFromQuotientsSpec Rows.fnFromQuotientsRow = true := by
  simp only [joinedFacts, Bool.and_eq_true]
  repeat' apply And.intro
  all_goals first | rw [mayEnter_eq] | (rw [liftsFinal_eq]; kernel_rfl) | (rw [make_eq]; kernel_rfl) | kernel_rfl

theorem over : Rows.fnFromQuotientsRow.holds Try.pinned (OpenSpec.ofChange Rows.fnFromQuotientsSpec) :=
  OpenClaim.holds_of_wide 7 Try.f7 rfl rfl rfl rfl rfl rfl rfl ⟨rfl, rfl, rfl, rfl, rfl⟩ rfl rfl rfl rfl rfl (by kernel_rfl) Try.func7 facts
    (of_decide_eq_true (by kernel_rfl)) (by unfold Func.isWrapper; first | (rw [if_pos (by decide +kernel)]; kernel_rfl) | (rw [if_neg (by decide +kernel)]; exact ⟨rfl, rfl⟩))
    (fun os started H enc _ => lifted os started H enc)

theorem proved : Rows.FnFromQuotientsSaid := over
#print axioms proved
end Go.Proofs.Ytbdgginamnllaaa.lawFrom
