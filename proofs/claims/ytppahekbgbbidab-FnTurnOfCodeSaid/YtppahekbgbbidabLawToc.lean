/- Proves that FnTurnOfCode returns true for every code, and leaves the code as it was. No conditions. -/
import Derived.Test.YtppahekbgbbidabHead
import Derived.Test.YtppahekbgbbidabExToc
import Derived.Test.YtppahekbgbbidabGDrawC
set_option linter.unusedVariables false
namespace Go.Proofs.Ytppahekbgbbidab.lawTurnOfCode
open Go.ChangeShapes Go.WideShapes Go.ChangeAt Go.RowKit Go.Joins

set_option maxHeartbeats 2000000 in
theorem walk (a : Option Addr) (len cap : Nat) (z : List Int) (w : World) (row : IsRow .u8 w a len cap z) :
    Calls Try.prog 15 #[.slice a len cap] w fun e w' => e = .returned (.bool true) ∧ Below w.heap.size w w' := by
  have hc := CodeIn.of row
  clear row
  by_cases hl : 1048576 < len
  · have hl' : (1048576 : Int) < len := by omega
    go_enter Try.func15, Try.ntmps15
    go_wp2
    go_ret
    exact ⟨rfl, (by repeat (first | exact Below.refl _ _ | assumption | (refine Below.trans ?_ (Below.mono (by assumption) (by first | omega | (simp <;> omega)))) | (refine Below.alloc ?_ (by first | omega | (simp <;> omega)) _) | (refine below_drewN ?_ _) | (refine Below.drew ?_) | (refine Below.setCell ?_ (by first | omega | (simp <;> omega)) _)))⟩
  · have hl' : ¬ (1048576 : Int) < len := by omega
    go_enter Try.func15, Try.ntmps15
    go_wp2_with fail
    refine (drawTurnOfCode_any a len cap _ hc (by omega)).mono ?_; rintro e w1 ⟨u, rfl, hu1, hb1⟩
    have hu : u.size ≤ 2000000 := by omega
    obtain ⟨p, q, ok, hI⟩ := toc_is u
    clear hc
    go_wp2_with fail
    refine (turnOfCode_is hI _ hu).mono ?_; rintro e w2 ⟨rfl, hb2⟩
    have t3 : Two (w2.alloc (.cells #[.int .i64 p, .int .i64 q] 24)) w2.heap.size (.int .i64 p) (.int .i64 q) 24 := Two.new _ _ _ _
    have hB3 : Below w.heap.size w (w2.alloc (.cells #[.int .i64 p, .int .i64 q] 24)) := (hb1.trans (hb2.mono hb1.size)).alloc (hb1.trans (hb2.mono hb1.size)).size _
    go_wp2_with fail
    refine (specTurnOfCode_is hI _ hu).mono ?_; rintro e w5 ⟨rfl, hb5⟩
    have t5 := t3.below hb5 t3.lt
    have hB5 := hB3.trans (hb5.mono hB3.size)
    have g6 : Two (w5.alloc (.cells #[.int .i64 p, .int .i64 q] 24)) w5.heap.size (.int .i64 p) (.int .i64 q) 24 := Two.new _ _ _ _
    have t6 := t5.alloc (.cells #[.int .i64 p, .int .i64 q] 24)
    have hB6 : Below w.heap.size w (w5.alloc (.cells #[.int .i64 p, .int .i64 q] 24)) := hB5.alloc hB5.size _
    have c0 := g6.cell0
    have c1 := g6.cell1
    have d0 := t6.cell0
    have d1 := t6.cell1
    clear t3 t5 hB3 hB5 hb1 hb2 hb5
    rcases hI with ⟨hP, rfl, rfl, rfl⟩ | ⟨hP, rfl, rfl, rfl⟩
    · have HT := Lib.hid hP.1
      have HV := Lib.hid hP.2
      clear hP
      go_wp2_with fail
      refine (turnOk_any _ _ _).mono ?_; rintro e w7 ⟨rfl, hb7⟩
      rw [HT.out]
      have t7 := t6.below hb7 t6.lt
      have hB7 := hB6.trans (hb7.mono hB6.size)
      have l0 := t7.cell0
      have l1 := t7.cell1
      clear hb7 t6 g6 c0 c1 d0 d1 hB6
      go_wp2_with fail
      refine (codeOf_any _ _ _ _ _).mono ?_; rintro e w8 ⟨rfl, hb8⟩
      rw [HV.out]
      have t8 := t7.below hb8 t7.lt
      have hB8 := hB7.trans (hb8.mono hB7.size)
      have k0 := t8.cell0
      have k1 := t8.cell1
      clear hb8 t7 hB7 l0 l1
      have hbq : (u.toList == u.toList) = true := by simp
      go_wp2
      go_ret
      exact ⟨rfl, hB8⟩
    · clear hP
      go_wp2_with fail
      refine (alive_any _).mono ?_; rintro e w7 ⟨rfl, hb7⟩
      have hB7 := hB6.trans (hb7.mono hB6.size)
      go_wp2
      go_ret
      exact ⟨rfl, hB7⟩

set_option maxRecDepth 100000 in
theorem lifted (os : Os) (started : os.Started) (H : Type) (enc : TypeId × Value → H) :
    ReturnsInHanded {} Try.checked os 15 .any (Rows.fnTurnOfCodeSpec.pre6 enc Try.prog Try.f15 Rows.fnTurnOfCodeRow.domain false) (Rows.fnTurnOfCodeSpec.post enc Try.prog Try.f15 false true false false) := by
  refine returnsInHanded_of_change (C := Try.checked) own started (by kernel_rfl) Try.func15
    (ChangeSpec.witness6 (enc := enc) (C := Try.checked) false ⟨#[], #[.slice none 0 0], []⟩ 8 (by kernel_rfl) (by kernel_rfl) (by kernel_rfl) (by kernel_rfl)) ?_
  intro W base args ds gs before hval0 hW hcnd _
  have hval : ∀ (j : Nat) t v, Try.f15.params[j]? = some t → args[j]? = some v → Value.okWide Try.prog W .any base t v := hval0
  have hW' := hW
  obtain ⟨p, q, hA0, hV, rfl, hfz, hnd⟩ := hW
  have hA : DataW.TrodAll enc Try.prog W 0 (fun _ => true) true Try.f15.params.toList args.toList ds p := hA0
  rw [Try.params15] at hA hval
  obtain ⟨v0, vs0, d0, ds0, p0, q0, hargs, rfl, rfl, h0, r0⟩ := trodAll_cons hA
  obtain ⟨rfl, rfl, rfl⟩ := trodAll_nil r0
  obtain rfl : args = #[v0] := by cases args; simp_all
  obtain ⟨rfl, rfl⟩ := trodVars_none hV
  obtain ⟨acode, lencode, capcode, rfl⟩ := okWide_slice Try.underlying22 (hval 0 22 v0 rfl rfl)
  have k0 := h0
  have lt0 : ∀ x ∈ p0, x.block < W.heap.size := by obtain ⟨m, hm⟩ := k0; exact DataW.trod_lt m _ _ _ hm
  obtain ⟨zcode, rowcode⟩ : ∃ zs, IsRow .u8 W acode lencode capcode zs := by
    obtain ⟨fuel, hf⟩ := h0
    rcases open_ints Try.underlying22 Try.underlying5 (by kernel_rfl) hf with ⟨hcs, _⟩ | ⟨x, l, c, zs, hcs, _, hl, hm, hz, _, hcell, hwz⟩
    · simp [Value.cells] at hcs
      obtain ⟨rfl, rfl, rfl⟩ := hcs
      exact ⟨[], .inl ⟨rfl, rfl, rfl, rfl⟩⟩
    · simp [Value.cells] at hcs
      obtain ⟨rfl, rfl, rfl⟩ := hcs
      exact ⟨zs, .inr ⟨_, rfl, hl, hm, by simpa using hz, hcell, hwz⟩⟩
  clear hA0 hval0
  refine (walk acode lencode capcode zcode W rowcode).mono fun e W' ⟨he, bel⟩ => ?_
  subst he
  exact ⟨_, rfl, _, _, _, [], _, [], hW', trodAll_mk1 (shut_bool Try.underlying4 _), (trodAll_cons_mk (Below.trod laidOut (by kernel_rfl) (of_decide_eq_true (by kernel_rfl)) k0 bel lt0) trodAll_mk0), rfl, bel.frame _, fun h => by cases h⟩

theorem facts : joinedFacts Try.pinned.checked.prog 15 Try.f15 Rows.fnTurnOfCodeSpec Rows.fnTurnOfCodeRow = true := by
  simp only [joinedFacts, Bool.and_eq_true]
  repeat' apply And.intro
  all_goals first | rw [mayEnter_eq] | (rw [liftsFinal_eq]; kernel_rfl) | (rw [make_eq]; kernel_rfl) | kernel_rfl

theorem over : Rows.fnTurnOfCodeRow.holds Try.pinned (OpenSpec.ofChange Rows.fnTurnOfCodeSpec) :=
  OpenClaim.holds_of_wide 15 Try.f15 rfl rfl rfl rfl rfl rfl rfl ⟨rfl, rfl, rfl, rfl, rfl⟩ rfl rfl rfl rfl rfl (by kernel_rfl) Try.func15 facts
    (of_decide_eq_true (by kernel_rfl)) (by unfold Func.isWrapper; first | (rw [if_pos (by decide +kernel)]; kernel_rfl) | (rw [if_neg (by decide +kernel)]; exact ⟨rfl, rfl⟩))
    (fun os started H enc _ => lifted os started H enc)

theorem proved : Rows.FnTurnOfCodeSaid := over
#print axioms proved
end Go.Proofs.Ytppahekbgbbidab.lawTurnOfCode
