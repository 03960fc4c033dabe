/- Proves that FnExactTurnedPairs returns true for every list of numbers, and leaves it as it was. No conditions. -/
import Derived.Test.YtjjdcpghoekmiaaTurned
import Derived.Test.YtjjdcpghoekmiaaToI
set_option linter.unusedVariables false
namespace Go.Proofs.Ytjjdcpghoekmiaa.exTurned

set_option maxRecDepth 4000
open Go.ChangeShapes Go.WideShapes Go.ChangeAt Go.RowKit Go.Joins

set_option maxHeartbeats 2000000 in
theorem walk (a : Option Addr) (len cap : Nat) (z : List Int) (w : World) (row : IsRow .i64 w a len cap z) :
    Calls Try.prog 11 #[.slice a len cap] w fun e w' => e = .returned (.bool true) ∧ Below w.heap.size w w' := by
  obtain ⟨hr, hlen⟩ := Reads.of_row row
  clear row
  generalize z.take len = xs at *
  by_cases hl : 1048576 < len
  · have hl' : (1048576 : Int) < len := by omega
    go_enter Try.func11, Try.ntmps11
    go_wp2
    go_ret
    exact ⟨rfl, (by repeat (first | exact Below.refl _ _ | assumption | (refine Below.trans ?_ (Below.mono (by assumption) (by first | omega | (simp <;> omega)))) | (refine Below.alloc ?_ (by first | omega | (simp <;> omega)) _) | (refine below_drewN ?_ _) | (refine Below.drew ?_) | (refine Below.setCell ?_ (by first | omega | (simp <;> omega)) _)))⟩
  · have hl' : ¬ (1048576 : Int) < len := by omega
    have hx : xs.length ≤ 1048576 := by omega
    have hx2 : xs.length ≤ 2000000 := by omega
    have h1 := toIntS_any _ xs w hr hx
    clear hlen
    go_enter Try.func11, Try.ntmps11
    go_wp2_with fail
    refine h1.mono ?_; rintro e w1 ⟨v1, rfl, ho1, hb1⟩
    have hf1 := specTurned_any v1 xs w1 ho1.reads hx2
    have hr1 := hr.below hb1
    clear h1 ho1
    go_wp2_with fail
    refine hf1.mono ?_; rintro e w2 ⟨rfl, nq, rfl⟩
    have hB2 := below_drewN hb1 nq
    have hr2 : Reads (w1.drewN nq) _ xs := hr1.below (below_drewN (Below.refl _ _) nq)
    have h4 := toIntS_any _ xs _ hr2 hx
    clear hf1 hb1 hr1 hr
    go_wp2_with fail
    refine h4.mono ?_; rintro e w4 ⟨v4, rfl, ho4, hb4⟩
    have hr4 := hr2.below hb4
    have hB4 := hB2.trans (hb4.mono hB2.size)
    have hf5 := turned_any v4 xs _ w4 ho4 hx2
    clear h4 hr2 hb4 hB2
    go_wp2_with fail
    refine hf5.mono ?_; rintro e w5 ⟨rfl, rfl⟩
    have h8 := toIntS_any _ xs _ hr4 hx
    clear hf5
    go_wp2_with fail
    refine h8.mono ?_; rintro e w8 ⟨v8, rfl, ho8, hb8⟩
    have ho9 := ho4.below hb8
    have hB8 := hB4.trans (hb8.mono hB4.size)
    have h9 := (eqIntS_big v4 v8 xs xs w8 (OwnL.reads ho9) ho8.reads hx2 hx2).mono (R' := fun e w' => e = .returned (.bool true) ∧ ∃ n, w' = w8.drewN n) (fun e w' h => ⟨by rw [h.1, decide_eq_true rfl], h.2⟩)
    clear h8 hb8 ho4 hr4 hB4
    go_wp2_with fail
    refine h9.mono ?_; rintro e w9 ⟨rfl, nq, rfl⟩
    have hB9 := below_drewN hB8 nq
    clear h9
    go_wp2
    go_ret
    exact ⟨rfl, hB9⟩

set_option maxRecDepth 100000 in
theorem lifted (os : Os) (started : os.Started) (H : Type) (enc : TypeId × Value → H) :
    ReturnsInHanded {} Try.checked os 11 .any (Rows.fnExactTurnedPairsSpec.pre6 enc Try.prog Try.f11 Rows.fnExactTurnedPairsRow.domain false) (Rows.fnExactTurnedPairsSpec.post enc Try.prog Try.f11 false true false false) := by
  refine returnsInHanded_of_change (C := Try.checked) own started (by kernel_rfl) Try.func11
    (ChangeSpec.witness6 (enc := enc) (C := Try.checked) false ⟨#[], #[.slice none 0 0], []⟩ 8 (by kernel_rfl) (by kernel_rfl) (by kernel_rfl) (by kernel_rfl)) ?_
  intro W base args ds gs before hval0 hW hcnd _
  have hval : ∀ (j : Nat) t v, Try.f11.params[j]? = some t → args[j]? = some v → Value.okWide Try.prog W .any base t v := hval0
  have hW' := hW
  obtain ⟨p, q, hA0, hV, rfl, hfz, hnd⟩ := hW
  have hA : DataW.TrodAll enc Try.prog W 0 (fun _ => true) true Try.f11.params.toList args.toList ds p := hA0
  rw [Try.params11] at hA hval
  obtain ⟨v0, vs0, d0, ds0, p0, q0, hargs, rfl, rfl, h0, r0⟩ := trodAll_cons hA
  obtain ⟨rfl, rfl, rfl⟩ := trodAll_nil r0
  obtain rfl : args = #[v0] := by cases args; simp_all
  obtain ⟨rfl, rfl⟩ := trodVars_none hV
  obtain ⟨acode, lencode, capcode, rfl⟩ := okWide_slice Try.underlying27 (hval 0 27 v0 rfl rfl)
  have k0 := h0
  have lt0 : ∀ x ∈ p0, x.block < W.heap.size := by obtain ⟨m, hm⟩ := k0; exact DataW.trod_lt m _ _ _ hm
  obtain ⟨zcode, rowcode⟩ : ∃ zs, IsRow .i64 W acode lencode capcode zs := by
    obtain ⟨fuel, hf⟩ := h0
    rcases open_ints Try.underlying27 Try.underlying3 (by kernel_rfl) hf with ⟨hcs, _⟩ | ⟨x, l, c, zs, hcs, _, hl, hm, hz, _, hcell, hwz⟩
    · simp [Value.cells] at hcs
      obtain ⟨rfl, rfl, rfl⟩ := hcs
      exact ⟨[], .inl ⟨rfl, rfl, rfl, rfl⟩⟩
    · simp [Value.cells] at hcs
      obtain ⟨rfl, rfl, rfl⟩ := hcs
      exact ⟨zs, .inr ⟨_, rfl, hl, hm, by simpa using hz, hcell, hwz⟩⟩
  clear hA0 hval0
  refine (walk acode lencode capcode zcode W rowcode).mono fun e W' ⟨he, bel⟩ => ?_
  subst he
  exact ⟨_, rfl, _, _, _, [], _, [], hW', trodAll_mk1 (shut_bool Try.underlying4 _), (trodAll_cons_mk (Below.trod laidOut (by kernel_rfl) (of_decide_eq_true (by kernel_rfl)) k0 bel lt0) trodAll_mk0), rfl, bel.frame _, fun h => by cases h⟩

theorem facts : joinedFacts Try.pinned.checked.prog 11 Try.f11 Rows.fnExactTurnedPairsSpec Rows.fnExactTurnedPairsRow = true := by
  simp only [joinedFacts, Bool.and_eq_true]
  repeat' apply And.intro
  all_goals first | rw [mayEnter_eq] | (rw [liftsFinal_eq]; kernel_rfl) | (rw [make_eq]; kernel_rfl) | kernel_rfl

theorem over : Rows.fnExactTurnedPairsRow.holds Try.pinned (OpenSpec.ofChange Rows.fnExactTurnedPairsSpec) :=
  OpenClaim.holds_of_wide 11 Try.f11 rfl rfl rfl rfl rfl rfl rfl ⟨rfl, rfl, rfl, rfl, rfl⟩ rfl rfl rfl rfl rfl (by kernel_rfl) Try.func11 facts
    (of_decide_eq_true (by kernel_rfl)) (by unfold Func.isWrapper; first | (rw [if_pos (by decide +kernel)]; kernel_rfl) | (rw [if_neg (by decide +kernel)]; exact ⟨rfl, rfl⟩))
    (fun os started H enc _ => lifted os started H enc)

theorem proved : Rows.FnExactTurnedPairsSaid := over
#print axioms proved
end Go.Proofs.Ytjjdcpghoekmiaa.exTurned
