/- Proves that FnReturnTimes returns true for every code, and leaves the code as it was. No conditions. -/
import Derived.Test.YtkhnnbgmckeoaaaHead
import Derived.Test.YtkhnnbgmckeoaaaRetJ
import Derived.Test.YtkhnnbgmckeoaaaRetT
import Derived.Test.YtkhnnbgmckeoaaaRetG
import Derived.Test.YtkhnnbgmckeoaaaDrawR
import Derived.Test.YtkhnnbgmckeoaaaLong
import Derived.Test.YtkhnnbgmckeoaaaFun3
set_option linter.unusedVariables false
namespace Go.Proofs.Ytkhnnbgmckeoaaa.lawReturnTimes

set_option maxRecDepth 4000
open Go.ChangeShapes Go.WideShapes Go.ChangeAt Go.RowKit Go.Joins N

set_option maxHeartbeats 2000000 in
theorem walk (a : Option Addr) (len cap : Nat) (z : List Int) (w : World) (row : IsRow .u8 w a len cap z) :
    Calls Try.prog 5 #[.slice a len cap] w fun e w' => e = .returned (.bool true) ∧ Below w.heap.size w w' := by
  
  have hc := CodeIn.of row
  clear row
  by_cases hl : 1048576 < len
  · have hl' : (1048576 : Int) < len := by omega
    go_enter Try.func5, Try.ntmps5
    go_wp2
    go_ret
    exact ⟨rfl, (by repeat (first | exact Below.refl _ _ | assumption | (refine Below.trans ?_ (Below.mono (by assumption) (by first | omega | (simp <;> omega)))) | (refine Below.alloc ?_ (by first | omega | (simp <;> omega)) _) | (refine below_drewN ?_ _) | (refine Below.drew ?_) | (refine Below.setCell ?_ (by first | omega | (simp <;> omega)) _)))⟩
  · have hl' : ¬ (1048576 : Int) < len := by omega
    go_enter Try.func5, Try.ntmps5
    go_wp2_with fail
    refine (drawReturnTimes_any a len cap _ hc (by omega)).mono ?_; rintro e w1 ⟨n, s, m, rfl, k0, k1, hb1⟩
    have hz1 := hb1.size
    try simp at hz1
    go_wp2_with fail
    refine (returnTimes_any _ _ _ _).mono ?_; rintro e w2 ⟨v1, rfl, hp2, hb2⟩
    have hz2 := hb2.size
    try simp at hz2
    have t2 : Two w2 (w1.heap.size) (.int .i64 n) (.int .i64 s) 24 := Two.below (by repeat (first | assumption | exact Two.new' _ _ _ _ _ (by simp) | refine Two.alloc ?_ _ | refine Two.drewN ?_ _)) hb2 (by first | omega | (simp <;> omega))
    have hlt2 : (w1.heap.size) < w2.heap.size := t2.lt
    have hnt2 : ¬ (w1.heap.size) = w2.heap.size := Nat.ne_of_lt hlt2
    have t2c := t2.cell0
    have t2d := t2.cell1
    go_wp2_with fail
    refine (specReturnTimes_any _ _ _ _).mono ?_; rintro e w3 ⟨v2, rfl, hq3, hb3⟩
    have hz3 := hb3.size
    try simp at hz3
    have t3 : Two w3 (w1.heap.size) (.int .i64 n) (.int .i64 s) 24 := Two.below (by repeat (first | assumption | exact Two.new' _ _ _ _ _ (by simp) | refine Two.alloc ?_ _ | refine Two.drewN ?_ _)) hb3 (by first | omega | (simp <;> omega))
    have hlt3 : (w1.heap.size) < w3.heap.size := t3.lt
    have hnt3 : ¬ (w1.heap.size) = w3.heap.size := Nat.ne_of_lt hlt3
    have t3c := t3.cell0
    have t3d := t3.cell1
    have hp3 := hp2.below hb3
    have hB3 : Below w.heap.size w w3 := (by repeat (first | exact Below.refl _ _ | assumption | (refine Below.trans ?_ (Below.mono (by assumption) (by first | omega | (simp <;> omega)))) | (refine Below.alloc ?_ (by first | omega | (simp <;> omega)) _) | (refine below_drewN ?_ _) | (refine Below.drew ?_) | (refine Below.setCell ?_ (by first | omega | (simp <;> omega)) _)))
    have hlen := rtimesF_len n s m
    clear hp2 hb1 hb2 hb3
    go_wp2_with fail
    refine (sameInts_any v1 v2 _ _ _ hp3.reads hq3.reads (by omega) (by omega)).mono ?_; rintro e w4 ⟨rfl, nq, rfl⟩
    rw [decide_eq_true rfl]
    have hB4 := below_drewN hB3 nq
    have hp4 : OwnL (w3.drewN nq) _ v1 (rtimesF n s m) := hp3
    clear hq3 hp3 hB3
    generalize w3.drewN nq = w4 at *
    by_cases h : tok n s = true ∧ 1 ≤ m ∧ m ≤ n
    · have hu := tok_inv h.1
      have e0 := rtimes_gaps h.1 h.2.1 h.2.2
      obtain ⟨ha, hne, h3, hs⟩ := kinds_three_of (n := n) (s := invF n s) (m := m) ⟨hu, h.2.1, h.2.2⟩
      have ht := Lib.hid (fun i hi => kind_bd_of (n := n) (s := invF n s) (m := m) ⟨hu, h.2.1, h.2.2⟩ i hi)
      rw [← e0] at ha hne h3 hs ht
      clear hu e0
      clear h
      obtain ⟨K, hK⟩ : ∃ K, (rtimesF n s m).length = K := ⟨_, rfl⟩
      have hK0 : K ≠ 0 := by rintro rfl; exact hne (nil_of_len hK)
      obtain ⟨ga, cap1, e1, HC0⟩ := hp4.reads.cells hK
      obtain ⟨g, off, rfl, HC⟩ := HC0 hK0
      have hr := hp4.reads
      subst e1
      have hm0 : ((K : Int) == 0) = false := by simp; omega
      rw [hK] at h3 hs
      have HA := Lib.hid ha
      clear HC0 hp4 hne ha
      by_cases hk3 : K = 3
      · subst hk3
        have c0 := HC.out 0 (by omega)
        have c1 := HC.out 1 (by omega)
        have c2 := HC.out 2 (by omega)
        rw [hs rfl] at c2
        have hb3 := ht.out 0 (by omega)
        have hb4 := ht.out 1 (by omega)
        generalize (rtimesF n s m).getD 0 0 = X at *
        generalize (rtimesF n s m).getD 1 0 = Y at *
        simp only [Nat.add_zero] at c0
        have wrX : IntKind.i64.wrap (X + Y) = X + Y := IntWalk.i64_in _ (by omega)
        clear HC hs
        go_wp2_with fail
        go_quiet ((go_at_call 31; exact Calls.quiet_of (ascend_any _ _ _ (by exact hr) (by omega) HA.out)))
        go_wp2
        go_ret
        exact ⟨rfl, below_drewN hB4 _⟩
      · have hk3' : (K : Int) < 3 := by omega
        have hk4 : (K : Int) ≤ 3 := by omega
        clear HC hs
        go_wp2_with fail
        go_quiet ((go_at_call 31; exact Calls.quiet_of (ascend_any _ _ _ (by exact hr) (by omega) HA.out)))
        go_wp2
        go_ret
        exact ⟨rfl, below_drewN hB4 _⟩
    · rw [rtimesF_no h] at *
      obtain ⟨ga, cap1, rfl⟩ := nil_cells hp4.reads
      clear hp4
      go_wp2_with fail
      refine (alive_any _).mono ?_; rintro e w5 ⟨rfl, hb5⟩
      go_wp2
      go_ret
      exact ⟨rfl, hB4.trans (hb5.mono hB4.size)⟩

set_option maxRecDepth 100000 in
theorem lifted (os : Os) (started : os.Started) (H : Type) (enc : TypeId × Value → H) :
    ReturnsInHanded {} Try.checked os 5 .any (Rows.fnReturnTimesSpec.pre6 enc Try.prog Try.f5 Rows.fnReturnTimesRow.domain false) (Rows.fnReturnTimesSpec.post enc Try.prog Try.f5 false true false false) := by
  refine returnsInHanded_of_change (C := Try.checked) own started (by kernel_rfl) Try.func5
    (ChangeSpec.witness6 (enc := enc) (C := Try.checked) false ⟨#[], #[.slice none 0 0], []⟩ 8 (by kernel_rfl) (by kernel_rfl) (by kernel_rfl) (by kernel_rfl)) ?_
  intro W base args ds gs before hval0 hW hcnd _
  have hval : ∀ (j : Nat) t v, Try.f5.params[j]? = some t → args[j]? = some v → Value.okWide Try.prog W .any base t v := hval0
  have hW' := hW
  obtain ⟨p, q, hA0, hV, rfl, hfz, hnd⟩ := hW
  have hA : DataW.TrodAll enc Try.prog W 0 (fun _ => true) true Try.f5.params.toList args.toList ds p := hA0
  rw [Try.params5] at hA hval
  obtain ⟨v0, vs0, d0, ds0, p0, q0, hargs, rfl, rfl, h0, r0⟩ := trodAll_cons hA
  obtain ⟨rfl, rfl, rfl⟩ := trodAll_nil r0
  obtain rfl : args = #[v0] := by cases args; simp_all
  obtain ⟨rfl, rfl⟩ := trodVars_none hV
  obtain ⟨acode, lencode, capcode, rfl⟩ := okWide_slice Try.underlying22 (hval 0 22 v0 rfl rfl)
  have k0 := h0
  have lt0 : ∀ x ∈ p0, x.block < W.heap.size := by obtain ⟨m, hm⟩ := k0; exact DataW.trod_lt m _ _ _ hm
  obtain ⟨zcode, rowcode⟩ : ∃ zs, IsRow .u8 W acode lencode capcode zs := by
    obtain ⟨fuel, hf⟩ := h0
    rcases open_ints Try.underlying22 Try.underlying5 (by kernel_rfl) hf with ⟨hcs, _⟩ | ⟨x, l, c, zs, hcs, _, hl, hm, hz, _, hcell, hwz⟩
    · simp [Value.cells] at hcs
      obtain ⟨rfl, rfl, rfl⟩ := hcs
      exact ⟨[], .inl ⟨rfl, rfl, rfl, rfl⟩⟩
    · simp [Value.cells] at hcs
      obtain ⟨rfl, rfl, rfl⟩ := hcs
      exact ⟨zs, .inr ⟨_, rfl, hl, hm, by simpa using hz, hcell, hwz⟩⟩
  clear hA0 hval0
  refine (walk acode lencode capcode zcode W rowcode).mono fun e W' ⟨he, bel⟩ => ?_
  subst he
  exact ⟨_, rfl, _, _, _, [], _, [], hW', trodAll_mk1 (shut_bool Try.underlying4 _), (trodAll_cons_mk (Below.trod laidOut (by kernel_rfl) (of_decide_eq_true (by kernel_rfl)) k0 bel lt0) trodAll_mk0), rfl, bel.frame _, fun h => by cases h⟩

theorem facts : joinedFacts Try.pinned.checked.prog 5 Try.f5 Rows.fnReturnTimesSpec Rows.fnReturnTimesRow = true := by
  simp only [joinedFacts, Bool.and_eq_true]
  repeat' apply And.intro
  all_goals first | rw [mayEnter_eq] | (rw [liftsFinal_eq]; kernel_rfl) | (rw [make_eq]; kernel_rfl) | kernel_rfl

theorem over : Rows.fnReturnTimesRow.holds Try.pinned (OpenSpec.ofChange Rows.fnReturnTimesSpec) :=
  OpenClaim.holds_of_wide 5 Try.f5 rfl rfl rfl rfl rfl rfl rfl ⟨rfl, rfl, rfl, rfl, rfl⟩ rfl rfl rfl rfl rfl (by kernel_rfl) Try.func5 facts
    (of_decide_eq_true (by kernel_rfl)) (by unfold Func.isWrapper; first | (rw [if_pos (by decide +kernel)]; kernel_rfl) | (rw [if_neg (by decide +kernel)]; exact ⟨rfl, rfl⟩))
    (fun os started H enc _ => lifted os started H enc)

theorem proved : Rows.FnReturnTimesSaid := over
#print axioms proved
end Go.Proofs.Ytkhnnbgmckeoaaa.lawReturnTimes
