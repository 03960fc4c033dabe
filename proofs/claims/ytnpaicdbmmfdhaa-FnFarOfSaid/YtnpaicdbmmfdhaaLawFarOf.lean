/- Proves that FnFarOf returns true for every code, and leaves the code as it was. No conditions. -/
import Derived.Test.YtnpaicdbmmfdhaaHead
import Derived.Test.YtnpaicdbmmfdhaaFarS
import Derived.Test.YtnpaicdbmmfdhaaFarI
import Derived.Test.YtnpaicdbmmfdhaaDrawF
import Derived.Test.YtnpaicdbmmfdhaaNumI
import Derived.Test.YtnpaicdbmmfdhaaHas
import Derived.Test.YtnpaicdbmmfdhaaGFun2
set_option linter.unusedVariables false
namespace Go.Proofs.Ytnpaicdbmmfdhaa.lawFarOf

set_option maxRecDepth 4000
open Go.ChangeShapes Go.WideShapes Go.ChangeAt Go.RowKit Go.Joins

theorem castL_mem {x : Nat} {L : List Nat} : ((x : Int) ∈ castL L) ↔ x ∈ L := by
  simp only [castL, List.mem_map]
  constructor
  · rintro ⟨y, hy, e⟩
    have : y = x := by omega
    subst this; exact hy
  · intro h; exact ⟨x, h, rfl⟩

/-- what the law asks of how far it is -/
theorem far_facts {N S M : Nat} (hN : tokN N S = true) (hM : M ≤ N) : ∃ F D : Int, farF N S M = F ∧ dsumF N S M = D ∧ 0 ≤ F ∧ F ≤ 3600 ∧ -1 ≤ D ∧ D ≤ 1000 ∧ (M = N ∨ F ≤ 2 * (N : Int) * D) ∧ (0 < M ∧ M < N ∨ F = 0) ∧ ((M : Int) ∈ castL (basN N S) → F ≤ 2 * (N : Int)) := by
  obtain ⟨b1, b2, _⟩ := tokN_bd hN
  have h0 : 0 ≤ farF N S M := by rw [farF_yes hN hM]; exact maxI_pos _ _
  have h1 : farF N S M ≤ 3600 := by
    rw [farF_yes hN hM]
    refine maxI_le (by omega) _ fun j hj => ?_
    have := exC_bd (n := (N : Int)) (s := (S : Int)) (w := j) (by omega) (by omega) (by omega) (by omega) (m := M) (by omega)
    omega
  have hD : -1 ≤ dsumF N S M ∧ dsumF N S M ≤ 1000 := by
    by_cases c : M < N
    · rw [dsumF_yes hN c]
      have := sumD_le (M := digD (basAt N S) (bmN N S) M) (d := digD (basAt N S) (bmN N S) M) (m := bmN N S) (fun i _ => Nat.le_trans (Nat.div_le_self _ _) (Nat.le_trans (remD_le _ _ _ _) (by omega))) (bmN N S) (Nat.le_refl _)
      have := (bas_facts hN).2.1
      omega
    · rw [dsumF_no (fun h => by omega)]; omega
  refine ⟨_, _, rfl, rfl, h0, h1, hD.1, hD.2, ?_, ?_, fun hm => ?_⟩
  · by_cases c : M = N
    · exact .inl c
    · right
      have h := far_sum hN (show M < N by omega)
      rw [dsumF_yes hN (by omega)]
      exact farF_le hN hM (Int.mul_nonneg (by omega) (by omega)) h
  · by_cases c : M = 0
    · right; rw [c]; exact farF_none hN
    · by_cases d : M = N
      · right; rw [d]; exact farF_all hN
      · left; omega
  · have hq : M ∈ basN N S := castL_mem.1 hm
    have hlt : M < N := by
      obtain ⟨i, hi, e⟩ := List.getElem_of_mem hq
      have h := bas_lt hN (show i < bmN N S from hi)
      rw [basAt_get hi, List.getD_eq_getElem?_getD, List.getElem?_eq_getElem hi] at h
      simp at h
      omega
    exact farF_le hN hM (by omega) (far_bas hN hq hlt)

set_option maxHeartbeats 4000000 in
theorem walk (a : Option Addr) (len cap : Nat) (z : List Int) (w : World) (row : IsRow .u8 w a len cap z) :
    Calls Try.prog 3 #[.slice a len cap] w fun e w' => e = .returned (.bool true) ∧ Below w.heap.size w w' := by
  
  have hc := CodeIn.of row
  clear row
  by_cases hl : 1048576 < len
  · have hl' : (1048576 : Int) < len := by omega
    go_enter Try.func3, Try.ntmps3
    go_wp2
    go_ret
    exact ⟨rfl, (by repeat (first | exact Below.refl _ _ | assumption | (refine Below.trans ?_ (Below.mono (by assumption) (by first | omega | (simp <;> omega)))) | (refine Below.alloc ?_ (by first | omega | (simp <;> omega)) _) | (refine below_drewN ?_ _) | (refine Below.drew ?_) | (refine Below.setCell ?_ (by first | omega | (simp <;> omega)) _)))⟩
  · have hl' : ¬ (1048576 : Int) < len := by omega
    go_enter Try.func3, Try.ntmps3
    go_wp2_with fail
    refine (drawFarOf_any a len cap _ hc (by omega)).mono ?_; rintro e w1 ⟨n, s, m, rfl, n0, n1, hb1⟩
    have hz1 := hb1.size
    try simp at hz1
    go_wp2_with fail
    refine (farOf_any _ _ _ _).mono ?_; rintro e w2 ⟨rfl, hb2⟩
    have hz2 := hb2.size
    try simp at hz2
    have t2 : Two w2 (w1.heap.size) (.int .i64 n) (.int .i64 s) 24 := Two.below (by repeat (first | assumption | exact Two.new' _ _ _ _ _ (by simp) | refine Two.alloc ?_ _ | refine Two.drewN ?_ _)) hb2 (by first | omega | (simp <;> omega))
    have hlt2 : (w1.heap.size) < w2.heap.size := t2.lt
    have hnt2 : ¬ (w1.heap.size) = w2.heap.size := Nat.ne_of_lt hlt2
    have t2c := t2.cell0
    have t2d := t2.cell1
    go_wp2_with fail
    refine (specFarOf_any _ _ _ _).mono ?_; rintro e w3 ⟨rfl, hb3⟩
    have hz3 := hb3.size
    try simp at hz3
    have t3 : Two w3 (w1.heap.size) (.int .i64 n) (.int .i64 s) 24 := Two.below (by repeat (first | assumption | exact Two.new' _ _ _ _ _ (by simp) | refine Two.alloc ?_ _ | refine Two.drewN ?_ _)) hb3 (by first | omega | (simp <;> omega))
    have hlt3 : (w1.heap.size) < w3.heap.size := t3.lt
    have hnt3 : ¬ (w1.heap.size) = w3.heap.size := Nat.ne_of_lt hlt3
    have t3c := t3.cell0
    have t3d := t3.cell1
    have hB3 : Below w.heap.size w w3 := (by repeat (first | exact Below.refl _ _ | assumption | (refine Below.trans ?_ (Below.mono (by assumption) (by first | omega | (simp <;> omega)))) | (refine Below.alloc ?_ (by first | omega | (simp <;> omega)) _) | (refine below_drewN ?_ _) | (refine Below.drew ?_) | (refine Below.setCell ?_ (by first | omega | (simp <;> omega)) _)))
    cases h : farOkF n s m with
    | true =>
      obtain ⟨ht, h1, h2⟩ := farOk_iff.1 h
      obtain ⟨N, S, rfl, rfl, hN⟩ := tokN_of ht
      obtain ⟨M, rfl⟩ := Int.eq_ofNat_of_zero_le h1
      obtain ⟨b1, b2, _⟩ := tokN_bd hN
      have hMN : M ≤ N := by omega
      obtain ⟨F, D, eF, eD, f0, f1, d0, d1, q1, q2, q3⟩ := far_facts hN hMN
      have hDs := Lib.hid (fun w => digitSum_any (N : Int) (S : Int) (M : Int) w)
      rw [eD] at hDs
      have hBs := Lib.hid (fun w => basisOf_any (N : Int) (S : Int) w)
      rw [basisF_yes hN] at hBs
      have hbl : (castL (basN N S)).length ≤ 1000000 := by rw [castL_len]; have := (bas_facts hN).2.1; show bmN N S ≤ _; omega
      have hHas := Lib.hid (fun v w hr => hasInt_any v (castL (basN N S)) (M : Int) w hr hbl)
      rw [eF]
      have nd0 : (2 * (N : Int) * D).natAbs ≤ 120 * 1000 := by rw [Int.natAbs_mul]; exact Nat.mul_le_mul (by omega) (by omega)
      have hw1 : IntKind.i64.wrap (2 * (N : Int)) = 2 * (N : Int) := IntWalk.i64_in _ (by omega)
      have hw2 : IntKind.i64.wrap (2 * (N : Int) * D) = 2 * (N : Int) * D := IntWalk.i64_in _ (by omega)
      have x0 : ¬ F < 0 := by omega
      by_cases hin : (M : Int) ∈ castL (basN N S)
      · rw [decide_eq_true hin] at hHas
        have q3' := q3 hin
        generalize castL (basN N S) = BL at *
        clear hN ht h h1 eF eD hbl nd0 hb1 hb2 hb3 q3
        go_wp2_with fail
        refine (hDs.out _).mono ?_; rintro e w4 ⟨rfl, hb4⟩
        have t4 := t3.below hb4 t3.lt
        have t4c := t4.cell0
        have t4d := t4.cell1
        have hB4 := hB3.trans (hb4.mono hB3.size)
        clear t3 t3c t3d hb4 hB3
        by_cases c1 : M = N
        · have c1' : ((M : Int) == (N : Int)) = true := by rw [c1]; simp
          have hF0 : F = 0 := by omega
          have hF0' : (F == 0) = true := by rw [hF0]; rfl
          have cl : decide ((M : Int) < (N : Int)) = false := decide_eq_false (by omega)
          have cln : decide (M < N) = false := decide_eq_false (by omega)
          have cp : (0 : Int) < (M : Int) := by omega
          have cpn : 0 < M := by omega
          have hq3 : F ≤ 2 * (N : Int) := by omega
          clear c1 hF0 q1 q2
          go_wp2_with fail
          refine (hBs.out _).mono ?_; rintro e w5 ⟨v5, rfl, ho5, hb5⟩
          have t5 := t4.below hb5 t4.lt
          have t5c := t5.cell0
          have t5d := t5.cell1
          have hB5 := hB4.trans (hb5.mono hB4.size)
          clear hb5 t4 t4c t4d hB4
          go_wp2_with fail
          refine (hHas.out v5 _ ho5.reads).mono ?_; rintro e w6 ⟨rfl, rfl⟩
          clear ho5
          go_wp2
          go_ret
          first | exact ⟨rfl, hB5⟩ | exact ⟨ret_bool (by simp), hB5⟩
        · have c1' : ((M : Int) == (N : Int)) = false := by simp; omega
          have hle : F ≤ 2 * (N : Int) * D := by
            rcases q1 with h | h
            · exact absurd h c1
            · exact h
          have cl : (M : Int) < (N : Int) := by omega
          by_cases c2 : 0 < M
          · have cp : (0 : Int) < (M : Int) := by omega
            clear c1 q1 q2
            go_wp2_with fail
            refine (hBs.out _).mono ?_; rintro e w5 ⟨v5, rfl, ho5, hb5⟩
            have t5 := t4.below hb5 t4.lt
            have t5c := t5.cell0
            have t5d := t5.cell1
            have hB5 := hB4.trans (hb5.mono hB4.size)
            clear hb5 t4 t4c t4d hB4
            go_wp2_with fail
            refine (hHas.out v5 _ ho5.reads).mono ?_; rintro e w6 ⟨rfl, rfl⟩
            clear ho5
            go_wp2
            go_ret
            first | exact ⟨rfl, hB5⟩ | exact ⟨ret_bool (by simp), hB5⟩
          · have cp : decide ((0 : Int) < (M : Int)) = false := decide_eq_false (by omega)
            have cpn : decide (0 < M) = false := decide_eq_false c2
            have hF0 : F = 0 := by omega
            have hF0' : (F == 0) = true := by rw [hF0]; rfl
            clear c1 q1 q2 c2 hF0
            go_wp2_with fail
            refine (hBs.out _).mono ?_; rintro e w5 ⟨v5, rfl, ho5, hb5⟩
            have t5 := t4.below hb5 t4.lt
            have t5c := t5.cell0
            have t5d := t5.cell1
            have hB5 := hB4.trans (hb5.mono hB4.size)
            clear hb5 t4 t4c t4d hB4
            go_wp2_with fail
            refine (hHas.out v5 _ ho5.reads).mono ?_; rintro e w6 ⟨rfl, rfl⟩
            clear ho5
            go_wp2
            go_ret
            first | exact ⟨rfl, hB5⟩ | exact ⟨ret_bool (by simp), hB5⟩
      · rw [decide_eq_false hin] at hHas
        generalize castL (basN N S) = BL at *
        clear hN ht h h1 eF eD hbl nd0 hb1 hb2 hb3 q3 hin
        go_wp2_with fail
        refine (hDs.out _).mono ?_; rintro e w4 ⟨rfl, hb4⟩
        have t4 := t3.below hb4 t3.lt
        have t4c := t4.cell0
        have t4d := t4.cell1
        have hB4 := hB3.trans (hb4.mono hB3.size)
        clear t3 t3c t3d hb4 hB3
        by_cases c1 : M = N
        · have c1' : ((M : Int) == (N : Int)) = true := by rw [c1]; simp
          have hF0 : F = 0 := by omega
          have hF0' : (F == 0) = true := by rw [hF0]; rfl
          have cl : decide ((M : Int) < (N : Int)) = false := decide_eq_false (by omega)
          have cln : decide (M < N) = false := decide_eq_false (by omega)
          have cp : (0 : Int) < (M : Int) := by omega
          have cpn : 0 < M := by omega
          have hq3 : F ≤ 2 * (N : Int) := by omega
          clear c1 hF0 q1 q2
          go_wp2_with fail
          refine (hBs.out _).mono ?_; rintro e w5 ⟨v5, rfl, ho5, hb5⟩
          have t5 := t4.below hb5 t4.lt
          have t5c := t5.cell0
          have t5d := t5.cell1
          have hB5 := hB4.trans (hb5.mono hB4.size)
          clear hb5 t4 t4c t4d hB4
          go_wp2_with fail
          refine (hHas.out v5 _ ho5.reads).mono ?_; rintro e w6 ⟨rfl, rfl⟩
          clear ho5
          go_wp2
          go_ret
          first | exact ⟨rfl, hB5⟩ | exact ⟨ret_bool (by simp), hB5⟩
        · have c1' : ((M : Int) == (N : Int)) = false := by simp; omega
          have hle : F ≤ 2 * (N : Int) * D := by
            rcases q1 with h | h
            · exact absurd h c1
            · exact h
          have cl : (M : Int) < (N : Int) := by omega
          by_cases c2 : 0 < M
          · have cp : (0 : Int) < (M : Int) := by omega
            clear c1 q1 q2
            go_wp2_with fail
            refine (hBs.out _).mono ?_; rintro e w5 ⟨v5, rfl, ho5, hb5⟩
            have t5 := t4.below hb5 t4.lt
            have t5c := t5.cell0
            have t5d := t5.cell1
            have hB5 := hB4.trans (hb5.mono hB4.size)
            clear hb5 t4 t4c t4d hB4
            go_wp2_with fail
            refine (hHas.out v5 _ ho5.reads).mono ?_; rintro e w6 ⟨rfl, rfl⟩
            clear ho5
            go_wp2
            go_ret
            first | exact ⟨rfl, hB5⟩ | exact ⟨ret_bool (by simp), hB5⟩
          · have cp : decide ((0 : Int) < (M : Int)) = false := decide_eq_false (by omega)
            have cpn : decide (0 < M) = false := decide_eq_false c2
            have hF0 : F = 0 := by omega
            have hF0' : (F == 0) = true := by rw [hF0]; rfl
            clear c1 q1 q2 c2 hF0
            go_wp2_with fail
            refine (hBs.out _).mono ?_; rintro e w5 ⟨v5, rfl, ho5, hb5⟩
            have t5 := t4.below hb5 t4.lt
            have t5c := t5.cell0
            have t5d := t5.cell1
            have hB5 := hB4.trans (hb5.mono hB4.size)
            clear hb5 t4 t4c t4d hB4
            go_wp2_with fail
            refine (hHas.out v5 _ ho5.reads).mono ?_; rintro e w6 ⟨rfl, rfl⟩
            clear ho5
            go_wp2
            go_ret
            first | exact ⟨rfl, hB5⟩ | exact ⟨ret_bool (by simp), hB5⟩
    | false =>
      have e := farF_no (n := n) (s := s) (m := m) (by rw [h]; simp)
      rw [e]
      go_wp2_with fail
      refine (alive_any _).mono ?_; rintro e w4 ⟨rfl, hb4⟩
      have hB4 := hB3.trans (hb4.mono hB3.size)
      go_wp2
      go_ret
      exact ⟨rfl, hB4⟩

set_option maxRecDepth 100000 in
theorem lifted (os : Os) (started : os.Started) (H : Type) (enc : TypeId × Value → H) :
    ReturnsInHanded {} Try.checked os 3 .any (Rows.fnFarOfSpec.pre6 enc Try.prog Try.f3 Rows.fnFarOfRow.domain false) (Rows.fnFarOfSpec.post enc Try.prog Try.f3 false true false false) := by
  refine returnsInHanded_of_change (C := Try.checked) own started (by kernel_rfl) Try.func3
    (ChangeSpec.witness6 (enc := enc) (C := Try.checked) false ⟨#[], #[.slice none 0 0], []⟩ 8 (by kernel_rfl) (by kernel_rfl) (by kernel_rfl) (by kernel_rfl)) ?_
  intro W base args ds gs before hval0 hW hcnd _
  have hval : ∀ (j : Nat) t v, Try.f3.params[j]? = some t → args[j]? = some v → Value.okWide Try.prog W .any base t v := hval0
  have hW' := hW
  obtain ⟨p, q, hA0, hV, rfl, hfz, hnd⟩ := hW
  have hA : DataW.TrodAll enc Try.prog W 0 (fun _ => true) true Try.f3.params.toList args.toList ds p := hA0
  rw [Try.params3] at hA hval
  obtain ⟨v0, vs0, d0, ds0, p0, q0, hargs, rfl, rfl, h0, r0⟩ := trodAll_cons hA
  obtain ⟨rfl, rfl, rfl⟩ := trodAll_nil r0
  obtain rfl : args = #[v0] := by cases args; simp_all
  obtain ⟨rfl, rfl⟩ := trodVars_none hV
  obtain ⟨acode, lencode, capcode, rfl⟩ := okWide_slice Try.underlying22 (hval 0 22 v0 rfl rfl)
  have k0 := h0
  have lt0 : ∀ x ∈ p0, x.block < W.heap.size := by obtain ⟨m, hm⟩ := k0; exact DataW.trod_lt m _ _ _ hm
  obtain ⟨zcode, rowcode⟩ : ∃ zs, IsRow .u8 W acode lencode capcode zs := by
    obtain ⟨fuel, hf⟩ := h0
    rcases open_ints Try.underlying22 Try.underlying5 (by kernel_rfl) hf with ⟨hcs, _⟩ | ⟨x, l, c, zs, hcs, _, hl, hm, hz, _, hcell, hwz⟩
    · simp [Value.cells] at hcs
      obtain ⟨rfl, rfl, rfl⟩ := hcs
      exact ⟨[], .inl ⟨rfl, rfl, rfl, rfl⟩⟩
    · simp [Value.cells] at hcs
      obtain ⟨rfl, rfl, rfl⟩ := hcs
      exact ⟨zs, .inr ⟨_, rfl, hl, hm, by simpa using hz, hcell, hwz⟩⟩
  clear hA0 hval0
  refine (walk acode lencode capcode zcode W rowcode).mono fun e W' ⟨he, bel⟩ => ?_
  subst he
  exact ⟨_, rfl, _, _, _, [], _, [], hW', trodAll_mk1 (shut_bool Try.underlying4 _), (trodAll_cons_mk (Below.trod laidOut (by kernel_rfl) (of_decide_eq_true (by kernel_rfl)) k0 bel lt0) trodAll_mk0), rfl, bel.frame _, fun h => by cases h⟩

theorem facts : joinedFacts Try.pinned.checked.prog 3 Try.f3 Rows.fnFarOfSpec Rows.fnFarOfRow = true := by
  simp only [joinedFacts, Bool.and_eq_true]
  repeat' apply And.intro
  all_goals first | rw [mayEnter_eq] | (rw [liftsFinal_eq]; kernel_rfl) | (rw [make_eq]; kernel_rfl) | kernel_rfl

theorem over : Rows.fnFarOfRow.holds Try.pinned (OpenSpec.ofChange Rows.fnFarOfSpec) :=
  OpenClaim.holds_of_wide 3 Try.f3 rfl rfl rfl rfl rfl rfl rfl ⟨rfl, rfl, rfl, rfl, rfl⟩ rfl rfl rfl rfl rfl (by kernel_rfl) Try.func3 facts
    (of_decide_eq_true (by kernel_rfl)) (by unfold Func.isWrapper; first | (rw [if_pos (by decide +kernel)]; kernel_rfl) | (rw [if_neg (by decide +kernel)]; exact ⟨rfl, rfl⟩))
    (fun os started H enc _ => lifted os started H enc)

theorem proved : Rows.FnFarOfSaid := over
#print axioms proved
end Go.Proofs.Ytnpaicdbmmfdhaa.lawFarOf
