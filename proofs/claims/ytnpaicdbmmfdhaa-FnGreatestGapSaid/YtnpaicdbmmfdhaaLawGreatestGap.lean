/- Proves that FnGreatestGap returns true for every code, and leaves the code as it was. No conditions. -/
import Derived.Test.YtnpaicdbmmfdhaaHead
import Derived.Test.YtnpaicdbmmfdhaaFarS
import Derived.Test.YtnpaicdbmmfdhaaFarI
import Derived.Test.YtnpaicdbmmfdhaaDrawF
import Derived.Test.YtnpaicdbmmfdhaaHas
import Derived.Test.YtnpaicdbmmfdhaaGFun2
set_option linter.unusedVariables false
namespace Go.Proofs.Ytnpaicdbmmfdhaa.lawGreatestGap

set_option maxRecDepth 4000
open Go.ChangeShapes Go.WideShapes Go.ChangeAt Go.RowKit Go.Joins

/-- what the law asks of one point more -/
theorem more_facts {n s : Int} {m : Nat} (ht : tok n s = true) (h1 : 1 ≤ m) (hm : (m : Int) ≤ n) : ∃ Y : Int, greatF n s ((m : Int) + 1) = Y ∧ (Y < 0 ∨ Y ≤ greatF n s m) := by
  refine ⟨_, rfl, ?_⟩
  by_cases c : (m : Int) < n
  · right
    have h := great_more ht h1 c
    rwa [show ((m + 1 : Nat) : Int) = (m : Int) + 1 by omega] at h
  · left
    rw [greatF_no (fun h => by omega)]
    omega

set_option maxHeartbeats 4000000 in
theorem walk (a : Option Addr) (len cap : Nat) (z : List Int) (w : World) (row : IsRow .u8 w a len cap z) :
    Calls Try.prog 5 #[.slice a len cap] w fun e w' => e = .returned (.bool true) ∧ Below w.heap.size w w' := by
  
  have hc := CodeIn.of row
  clear row
  by_cases hl : 1048576 < len
  · have hl' : (1048576 : Int) < len := by omega
    go_enter Try.func5, Try.ntmps5
    go_wp2
    go_ret
    exact ⟨rfl, (by repeat (first | exact Below.refl _ _ | assumption | (refine Below.trans ?_ (Below.mono (by assumption) (by first | omega | (simp <;> omega)))) | (refine Below.alloc ?_ (by first | omega | (simp <;> omega)) _) | (refine below_drewN ?_ _) | (refine Below.drew ?_) | (refine Below.setCell ?_ (by first | omega | (simp <;> omega)) _)))⟩
  · have hl' : ¬ (1048576 : Int) < len := by omega
    go_enter Try.func5, Try.ntmps5
    go_wp2_with fail
    refine (drawGreatestGap_any a len cap _ hc (by omega)).mono ?_; rintro e w1 ⟨n, s, m, rfl, n0, n1, s0, s1, k0, k1, hb1⟩
    have hz1 := hb1.size
    try simp at hz1
    go_wp2_with fail
    refine (greatestGap_any _ _ _ _).mono ?_; rintro e w2 ⟨rfl, hb2⟩
    have hz2 := hb2.size
    try simp at hz2
    have t2 : Two w2 (w1.heap.size) (.int .i64 n) (.int .i64 s) 24 := Two.below (by repeat (first | assumption | exact Two.new' _ _ _ _ _ (by simp) | refine Two.alloc ?_ _ | refine Two.drewN ?_ _)) hb2 (by first | omega | (simp <;> omega))
    have hlt2 : (w1.heap.size) < w2.heap.size := t2.lt
    have hnt2 : ¬ (w1.heap.size) = w2.heap.size := Nat.ne_of_lt hlt2
    have t2c := t2.cell0
    have t2d := t2.cell1
    go_wp2_with fail
    refine (specGreatestGap_any _ _ _ _).mono ?_; rintro e w3 ⟨rfl, hb3⟩
    have hz3 := hb3.size
    try simp at hz3
    have t3 : Two w3 (w1.heap.size) (.int .i64 n) (.int .i64 s) 24 := Two.below (by repeat (first | assumption | exact Two.new' _ _ _ _ _ (by simp) | refine Two.alloc ?_ _ | refine Two.drewN ?_ _)) hb3 (by first | omega | (simp <;> omega))
    have hlt3 : (w1.heap.size) < w3.heap.size := t3.lt
    have hnt3 : ¬ (w1.heap.size) = w3.heap.size := Nat.ne_of_lt hlt3
    have t3c := t3.cell0
    have t3d := t3.cell1
    have hB3 : Below w.heap.size w w3 := (by repeat (first | exact Below.refl _ _ | assumption | (refine Below.trans ?_ (Below.mono (by assumption) (by first | omega | (simp <;> omega)))) | (refine Below.alloc ?_ (by first | omega | (simp <;> omega)) _) | (refine below_drewN ?_ _) | (refine Below.drew ?_) | (refine Below.setCell ?_ (by first | omega | (simp <;> omega)) _)))
    by_cases h : tok n s = true ∧ 1 ≤ m ∧ m ≤ n
    · obtain ⟨ht, h1, h2⟩ := h
      obtain ⟨M, rfl⟩ := Int.eq_ofNat_of_zero_le (by omega : 0 ≤ m)
      have hb := tok_bd ht
      have g := great_bd ht (by omega : 1 ≤ M) h2
      have g2 := great_times ht (by omega : 1 ≤ M) h2
      obtain ⟨Y, eY, hY⟩ := more_facts ht (by omega : 1 ≤ M) h2
      have hk := great_kind ht (by omega : 1 ≤ M) h2
      have hkl := kindsF_len n s M
      have hR := Lib.hid (fun w => greatestGap_any n s ((M : Int) + 1) w)
      rw [eY] at hR
      have hG := Lib.hid (fun w => gapsBy_any n s (M : Int) w)
      have hKi := Lib.hid (fun w => kindsOf_any n s (M : Int) w)
      have hgn : 2 ≤ M → greatF n s M ≤ N.pt n s (nearA n s M) + (n - N.pt n s (nearB n s M)) := fun q => great_near ht q h2
      have hby := fun q : 2 ≤ (M : Int) => gapsByF_yes (n := n) (s := s) (m := M) ht q h2 rfl rfl
      have hby0 : M = 1 → gapsByF n s M = [] := fun q => gapsByF_no (fun h => by omega)
      have gm0 : 0 ≤ greatF n s M * (M : Int) := Int.mul_nonneg (by omega) (by omega)
      have gm1 : greatF n s M * (M : Int) ≤ 60 * 60 := Int.mul_le_mul (by omega) (by omega) (by omega) (by omega)
      have hHas := Lib.hid (fun v w hr => hasInt_any v (kindsF n s M) (greatF n s M) w hr (by omega))
      rw [decide_eq_true hk] at hHas
      generalize greatF n s M = G at *
      generalize kindsF n s M = KL at *
      generalize gapsByF n s M = GL at *
      generalize N.pt n s (nearA n s M) = A at *
      generalize n - N.pt n s (nearB n s M) = B at *
      have x0 : ¬ G < 0 := by omega
      have hw1 : IntKind.i64.wrap ((M : Int) + 1) = (M : Int) + 1 := IntWalk.i64_in _ (by omega)
      have hw2 : IntKind.i64.wrap (G * (M : Int)) = G * (M : Int) := IntWalk.i64_in _ (by omega)
      clear ht eY hk hb1 hb2 hb3
      go_wp2_with fail
      refine (hR.out _).mono ?_; rintro e w4 ⟨rfl, hb4⟩
      have t4 := t3.below hb4 t3.lt
      have t4c := t4.cell0
      have t4d := t4.cell1
      have hB4 := hB3.trans (hb4.mono hB3.size)
      clear t3 t3c t3d hb4 hB3
      go_wp2_with fail
      refine (hG.out _).mono ?_; rintro e w5 ⟨v5, rfl, ho5, hb5⟩
      have t5 := t4.below hb5 t4.lt
      have t5c := t5.cell0
      have t5d := t5.cell1
      have hB5 := hB4.trans (hb5.mono hB4.size)
      clear t4 t4c t4d hb5 hB4 hG
      by_cases m1 : M = 1
      · rw [hby0 m1] at ho5
        obtain ⟨a5, cap5, rfl, _⟩ := ho5.reads.cells (N := 0) rfl
        clear hby hby0 hgn ho5 m1
        by_cases yn : Y < 0
        · go_wp2_with fail
          refine (hKi.out _).mono ?_; rintro e w6 ⟨v6, rfl, ho6, hb6⟩
          have hB6 := hB5.trans (hb6.mono hB5.size)
          clear hb6
          go_wp2_with fail
          refine (hHas.out v6 _ ho6.reads).mono ?_; rintro e w7 ⟨rfl, rfl⟩
          clear ho6
          go_wp2
          go_ret
          exact ⟨ret_bool (by simp), hB6⟩
        · have yn' : decide (Y < 0) = false := decide_eq_false yn
          have yl : Y ≤ G := by omega
          go_wp2_with fail
          refine (hKi.out _).mono ?_; rintro e w6 ⟨v6, rfl, ho6, hb6⟩
          have hB6 := hB5.trans (hb6.mono hB5.size)
          clear hb6
          go_wp2_with fail
          refine (hHas.out v6 _ ho6.reads).mono ?_; rintro e w7 ⟨rfl, rfl⟩
          clear ho6
          go_wp2
          go_ret
          exact ⟨ret_bool (by simp), hB6⟩
      · have hbe := hby (by omega)
        have hgn' := hgn (by omega)
        rw [hbe] at ho5
        obtain ⟨a5, cap5, rfl, hc5⟩ := ho5.reads.cells (N := 6) rfl
        obtain ⟨g5, o5, rfl, HC5⟩ := hc5 (by omega)
        have c4 : w5.cell? ⟨g5, o5 + 4, none⟩ = some (.int .i64 (A + B)) := HC5.out 4 (by omega)
        clear hby hby0 hgn ho5 hc5 hbe m1
        by_cases yn : Y < 0
        · go_wp2_with fail
          refine (hKi.out _).mono ?_; rintro e w6 ⟨v6, rfl, ho6, hb6⟩
          have hB6 := hB5.trans (hb6.mono hB5.size)
          clear hb6
          go_wp2_with fail
          refine (hHas.out v6 _ ho6.reads).mono ?_; rintro e w7 ⟨rfl, rfl⟩
          clear ho6
          go_wp2
          go_ret
          exact ⟨ret_bool (by simp), hB6⟩
        · have yn' : decide (Y < 0) = false := decide_eq_false yn
          have yl : Y ≤ G := by omega
          go_wp2_with fail
          refine (hKi.out _).mono ?_; rintro e w6 ⟨v6, rfl, ho6, hb6⟩
          have hB6 := hB5.trans (hb6.mono hB5.size)
          clear hb6
          go_wp2_with fail
          refine (hHas.out v6 _ ho6.reads).mono ?_; rintro e w7 ⟨rfl, rfl⟩
          clear ho6
          go_wp2
          go_ret
          exact ⟨ret_bool (by simp), hB6⟩
    · have e := greatF_no (n := n) (s := s) (m := m) h
      rw [e]
      go_wp2_with fail
      refine (alive_any _).mono ?_; rintro e w4 ⟨rfl, hb4⟩
      have hB4 := hB3.trans (hb4.mono hB3.size)
      go_wp2
      go_ret
      exact ⟨rfl, hB4⟩

set_option maxRecDepth 100000 in
theorem lifted (os : Os) (started : os.Started) (H : Type) (enc : TypeId × Value → H) :
    ReturnsInHanded {} Try.checked os 5 .any (Rows.fnGreatestGapSpec.pre6 enc Try.prog Try.f5 Rows.fnGreatestGapRow.domain false) (Rows.fnGreatestGapSpec.post enc Try.prog Try.f5 false true false false) := by
  refine returnsInHanded_of_change (C := Try.checked) own started (by kernel_rfl) Try.func5
    (ChangeSpec.witness6 (enc := enc) (C := Try.checked) false ⟨#[], #[.slice none 0 0], []⟩ 8 (by kernel_rfl) (by kernel_rfl) (by kernel_rfl) (by kernel_rfl)) ?_
  intro W base args ds gs before hval0 hW hcnd _
  have hval : ∀ (j : Nat) t v, Try.f5.params[j]? = some t → args[j]? = some v → Value.okWide Try.prog W .any base t v := hval0
  have hW' := hW
  obtain ⟨p, q, hA0, hV, rfl, hfz, hnd⟩ := hW
  have hA : DataW.TrodAll enc Try.prog W 0 (fun _ => true) true Try.f5.params.toList args.toList ds p := hA0
  rw [Try.params5] at hA hval
  obtain ⟨v0, vs0, d0, ds0, p0, q0, hargs, rfl, rfl, h0, r0⟩ := trodAll_cons hA
  obtain ⟨rfl, rfl, rfl⟩ := trodAll_nil r0
  obtain rfl : args = #[v0] := by cases args; simp_all
  obtain ⟨rfl, rfl⟩ := trodVars_none hV
  obtain ⟨acode, lencode, capcode, rfl⟩ := okWide_slice Try.underlying22 (hval 0 22 v0 rfl rfl)
  have k0 := h0
  have lt0 : ∀ x ∈ p0, x.block < W.heap.size := by obtain ⟨m, hm⟩ := k0; exact DataW.trod_lt m _ _ _ hm
  obtain ⟨zcode, rowcode⟩ : ∃ zs, IsRow .u8 W acode lencode capcode zs := by
    obtain ⟨fuel, hf⟩ := h0
    rcases open_ints Try.underlying22 Try.underlying5 (by kernel_rfl) hf with ⟨hcs, _⟩ | ⟨x, l, c, zs, hcs, _, hl, hm, hz, _, hcell, hwz⟩
    · simp [Value.cells] at hcs
      obtain ⟨rfl, rfl, rfl⟩ := hcs
      exact ⟨[], .inl ⟨rfl, rfl, rfl, rfl⟩⟩
    · simp [Value.cells] at hcs
      obtain ⟨rfl, rfl, rfl⟩ := hcs
      exact ⟨zs, .inr ⟨_, rfl, hl, hm, by simpa using hz, hcell, hwz⟩⟩
  clear hA0 hval0
  refine (walk acode lencode capcode zcode W rowcode).mono fun e W' ⟨he, bel⟩ => ?_
  subst he
  exact ⟨_, rfl, _, _, _, [], _, [], hW', trodAll_mk1 (shut_bool Try.underlying4 _), (trodAll_cons_mk (Below.trod laidOut (by kernel_rfl) (of_decide_eq_true (by kernel_rfl)) k0 bel lt0) trodAll_mk0), rfl, bel.frame _, fun h => by cases h⟩

theorem facts : joinedFacts Try.pinned.checked.prog 5 Try.f5 Rows.fnGreatestGapSpec Rows.fnGreatestGapRow = true := by
  simp only [joinedFacts, Bool.and_eq_true]
  repeat' apply And.intro
  all_goals first | rw [mayEnter_eq] | (rw [liftsFinal_eq]; kernel_rfl) | (rw [make_eq]; kernel_rfl) | kernel_rfl

theorem over : Rows.fnGreatestGapRow.holds Try.pinned (OpenSpec.ofChange Rows.fnGreatestGapSpec) :=
  OpenClaim.holds_of_wide 5 Try.f5 rfl rfl rfl rfl rfl rfl rfl ⟨rfl, rfl, rfl, rfl, rfl⟩ rfl rfl rfl rfl rfl (by kernel_rfl) Try.func5 facts
    (of_decide_eq_true (by kernel_rfl)) (by unfold Func.isWrapper; first | (rw [if_pos (by decide +kernel)]; kernel_rfl) | (rw [if_neg (by decide +kernel)]; exact ⟨rfl, rfl⟩))
    (fun os started H enc _ => lifted os started H enc)

theorem proved : Rows.FnGreatestGapSaid := over
#print axioms proved
end Go.Proofs.Ytnpaicdbmmfdhaa.lawGreatestGap
