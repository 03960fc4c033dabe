/- Proves that FnSawBy returns true for every code, and leaves the code as it was. No conditions. -/
import Derived.Test.YtdkcodinlegheaaHead
import Derived.Test.YtdkcodinlegheaaSawS
import Derived.Test.YtdkcodinlegheaaSawI
import Derived.Test.YtdkcodinlegheaaInn
import Derived.Test.YtdkcodinlegheaaDrawS
import Derived.Test.YtdkcodinlegheaaGFun2
set_option linter.unusedVariables false
namespace Go.Proofs.Ytdkcodinlegheaa.lawSawBy

set_option maxRecDepth 4000
open Go.ChangeShapes Go.WideShapes Go.ChangeAt Go.RowKit Go.Joins

set_option maxHeartbeats 4000000 in
theorem walk (a : Option Addr) (len cap : Nat) (z : List Int) (w : World) (row : IsRow .u8 w a len cap z) :
    Calls Try.prog 7 #[.slice a len cap] w fun e w' => e = .returned (.bool true) ∧ Below w.heap.size w w' := by
  
  have hc := CodeIn.of row
  clear row
  by_cases hl : 1048576 < len
  · have hl' : (1048576 : Int) < len := by omega
    go_enter Try.func7, Try.ntmps7
    go_wp2
    go_ret
    exact ⟨rfl, (by repeat (first | exact Below.refl _ _ | assumption | (refine Below.trans ?_ (Below.mono (by assumption) (by first | omega | (simp <;> omega)))) | (refine Below.alloc ?_ (by first | omega | (simp <;> omega)) _) | (refine below_drewN ?_ _) | (refine Below.drew ?_) | (refine Below.setCell ?_ (by first | omega | (simp <;> omega)) _)))⟩
  · have hl' : ¬ (1048576 : Int) < len := by omega
    go_enter Try.func7, Try.ntmps7
    go_wp2_with fail
    refine (drawSawBy_any a len cap _ hc (by omega)).mono ?_; rintro e w1 ⟨n, s, rfl, n0, n1, s0, s1, hb1⟩
    have hz1 := hb1.size
    try simp at hz1
    go_wp2_with fail
    refine (sawBy_any _ _ _).mono ?_; rintro e w2 ⟨rfl, hb2⟩
    have hz2 := hb2.size
    try simp at hz2
    have t2 : Two w2 (w1.heap.size) (.int .i64 n) (.int .i64 s) 29 := Two.below (by repeat (first | assumption | exact Two.new' _ _ _ _ _ (by simp) | refine Two.alloc ?_ _ | refine Two.drewN ?_ _)) hb2 (by first | omega | (simp <;> omega))
    have hlt2 : (w1.heap.size) < w2.heap.size := t2.lt
    have hnt2 : ¬ (w1.heap.size) = w2.heap.size := Nat.ne_of_lt hlt2
    have t2c := t2.cell0
    have t2d := t2.cell1
    go_wp2_with fail
    refine (specSawBy_any _ _ _).mono ?_; rintro e w3 ⟨rfl, hb3⟩
    have hz3 := hb3.size
    try simp at hz3
    have t3 : Two w3 (w1.heap.size) (.int .i64 n) (.int .i64 s) 29 := Two.below (by repeat (first | assumption | exact Two.new' _ _ _ _ _ (by simp) | refine Two.alloc ?_ _ | refine Two.drewN ?_ _)) hb3 (by first | omega | (simp <;> omega))
    have hlt3 : (w1.heap.size) < w3.heap.size := t3.lt
    have hnt3 : ¬ (w1.heap.size) = w3.heap.size := Nat.ne_of_lt hlt3
    have t3c := t3.cell0
    have t3d := t3.cell1
    have hB3 : Below w.heap.size w w3 := (by repeat (first | exact Below.refl _ _ | assumption | (refine Below.trans ?_ (Below.mono (by assumption) (by first | omega | (simp <;> omega)))) | (refine Below.alloc ?_ (by first | omega | (simp <;> omega)) _) | (refine below_drewN ?_ _) | (refine Below.drew ?_) | (refine Below.setCell ?_ (by first | omega | (simp <;> omega)) _)))
    have hnn : (sawF n s != sawF n s) = false := by simp
    have hnb : (tok n s != tok n s) = false := by simp
    by_cases ht : tok n s = true
    · obtain ⟨N, S, rfl, rfl, hN⟩ := tokN_of ht
      
      obtain ⟨b1, b2, b3, b4, _⟩ := tokN_bd hN
      have hI := Lib.hid (fun w => innerTurn_any (N : Int) (S : Int) w)
      unfold InnPost at hI
      clear hb1 hb2 hb3
      by_cases h2 : 2 ≤ S
      · have hi := tok_inner hN h2
        obtain ⟨a1, a2, a3, a4, a5, a6, a7, a8, a9, a10, a11, a12⟩ := saw_calc hN h2 hi
        rw [innF_yes ht (by omega), innP_yes ht (by omega)] at hI
        have hm : (N : Int) % (S : Int) = ((N % S : Nat) : Int) := by simp
        have hR := Lib.hid (fun w => sawOf_any (S : Int) ((N % S : Nat) : Int) w)
        rw [sawF_yes hi, tok_of_tokN hi] at hR
        dsimp only at hI
        rw [hm] at hI
        rw [sawF_yes hN, ht]
        generalize N % S = R at *
        generalize sawV S R = D at *
        generalize sawV N S = V at *
        have w1' : IntKind.i64.wrap ((N : Int) * S) = (N : Int) * S := IntWalk.i64_in _ (by omega)
        have w2' : IntKind.i64.wrap ((S : Int) * S) = (S : Int) * S := IntWalk.i64_in _ (by omega)
        have w3' : IntKind.i64.wrap ((N : Int) * N) = (N : Int) * N := IntWalk.i64_in _ (by omega)
        have w4' : IntKind.i64.wrap ((S : Int) * S + (N : Int) * N) = (S : Int) * S + (N : Int) * N := IntWalk.i64_in _ (by omega)
        have w5' : IntKind.i64.wrap ((S : Int) * S + (N : Int) * N + 1) = (S : Int) * S + (N : Int) * N + 1 := IntWalk.i64_in _ (by omega)
        have w6' : IntKind.i64.wrap (3 * (N : Int)) = 3 * (N : Int) := IntWalk.i64_in _ (by omega)
        have w7' : IntKind.i64.wrap (3 * (N : Int) * S) = 3 * (N : Int) * S := IntWalk.i64_in _ (by omega)
        have w8' : IntKind.i64.wrap ((S : Int) * S + (N : Int) * N + 1 - 3 * (N : Int) * S) = (S : Int) * S + (N : Int) * N + 1 - 3 * (N : Int) * S := IntWalk.i64_in _ (by omega)
        have w9' : IntKind.i64.wrap ((N : Int) * S * ((S : Int) * S + (N : Int) * N + 1 - 3 * (N : Int) * S)) = (N : Int) * S * ((S : Int) * S + (N : Int) * N + 1 - 3 * (N : Int) * S) := IntWalk.i64_in _ (by omega)
        have wa' : IntKind.i64.wrap (3 * (N : Int) * N) = 3 * (N : Int) * N := IntWalk.i64_in _ (by omega)
        have wb' : IntKind.i64.wrap (3 * (N : Int) * N * D) = 3 * (N : Int) * N * D := IntWalk.i64_in _ (by omega)
        have wd' : IntKind.i64.wrap (3 * (S : Int)) = 3 * (S : Int) := IntWalk.i64_in _ (by omega)
        have we' : IntKind.i64.wrap (3 * (S : Int) * S) = 3 * (S : Int) * S := IntWalk.i64_in _ (by omega)
        have wf' : IntKind.i64.wrap (3 * (S : Int) * S * V) = 3 * (S : Int) * S * V := IntWalk.i64_in _ (by omega)
        have wg' : IntKind.i64.wrap (3 * (S : Int) * S * V + 3 * (N : Int) * N * D) = 3 * (S : Int) * S * V + 3 * (N : Int) * N * D := IntWalk.i64_in _ (by omega)
        have heq : (3 * (S : Int) * S * V + 3 * (N : Int) * N * D == (N : Int) * S * ((S : Int) * S + (N : Int) * N + 1 - 3 * (N : Int) * S)) = true := by rw [a12]; simp
        clear a1 a2 a3 a4 a5 a6 a7 a8 a9 a11 hN hi hm ht hnb
        go_wp2_with fail
        refine (hI.out _).mono ?_; rintro e w4 ⟨rfl, hb4⟩
        have hz4 := hb4.size
        try simp at hz4
        have t4 : Two w4 (w1.heap.size) (.int .i64 N) (.int .i64 S) 29 := Two.below (by repeat (first | assumption | exact Two.new' _ _ _ _ _ (by simp) | refine Two.alloc ?_ _ | refine Two.drewN ?_ _)) hb4 (by first | omega | (simp <;> omega))
        have hlt4 : (w1.heap.size) < w4.heap.size := t4.lt
        have hnt4 : ¬ (w1.heap.size) = w4.heap.size := Nat.ne_of_lt hlt4
        have t4c := t4.cell0
        have t4d := t4.cell1
        have u4 := Two.new w4 (.int .i64 (S : Int)) (.int .i64 (R : Int)) 29
        have u4c := u4.cell0
        have u4d := u4.cell1
        have t5 := t4.alloc (.cells #[.int .i64 (S : Int), .int .i64 (R : Int)] 29)
        have hB4 := hB3.trans (hb4.mono hB3.size)
        have hB5 := hB4.alloc hB4.size (.cells #[.int .i64 (S : Int), .int .i64 (R : Int)] 29)
        go_wp2_with fail
        refine (hR.out _).mono ?_; rintro e w6 ⟨rfl, hb6⟩
        have t6 := t5.below hb6 t5.lt
        have t6c := t6.cell0
        have t6d := t6.cell1
        have hB6 := hB5.trans (hb6.mono hB5.size)
        clear t4 t4c t4d t5 u4 u4c u4d hb4 hb6 hB3 hB4 hB5
        go_wp2_with fail
        try go_quiet (fail)
        go_wp2
        go_ret
        exact ⟨ret_bool (by simp), by first | exact hB6 | exact below_drewN hB6 _⟩
      · rw [innP_no (fun h => h2 (by omega)), innF_no (fun h => h2 (by omega))] at hI
        have hR := Lib.hid (fun w => sawOf_any (0 : Int) (0 : Int) w)
        have ht0 : tok 0 0 = false := tok_00
        rw [ht0] at hR
        rw [ht]
        clear hN hnb ht0
        go_wp2_with fail
        refine (hI.out _).mono ?_; rintro e w4 ⟨rfl, hb4⟩
        have hz4 := hb4.size
        try simp at hz4
        have t4 : Two w4 (w1.heap.size) (.int .i64 N) (.int .i64 S) 29 := Two.below (by repeat (first | assumption | exact Two.new' _ _ _ _ _ (by simp) | refine Two.alloc ?_ _ | refine Two.drewN ?_ _)) hb4 (by first | omega | (simp <;> omega))
        have hlt4 : (w1.heap.size) < w4.heap.size := t4.lt
        have hnt4 : ¬ (w1.heap.size) = w4.heap.size := Nat.ne_of_lt hlt4
        have t4c := t4.cell0
        have t4d := t4.cell1
        have u4 := Two.new w4 (.int .i64 0) (.int .i64 0) 29
        have u4c := u4.cell0
        have u4d := u4.cell1
        have t5 := t4.alloc (.cells #[.int .i64 0, .int .i64 0] 29)
        have hB4 := hB3.trans (hb4.mono hB3.size)
        have hB5 := hB4.alloc hB4.size (.cells #[.int .i64 0, .int .i64 0] 29)
        go_wp2_with fail
        refine (hR.out _).mono ?_; rintro e w6 ⟨rfl, hb6⟩
        have t6 := t5.below hb6 t5.lt
        have t6c := t6.cell0
        have t6d := t6.cell1
        have hB6 := hB5.trans (hb6.mono hB5.size)
        go_wp2_with fail
        try go_quiet (fail)
        go_wp2
        go_ret
        exact ⟨ret_bool (by simp), by first | exact hB6 | exact below_drewN hB6 _⟩
    · 
      have ht' : tok n s = false := by simpa using ht
      rw [sawF_no ht, ht']
      go_wp2_with fail
      refine (turnOk_any _ _ _).mono ?_; rintro e w4 ⟨rfl, hb4⟩
      have hz4 := hb4.size
      try simp at hz4
      have t4 : Two w4 (w1.heap.size) (.int .i64 n) (.int .i64 s) 29 := Two.below (by repeat (first | assumption | exact Two.new' _ _ _ _ _ (by simp) | refine Two.alloc ?_ _ | refine Two.drewN ?_ _)) hb4 (by first | omega | (simp <;> omega))
      have hlt4 : (w1.heap.size) < w4.heap.size := t4.lt
      have hnt4 : ¬ (w1.heap.size) = w4.heap.size := Nat.ne_of_lt hlt4
      have t4c := t4.cell0
      have t4d := t4.cell1
      rw [ht']
      go_wp2_with fail
      refine (alive_any _).mono ?_; rintro e w5 ⟨rfl, hb5⟩
      have hz5 := hb5.size
      try simp at hz5
      go_wp2
      go_ret
      exact ⟨rfl, (by repeat (first | exact Below.refl _ _ | assumption | (refine Below.trans ?_ (Below.mono (by assumption) (by first | omega | (simp <;> omega)))) | (refine Below.alloc ?_ (by first | omega | (simp <;> omega)) _) | (refine below_drewN ?_ _) | (refine Below.drew ?_) | (refine Below.setCell ?_ (by first | omega | (simp <;> omega)) _)))⟩

set_option maxRecDepth 100000 in
theorem lifted (os : Os) (started : os.Started) (H : Type) (enc : TypeId × Value → H) :
    ReturnsInHanded {} Try.checked os 7 .any (Rows.fnSawBySpec.pre6 enc Try.prog Try.f7 Rows.fnSawByRow.domain false) (Rows.fnSawBySpec.post enc Try.prog Try.f7 false true false false) := by
  refine returnsInHanded_of_change (C := Try.checked) own started (by kernel_rfl) Try.func7
    (ChangeSpec.witness6 (enc := enc) (C := Try.checked) false ⟨#[], #[.slice none 0 0], []⟩ 8 (by kernel_rfl) (by kernel_rfl) (by kernel_rfl) (by kernel_rfl)) ?_
  intro W base args ds gs before hval0 hW hcnd _
  have hval : ∀ (j : Nat) t v, Try.f7.params[j]? = some t → args[j]? = some v → Value.okWide Try.prog W .any base t v := hval0
  have hW' := hW
  obtain ⟨p, q, hA0, hV, rfl, hfz, hnd⟩ := hW
  have hA : DataW.TrodAll enc Try.prog W 0 (fun _ => true) true Try.f7.params.toList args.toList ds p := hA0
  rw [Try.params7] at hA hval
  obtain ⟨v0, vs0, d0, ds0, p0, q0, hargs, rfl, rfl, h0, r0⟩ := trodAll_cons hA
  obtain ⟨rfl, rfl, rfl⟩ := trodAll_nil r0
  obtain rfl : args = #[v0] := by cases args; simp_all
  obtain ⟨rfl, rfl⟩ := trodVars_none hV
  obtain ⟨acode, lencode, capcode, rfl⟩ := okWide_slice Try.underlying22 (hval 0 22 v0 rfl rfl)
  have k0 := h0
  have lt0 : ∀ x ∈ p0, x.block < W.heap.size := by obtain ⟨m, hm⟩ := k0; exact DataW.trod_lt m _ _ _ hm
  obtain ⟨zcode, rowcode⟩ : ∃ zs, IsRow .u8 W acode lencode capcode zs := by
    obtain ⟨fuel, hf⟩ := h0
    rcases open_ints Try.underlying22 Try.underlying5 (by kernel_rfl) hf with ⟨hcs, _⟩ | ⟨x, l, c, zs, hcs, _, hl, hm, hz, _, hcell, hwz⟩
    · simp [Value.cells] at hcs
      obtain ⟨rfl, rfl, rfl⟩ := hcs
      exact ⟨[], .inl ⟨rfl, rfl, rfl, rfl⟩⟩
    · simp [Value.cells] at hcs
      obtain ⟨rfl, rfl, rfl⟩ := hcs
      exact ⟨zs, .inr ⟨_, rfl, hl, hm, by simpa using hz, hcell, hwz⟩⟩
  clear hA0 hval0
  refine (walk acode lencode capcode zcode W rowcode).mono fun e W' ⟨he, bel⟩ => ?_
  subst he
  exact ⟨_, rfl, _, _, _, [], _, [], hW', trodAll_mk1 (shut_bool Try.underlying4 _), (trodAll_cons_mk (Below.trod laidOut (by kernel_rfl) (of_decide_eq_true (by kernel_rfl)) k0 bel lt0) trodAll_mk0), rfl, bel.frame _, fun h => by cases h⟩

theorem facts : joinedFacts Try.pinned.checked.prog 7 Try.f7 Rows.fnSawBySpec Rows.fnSawByRow = true := by
  simp only [joinedFacts, Bool.and_eq_true]
  repeat' apply And.intro
  all_goals first | rw [mayEnter_eq] | (rw [liftsFinal_eq]; kernel_rfl) | (rw [make_eq]; kernel_rfl) | kernel_rfl

theorem over : Rows.fnSawByRow.holds Try.pinned (OpenSpec.ofChange Rows.fnSawBySpec) :=
  OpenClaim.holds_of_wide 7 Try.f7 rfl rfl rfl rfl rfl rfl rfl ⟨rfl, rfl, rfl, rfl, rfl⟩ rfl rfl rfl rfl rfl (by kernel_rfl) Try.func7 facts
    (of_decide_eq_true (by kernel_rfl)) (by unfold Func.isWrapper; first | (rw [if_pos (by decide +kernel)]; kernel_rfl) | (rw [if_neg (by decide +kernel)]; exact ⟨rfl, rfl⟩))
    (fun os started H enc _ => lifted os started H enc)

theorem proved : Rows.FnSawBySaid := over
#print axioms proved
end Go.Proofs.Ytdkcodinlegheaa.lawSawBy
