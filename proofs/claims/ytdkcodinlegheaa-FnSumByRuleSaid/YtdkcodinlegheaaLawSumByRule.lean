/- Proves that FnSumByRule returns true for every code, and leaves the code as it was. No conditions. -/
import Derived.Test.YtdkcodinlegheaaHead
import Derived.Test.YtdkcodinlegheaaSumS
import Derived.Test.YtdkcodinlegheaaSumI
import Derived.Test.YtdkcodinlegheaaDrawS
import Derived.Test.YtdkcodinlegheaaGFun2
set_option linter.unusedVariables false
namespace Go.Proofs.Ytdkcodinlegheaa.lawSumByRule

set_option maxRecDepth 4000
open Go.ChangeShapes Go.WideShapes Go.ChangeAt Go.RowKit Go.Joins

/-- what the law asks of the sum behind the next number added -/
theorem next_facts {M B T D : Nat} (h1 : M ≤ 200) (h2 : 1 ≤ B) (h3 : B ≤ 200) (h4 : T ≤ 200) (h5 : D ≤ 200) : ∃ Y : Int, sumG M B T ((D : Int) + B) = Y ∧ (Y < 0 ∨ Y = ((fsum M B T D : Nat) : Int) + M) ∧ -1 ≤ Y ∧ Y ≤ 10000000 := by
  refine ⟨_, rfl, ?_, sumG_lo _ _ _ _, sumG_hi _ _ _ _⟩
  by_cases c : D + B ≤ 200
  · right
    rw [show (D : Int) + B = ((D + B : Nat) : Int) by omega, sumG_yes h1 h2 h3 h4 c, fsum_more h2]
    omega
  · left
    rw [sumG_no]
    · omega
    · unfold sokF; simp; omega

set_option maxHeartbeats 2000000 in
theorem walk (a : Option Addr) (len cap : Nat) (z : List Int) (w : World) (row : IsRow .u8 w a len cap z) :
    Calls Try.prog 4 #[.slice a len cap] w fun e w' => e = .returned (.bool true) ∧ Below w.heap.size w w' := by
  have hc := CodeIn.of row
  clear row
  by_cases hl : 1048576 < len
  · have hl' : (1048576 : Int) < len := by omega
    go_enter Try.func4, Try.ntmps4
    go_wp2
    go_ret
    exact ⟨rfl, (by repeat (first | exact Below.refl _ _ | assumption | (refine Below.trans ?_ (Below.mono (by assumption) (by first | omega | (simp <;> omega)))) | (refine Below.alloc ?_ (by first | omega | (simp <;> omega)) _) | (refine below_drewN ?_ _) | (refine Below.drew ?_) | (refine Below.setCell ?_ (by first | omega | (simp <;> omega)) _)))⟩
  · have hl' : ¬ (1048576 : Int) < len := by omega
    go_enter Try.func4, Try.ntmps4
    go_wp2_with fail
    refine (drawSumByRule_any a len cap _ hc (by omega)).mono ?_; rintro e w1 ⟨m, b, t, d, rfl, hb1⟩
    have hz1 := hb1.size
    try simp at hz1
    go_wp2_with fail
    refine (sumByRule_any _ _ _ _ _).mono ?_; rintro e w2 ⟨rfl, hb2⟩
    have hz2 := hb2.size
    try simp at hz2
    go_wp2_with fail
    refine (specSumByRule_any _ _ _ _ _).mono ?_; rintro e w3 ⟨rfl, hb3⟩
    have hz3 := hb3.size
    try simp at hz3
    cases ho : sokF m b t d with
    | true =>
      obtain ⟨M, B, T, D, rfl, rfl, rfl, rfl, h1, h2, h3, h4, h5, e⟩ := sok_nat ho
      obtain ⟨Y, eY, hY, y0, y1⟩ := next_facts h1 h2 h3 h4 h5
      have hR := Lib.hid (fun w => sumByRule_any (M : Int) (B : Int) (T : Int) ((D : Int) + B) w)
      rw [eY] at hR
      have hF := Lib.hid (fun w => sumByRule_any (B : Int) (B : Int) (T : Int) 0 w)
      have hX : fsum M B T D ≤ 8080000 := by have := fsum_le (B := B) h4 h5 M (by omega); omega
      have HFl : Hid (1 ≤ T → Nat.gcd B T = 1 → sumG B B T 0 = (((B - 1) * (T - 1) / 2 : Nat) : Int)) := fun q1 q2 => by
        rw [show (0 : Int) = ((0 : Nat) : Int) from rfl, sumG_yes (by omega) h2 h3 h4 (by omega), fsum_field h2 q1 q2]
      rw [e]
      generalize fsum M B T D = X at *
      have x0 : ¬ (X : Int) < 0 := by omega
      have hg1 : 1 ≤ Nat.gcd B T := Nat.gcd_pos_of_pos_left _ h2
      have hg2 : Nat.gcd B T ≤ B := Nat.le_of_dvd (by omega) (Nat.gcd_dvd_left _ _)
      have hwD : IntKind.i64.wrap ((D : Int) + B) = (D : Int) + B := IntWalk.i64_in _ (by omega)
      have hwX : IntKind.i64.wrap ((X : Int) + M) = (X : Int) + M := IntWalk.i64_in _ (by omega)
      have hB3 : Below w.heap.size w w3 := (by repeat (first | exact Below.refl _ _ | assumption | (refine Below.trans ?_ (Below.mono (by assumption) (by first | omega | (simp <;> omega)))) | (refine Below.alloc ?_ (by first | omega | (simp <;> omega)) _) | (refine below_drewN ?_ _) | (refine Below.drew ?_) | (refine Below.setCell ?_ (by first | omega | (simp <;> omega)) _)))
      clear ho e eY hb1 hb2 hb3
      go_wp2_with fail
      go_loop [8, 9] (fun x y => ∃ P Q : Nat, x = .int .i64 P ∧ y = .int .i64 Q ∧ P ≤ 200 ∧ Q ≤ 200 ∧ Hid (Nat.gcd P Q = Nat.gcd B T)) (fun _ y => (intOf y).toNat)
      case atStart => exact ⟨B, T, rfl, rfl, h3, h4, rfl⟩
      case round =>
        obtain ⟨P, Q, rfl, rfl, hP, hQ, hG⟩ := hrel
        by_cases hq : 0 < Q
        · have hq' : (0 : Int) < Q := by omega
          have hQ0 : ¬ (Q : Int) = 0 := by omega
          have d1 : (P : Int).tmod (Q : Int) = ((P % Q : Nat) : Int) := by rw [Int.tmod_eq_emod_of_nonneg (by omega)]; simp
          have d1' : (P : Int) % (Q : Int) = ((P % Q : Nat) : Int) := by simp
          have hlt := Nat.mod_lt P hq
          have hG2 : Hid (Nat.gcd Q (P % Q) = Nat.gcd B T) := by show _ = _; rw [← hG.out, Nat.gcd_comm Q, ← Nat.gcd_rec, Nat.gcd_comm]
          generalize P % Q = R at *
          go_wp2_with fail
          go_round
          case rel => exact ⟨Q, R, rfl, rfl, hQ, by omega, hG2.out⟩
          case measure => simp only [intOf]; omega
        · have hq' : decide ((0 : Int) < Q) = false := by simp; omega
          obtain rfl : Q = 0 := by omega
          have hPe : P = Nat.gcd B T := by have := hG.out; rwa [Nat.gcd_zero_right] at this
          subst hPe
          clear hG
          go_wp2_with fail
          refine (hR.out _).mono ?_; rintro e w4 ⟨rfl, hb4⟩
          have hB4 := hB3.trans (hb4.mono hB3.size)
          clear hb4 hB3
          by_cases g1 : 1 < Nat.gcd B T
          · have g1' : (1 : Int) < ((Nat.gcd B T : Nat) : Int) := by omega
            generalize Nat.gcd B T = G at *
            by_cases yn : Y < 0
            · go_wp2
              go_ret
              exact ⟨ret_bool (by simp), hB4⟩
            · have yn' : decide (Y < 0) = false := decide_eq_false yn
              have ye : Y = (X : Int) + M := by omega
              subst ye
              go_wp2
              go_ret
              exact ⟨ret_bool (by simp), hB4⟩
          · have g1' : decide ((1 : Int) < ((Nat.gcd B T : Nat) : Int)) = false := decide_eq_false (by omega)
            have ge : Nat.gcd B T = 1 := by omega
            by_cases t1 : T < 1
            · have t1' : (T : Int) < 1 := by omega
              generalize Nat.gcd B T = G at *
              by_cases yn : Y < 0
              · go_wp2
                go_ret
                exact ⟨ret_bool (by simp), hB4⟩
              · have yn' : decide (Y < 0) = false := decide_eq_false yn
                have ye : Y = (X : Int) + M := by omega
                subst ye
                go_wp2
                go_ret
                exact ⟨ret_bool (by simp), hB4⟩
            · have t1' : decide ((T : Int) < 1) = false := decide_eq_false (by omega)
              have hFl := HFl.out (by omega) ge
              have w1 : IntKind.i64.wrap ((B : Int) - 1) = ((B - 1 : Nat) : Int) := by rw [show (B : Int) - 1 = ((B - 1 : Nat) : Int) by omega]; exact IntWalk.i64_in _ (by omega)
              have w2 : IntKind.i64.wrap ((T : Int) - 1) = ((T - 1 : Nat) : Int) := by rw [show (T : Int) - 1 = ((T - 1 : Nat) : Int) by omega]; exact IntWalk.i64_in _ (by omega)
              have pb : (B - 1) * (T - 1) ≤ 200 * 200 := Nat.mul_le_mul (by omega) (by omega)
              have w3 : IntKind.i64.wrap (((B - 1 : Nat) : Int) * ((T - 1 : Nat) : Int)) = (((B - 1) * (T - 1) : Nat) : Int) := by rw [← Int.natCast_mul]; exact IntWalk.i64_in _ (by omega)
              have d1 : (((B - 1) * (T - 1) : Nat) : Int).tdiv 2 = (((B - 1) * (T - 1) / 2 : Nat) : Int) := div_castN ((B - 1) * (T - 1)) 2
              have d1' : (((B - 1) * (T - 1) : Nat) : Int) / 2 = (((B - 1) * (T - 1) / 2 : Nat) : Int) := by simp
              rw [hFl] at hF
              generalize (B - 1) * (T - 1) / 2 = V at *
              generalize (B - 1) * (T - 1) = U at *
              generalize Nat.gcd B T = G at *
              go_wp2_with fail
              refine (hF.out _).mono ?_; rintro e w5 ⟨rfl, hb5⟩
              have hB5 := hB4.trans (hb5.mono hB4.size)
              by_cases yn : Y < 0
              · go_wp2
                go_ret
                exact ⟨ret_bool (by simp), hB5⟩
              · have yn' : decide (Y < 0) = false := decide_eq_false yn
                have ye : Y = (X : Int) + M := by omega
                subst ye
                go_wp2
                go_ret
                exact ⟨ret_bool (by simp), hB5⟩
    | false =>
      rw [sumG_no ho]
      go_wp2_with fail
      refine (alive_any _).mono ?_; rintro e w4 ⟨rfl, hb4⟩
      have hz4 := hb4.size
      try simp at hz4
      go_wp2
      go_ret
      exact ⟨rfl, (by repeat (first | exact Below.refl _ _ | assumption | (refine Below.trans ?_ (Below.mono (by assumption) (by first | omega | (simp <;> omega)))) | (refine Below.alloc ?_ (by first | omega | (simp <;> omega)) _) | (refine below_drewN ?_ _) | (refine Below.drew ?_) | (refine Below.setCell ?_ (by first | omega | (simp <;> omega)) _)))⟩

set_option maxRecDepth 100000 in
theorem lifted (os : Os) (started : os.Started) (H : Type) (enc : TypeId × Value → H) :
    ReturnsInHanded {} Try.checked os 4 .any (Rows.fnSumByRuleSpec.pre6 enc Try.prog Try.f4 Rows.fnSumByRuleRow.domain false) (Rows.fnSumByRuleSpec.post enc Try.prog Try.f4 false true false false) := by
  refine returnsInHanded_of_change (C := Try.checked) own started (by kernel_rfl) Try.func4
    (ChangeSpec.witness6 (enc := enc) (C := Try.checked) false ⟨#[], #[.slice none 0 0], []⟩ 8 (by kernel_rfl) (by kernel_rfl) (by kernel_rfl) (by kernel_rfl)) ?_
  intro W base args ds gs before hval0 hW hcnd _
  have hval : ∀ (j : Nat) t v, Try.f4.params[j]? = some t → args[j]? = some v → Value.okWide Try.prog W .any base t v := hval0
  have hW' := hW
  obtain ⟨p, q, hA0, hV, rfl, hfz, hnd⟩ := hW
  have hA : DataW.TrodAll enc Try.prog W 0 (fun _ => true) true Try.f4.params.toList args.toList ds p := hA0
  rw [Try.params4] at hA hval
  obtain ⟨v0, vs0, d0, ds0, p0, q0, hargs, rfl, rfl, h0, r0⟩ := trodAll_cons hA
  obtain ⟨rfl, rfl, rfl⟩ := trodAll_nil r0
  obtain rfl : args = #[v0] := by cases args; simp_all
  obtain ⟨rfl, rfl⟩ := trodVars_none hV
  obtain ⟨acode, lencode, capcode, rfl⟩ := okWide_slice Try.underlying22 (hval 0 22 v0 rfl rfl)
  have k0 := h0
  have lt0 : ∀ x ∈ p0, x.block < W.heap.size := by obtain ⟨m, hm⟩ := k0; exact DataW.trod_lt m _ _ _ hm
  obtain ⟨zcode, rowcode⟩ : ∃ zs, IsRow .u8 W acode lencode capcode zs := by
    obtain ⟨fuel, hf⟩ := h0
    rcases open_ints Try.underlying22 Try.underlying5 (by kernel_rfl) hf with ⟨hcs, _⟩ | ⟨x, l, c, zs, hcs, _, hl, hm, hz, _, hcell, hwz⟩
    · simp [Value.cells] at hcs
      obtain ⟨rfl, rfl, rfl⟩ := hcs
      exact ⟨[], .inl ⟨rfl, rfl, rfl, rfl⟩⟩
    · simp [Value.cells] at hcs
      obtain ⟨rfl, rfl, rfl⟩ := hcs
      exact ⟨zs, .inr ⟨_, rfl, hl, hm, by simpa using hz, hcell, hwz⟩⟩
  clear hA0 hval0
  refine (walk acode lencode capcode zcode W rowcode).mono fun e W' ⟨he, bel⟩ => ?_
  subst he
  exact ⟨_, rfl, _, _, _, [], _, [], hW', trodAll_mk1 (shut_bool Try.underlying4 _), (trodAll_cons_mk (Below.trod laidOut (by kernel_rfl) (of_decide_eq_true (by kernel_rfl)) k0 bel lt0) trodAll_mk0), rfl, bel.frame _, fun h => by cases h⟩

theorem facts : joinedFacts Try.pinned.checked.prog 4 Try.f4 Rows.fnSumByRuleSpec Rows.fnSumByRuleRow = true := by
  simp only [joinedFacts, Bool.and_eq_true]
  repeat' apply And.intro
  all_goals first | rw [mayEnter_eq] | (rw [liftsFinal_eq]; kernel_rfl) | (rw [make_eq]; kernel_rfl) | kernel_rfl

theorem over : Rows.fnSumByRuleRow.holds Try.pinned (OpenSpec.ofChange Rows.fnSumByRuleSpec) :=
  OpenClaim.holds_of_wide 4 Try.f4 rfl rfl rfl rfl rfl rfl rfl ⟨rfl, rfl, rfl, rfl, rfl⟩ rfl rfl rfl rfl rfl (by kernel_rfl) Try.func4 facts
    (of_decide_eq_true (by kernel_rfl)) (by unfold Func.isWrapper; first | (rw [if_pos (by decide +kernel)]; kernel_rfl) | (rw [if_neg (by decide +kernel)]; exact ⟨rfl, rfl⟩))
    (fun os started H enc _ => lifted os started H enc)

theorem proved : Rows.FnSumByRuleSaid := over
#print axioms proved
end Go.Proofs.Ytdkcodinlegheaa.lawSumByRule
