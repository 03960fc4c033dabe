/- Proves that FnSumOnes returns true for every code, and leaves the code as it was. No conditions. -/
import Derived.Test.YtdkcodinlegheaaHead
import Derived.Test.YtdkcodinlegheaaSumF
import Derived.Test.YtdkcodinlegheaaSumI
import Derived.Test.YtdkcodinlegheaaGCodeI
import Derived.Test.YtdkcodinlegheaaGDraw
import Derived.Test.YtdkcodinlegheaaGFun2
set_option linter.unusedVariables false
namespace Go.Proofs.Ytdkcodinlegheaa.lawSumOnes

set_option maxRecDepth 4000
open Go.ChangeShapes Go.WideShapes Go.ChangeAt Go.RowKit Go.Joins

theorem ones_fl {n s : Nat} {k : Nat} (h : tokN n s = true) (h1 : k ≤ n) : onesF n s k = ((s * k / n : Nat) : Int) := by
  have e := onesF_fl (n := (n : Int)) (s := (s : Int)) (m := k) (tok_of_tokN h) (by omega)
  rw [e]
  show ((k * s / n : Nat) : Int) = _
  rw [Nat.mul_comm k s]

set_option maxHeartbeats 2000000 in
theorem walk (a : Option Addr) (len cap : Nat) (z : List Int) (w : World) (row : IsRow .u8 w a len cap z) :
    Calls Try.prog 9 #[.slice a len cap] w fun e w' => e = .returned (.bool true) ∧ Below w.heap.size w w' := by
  
  have hc := CodeIn.of row
  clear row
  by_cases hl : 1048576 < len
  · have hl' : (1048576 : Int) < len := by omega
    go_enter Try.func9, Try.ntmps9
    go_wp2
    go_ret
    exact ⟨rfl, (by repeat (first | exact Below.refl _ _ | assumption | (refine Below.trans ?_ (Below.mono (by assumption) (by first | omega | (simp <;> omega)))) | (refine Below.alloc ?_ (by first | omega | (simp <;> omega)) _) | (refine below_drewN ?_ _) | (refine Below.drew ?_) | (refine Below.setCell ?_ (by first | omega | (simp <;> omega)) _)))⟩
  · have hl' : ¬ (1048576 : Int) < len := by omega
    go_enter Try.func9, Try.ntmps9
    go_wp2_with fail
    refine (drawFirstPoints_any a len cap _ hc (by omega)).mono ?_; rintro e w1 ⟨n, s, m, rfl, n0, n1, s0, s1, k0, k1, hb1⟩
    have hz1 := hb1.size
    try simp at hz1
    go_wp2_with fail
    refine (specTurnOk_any _ _ _).mono ?_; rintro e w2 ⟨rfl, hb2⟩
    have hz2 := hb2.size
    try simp at hz2
    have t2 : Two w2 (w1.heap.size) (.int .i64 n) (.int .i64 s) 29 := Two.below (by repeat (first | assumption | exact Two.new' _ _ _ _ _ (by simp) | refine Two.alloc ?_ _ | refine Two.drewN ?_ _)) hb2 (by first | omega | (simp <;> omega))
    have hlt2 : (w1.heap.size) < w2.heap.size := t2.lt
    have hnt2 : ¬ (w1.heap.size) = w2.heap.size := Nat.ne_of_lt hlt2
    have t2c := t2.cell0
    have t2d := t2.cell1
    have hB2 : Below w.heap.size w w2 := (by repeat (first | exact Below.refl _ _ | assumption | (refine Below.trans ?_ (Below.mono (by assumption) (by first | omega | (simp <;> omega)))) | (refine Below.alloc ?_ (by first | omega | (simp <;> omega)) _) | (refine below_drewN ?_ _) | (refine Below.drew ?_) | (refine Below.setCell ?_ (by first | omega | (simp <;> omega)) _)))
    by_cases ht : tok n s = true
    · rw [ht]
      by_cases h0 : m < 0
      · go_wp2_with fail
        refine (alive_any _).mono ?_; rintro e w3 ⟨rfl, hb3⟩
        have hB3 := hB2.trans (hb3.mono hB2.size)
        go_wp2
        go_ret
        exact ⟨rfl, hB3⟩
      · have h0' : decide (m < 0) = false := decide_eq_false h0
        by_cases h1 : n < m
        · go_wp2_with fail
          refine (alive_any _).mono ?_; rintro e w3 ⟨rfl, hb3⟩
          have hB3 := hB2.trans (hb3.mono hB2.size)
          go_wp2
          go_ret
          exact ⟨rfl, hB3⟩
        · have h1' : decide (n < m) = false := decide_eq_false h1
          obtain ⟨N, S, rfl, rfl, hN⟩ := tokN_of ht
          obtain ⟨b1, b2, b3, b4, _⟩ := tokN_bd hN
          obtain ⟨M, rfl⟩ := Int.eq_ofNat_of_zero_le (by omega : 0 ≤ m)
          have HO := Lib.hid (fun (k : Nat) (hk : k ≤ N) => ones_fl (k := k) hN hk)
          have HSu : Hid (∀ k, ((fsum (k + 1) N S 0 : Nat) : Int) = ((fsum k N S 0 : Nat) : Int) + ((S * k / N : Nat) : Int)) := fun k => by rw [fsum_succ, Nat.add_zero]; omega
          have HL : Hid (∀ k, k ≤ N → fsum k N S 0 ≤ 8080000 ∧ S * k / N ≤ 60) := fun k hk => ⟨by have := fsum_le (B := N) (T := S) (A := 0) (by omega) (by omega) k (by omega); omega, by
            rw [Nat.div_le_iff_le_mul_add_pred (by omega)]
            have : S * k ≤ N * 60 := by rw [Nat.mul_comm N 60]; exact Nat.mul_le_mul (by omega) hk
            omega⟩
          have H0 : Hid (((fsum 0 N S 0 : Nat) : Int) = 0) := rfl
          have HF : Hid (sumG M N S 0 = ((fsum M N S 0 : Nat) : Int)) := sumG_yes (M := M) (B := N) (T := S) (A := 0) (by omega) (by omega) (by omega) (by omega) (by omega)
          have hlt2 := t2.lt
          have h1n : decide (N < M) = false := decide_eq_false (by omega)
          have h1i : decide ((N : Int) < (M : Int)) = false := decide_eq_false (by omega)
          clear hb1 hb2 ht hN
          go_wp2_with fail
          go_loopw [5, 6] (fun x y wr => ∃ k : Nat, x = .int .i64 ((fsum k N S 0 : Nat) : Int) ∧ y = .int .i64 k ∧ k ≤ M ∧ Below w2.heap.size w2 wr) (fun _ y _ => M - (intOf y).toNat)
          case atStart => exact ⟨0, by rw [H0.out], rfl, by omega, Below.refl _ _⟩
          case round =>
            obtain ⟨k, rfl, rfl, hk, hBr⟩ := hrel
            have tr := t2.below hBr hlt2
            have trc := tr.cell0
            have trd := tr.cell1
            have hBw := hB2.trans (hBr.mono hB2.size)
            have hzr := hBr.size
            by_cases hkm : k < M
            · have hkm' : (k : Int) < M := by omega
              have hs := Lib.hid (HSu.out k)
              have hl := HL.out k (by omega)
              have ho := HO.out k (by omega)
              generalize fsum k N S 0 = F at *
              generalize S * k / N = D at *
              go_wp2_with fail
              refine (onesUpTo_any _ _ _ _).mono ?_; rintro e w4 ⟨rfl, hb4⟩
              rw [ho]
              have hw : IntKind.i64.wrap ((F : Int) + (D : Int)) = (F : Int) + (D : Int) := IntWalk.i64_in _ (by omega)
              have hB4 := hBr.trans (hb4.mono hBr.size)
              clear hb4 hBr hBw tr trc trd
              go_wp2_with fail
              go_roundw
              case rel => exact ⟨k + 1, by rw [hs.out], by go_num, by omega, hB4⟩
              case measure => simp only [intOf]; omega
            · have hkm' : decide ((k : Int) < M) = false := by simp; omega
              obtain rfl : k = M := by omega
              have hR := Lib.hid (fun w => sumByRule_any (k : Int) (N : Int) (S : Int) 0 w)
              have e0 := HF.out
              rw [e0] at hR
              generalize fsum k N S 0 = F at *
              go_wp2_with fail
              first
              | (refine (hR.out _).mono ?_; rintro e w5 ⟨rfl, hb5⟩)
              | (go_region_held3 (fun w' => w'.cell? ⟨w1.heap.size, 0, none⟩ = some (.int .i64 (N : Int)) ∧ w'.cell? ⟨w1.heap.size, 1, none⟩ = some (.int .i64 (S : Int))) (first | go_keep | exact ⟨t'c, t'd⟩) (first | (go_at_call 19; refine (hR.out _).mono ?_; rintro e w5 ⟨rfl, hb5⟩)))
              have hB5 := hBw.trans (hb5.mono hBw.size)
              go_wp2
              go_ret
              exact ⟨ret_bool (by simp), hB5⟩
    · have ht' : tok n s = false := by simpa using ht
      rw [ht']
      go_wp2_with fail
      refine (alive_any _).mono ?_; rintro e w3 ⟨rfl, hb3⟩
      have hB3 := hB2.trans (hb3.mono hB2.size)
      go_wp2
      go_ret
      exact ⟨rfl, hB3⟩

set_option maxRecDepth 100000 in
theorem lifted (os : Os) (started : os.Started) (H : Type) (enc : TypeId × Value → H) :
    ReturnsInHanded {} Try.checked os 9 .any (Rows.fnSumOnesSpec.pre6 enc Try.prog Try.f9 Rows.fnSumOnesRow.domain false) (Rows.fnSumOnesSpec.post enc Try.prog Try.f9 false true false false) := by
  refine returnsInHanded_of_change (C := Try.checked) own started (by kernel_rfl) Try.func9
    (ChangeSpec.witness6 (enc := enc) (C := Try.checked) false ⟨#[], #[.slice none 0 0], []⟩ 8 (by kernel_rfl) (by kernel_rfl) (by kernel_rfl) (by kernel_rfl)) ?_
  intro W base args ds gs before hval0 hW hcnd _
  have hval : ∀ (j : Nat) t v, Try.f9.params[j]? = some t → args[j]? = some v → Value.okWide Try.prog W .any base t v := hval0
  have hW' := hW
  obtain ⟨p, q, hA0, hV, rfl, hfz, hnd⟩ := hW
  have hA : DataW.TrodAll enc Try.prog W 0 (fun _ => true) true Try.f9.params.toList args.toList ds p := hA0
  rw [Try.params9] at hA hval
  obtain ⟨v0, vs0, d0, ds0, p0, q0, hargs, rfl, rfl, h0, r0⟩ := trodAll_cons hA
  obtain ⟨rfl, rfl, rfl⟩ := trodAll_nil r0
  obtain rfl : args = #[v0] := by cases args; simp_all
  obtain ⟨rfl, rfl⟩ := trodVars_none hV
  obtain ⟨acode, lencode, capcode, rfl⟩ := okWide_slice Try.underlying22 (hval 0 22 v0 rfl rfl)
  have k0 := h0
  have lt0 : ∀ x ∈ p0, x.block < W.heap.size := by obtain ⟨m, hm⟩ := k0; exact DataW.trod_lt m _ _ _ hm
  obtain ⟨zcode, rowcode⟩ : ∃ zs, IsRow .u8 W acode lencode capcode zs := by
    obtain ⟨fuel, hf⟩ := h0
    rcases open_ints Try.underlying22 Try.underlying5 (by kernel_rfl) hf with ⟨hcs, _⟩ | ⟨x, l, c, zs, hcs, _, hl, hm, hz, _, hcell, hwz⟩
    · simp [Value.cells] at hcs
      obtain ⟨rfl, rfl, rfl⟩ := hcs
      exact ⟨[], .inl ⟨rfl, rfl, rfl, rfl⟩⟩
    · simp [Value.cells] at hcs
      obtain ⟨rfl, rfl, rfl⟩ := hcs
      exact ⟨zs, .inr ⟨_, rfl, hl, hm, by simpa using hz, hcell, hwz⟩⟩
  clear hA0 hval0
  refine (walk acode lencode capcode zcode W rowcode).mono fun e W' ⟨he, bel⟩ => ?_
  subst he
  exact ⟨_, rfl, _, _, _, [], _, [], hW', trodAll_mk1 (shut_bool Try.underlying4 _), (trodAll_cons_mk (Below.trod laidOut (by kernel_rfl) (of_decide_eq_true (by kernel_rfl)) k0 bel lt0) trodAll_mk0), rfl, bel.frame _, fun h => by cases h⟩

theorem facts : joinedFacts Try.pinned.checked.prog 9 Try.f9 Rows.fnSumOnesSpec Rows.fnSumOnesRow = true := by
  simp only [joinedFacts, Bool.and_eq_true]
  repeat' apply And.intro
  all_goals first | rw [mayEnter_eq] | (rw [liftsFinal_eq]; kernel_rfl) | (rw [make_eq]; kernel_rfl) | kernel_rfl

theorem over : Rows.fnSumOnesRow.holds Try.pinned (OpenSpec.ofChange Rows.fnSumOnesSpec) :=
  OpenClaim.holds_of_wide 9 Try.f9 rfl rfl rfl rfl rfl rfl rfl ⟨rfl, rfl, rfl, rfl, rfl⟩ rfl rfl rfl rfl rfl (by kernel_rfl) Try.func9 facts
    (of_decide_eq_true (by kernel_rfl)) (by unfold Func.isWrapper; first | (rw [if_pos (by decide +kernel)]; kernel_rfl) | (rw [if_neg (by decide +kernel)]; exact ⟨rfl, rfl⟩))
    (fun os started H enc _ => lifted os started H enc)

theorem proved : Rows.FnSumOnesSaid := over
#print axioms proved
end Go.Proofs.Ytdkcodinlegheaa.lawSumOnes
