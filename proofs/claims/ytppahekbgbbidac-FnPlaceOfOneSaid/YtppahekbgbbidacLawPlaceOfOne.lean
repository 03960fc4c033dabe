/- Proves that FnPlaceOfOne returns true for every code, and leaves the code as it was. No conditions. -/
import Derived.Test.YtppahekbgbbidacHead
import Derived.Test.YtppahekbgbbidacPlaceS
import Derived.Test.YtppahekbgbbidacPlaceI
import Derived.Test.YtppahekbgbbidacGCodeI
import Derived.Test.YtppahekbgbbidacDrawN
import Derived.Test.YtppahekbgbbidacGFun2
set_option linter.unusedVariables false
namespace Go.Proofs.Ytppahekbgbbidac.lawPlaceOfOne

set_option maxRecDepth 4000
open Go.ChangeShapes Go.WideShapes Go.ChangeAt Go.RowKit Go.Joins

/-- what the law asks of the place of a one -/
theorem place_facts {n s k : Int} (ht : tok n s = true) (h0 : 1 ≤ k) (h1 : k ≤ s) : ∃ X : Int, oneF n s k = X ∧ 0 ≤ X ∧ X < n ∧ (k * n + s - 1) / s = X + 1 ∧ onesF n s (X + 1) = k ∧ onesF n s X = k - 1 := by
  obtain ⟨N, S, rfl, rfl, hN⟩ := tokN_of ht
  obtain ⟨b1, b2, b3, b4, _⟩ := tokN_bd hN
  obtain ⟨k, rfl⟩ := Int.eq_ofNat_of_zero_le (by omega : 0 ≤ k)
  obtain ⟨p1, p2, _⟩ := one_place (n := N) (s := S) (i := k) (by omega) (by omega) (by omega) (by omega)
  have pp := oneAt_pos (n := N) (s := S) (i := k) (by omega) (by omega) (by omega)
  have ple := oneAt_le (n := N) (s := S) (i := k) (by omega) (by omega)
  have hu : ((k : Int) * N + S - 1) / S = ((oneAt N S k : Nat) : Int) := by
    unfold oneAt upN
    have e : ((k * N + S - 1 : Nat) : Int) = (k : Int) * N + S - 1 := by
      have : ((k * N : Nat) : Int) = (k : Int) * N := by simp
      omega
    rw [← e]; simp
  have ho : oneF N S k = ((oneAt N S k : Nat) : Int) - 1 := by rw [oneF_yes ht h0 h1]; rfl
  obtain ⟨j, hj⟩ : ∃ j, oneAt N S k = j + 1 := ⟨oneAt N S k - 1, by omega⟩
  rw [hj] at p1 p2 hu ho ple
  rw [Nat.add_sub_cancel] at p2
  refine ⟨j, by rw [ho]; omega, by omega, by omega, by rw [hu]; omega, ?_, ?_⟩
  · have e := onesF_fl (m := j + 1) ht (by omega)
    have e2 : flN (N : Int).toNat (S : Int).toNat (j + 1) = k := p1
    rw [e2] at e
    have e3 : ((j + 1 : Nat) : Int) = (j : Int) + 1 := by omega
    rw [← e3, e]
  · have e := onesF_fl (m := j) ht (by omega)
    have e2 : flN (N : Int).toNat (S : Int).toNat j = k - 1 := p2
    rw [e2] at e
    rw [e]; omega

set_option maxHeartbeats 2000000 in
theorem walk (a : Option Addr) (len cap : Nat) (z : List Int) (w : World) (row : IsRow .u8 w a len cap z) :
    Calls Try.prog 13 #[.slice a len cap] w fun e w' => e = .returned (.bool true) ∧ Below w.heap.size w w' := by
  
  have hc := CodeIn.of row
  clear row
  by_cases hl : 1048576 < len
  · have hl' : (1048576 : Int) < len := by omega
    go_enter Try.func13, Try.ntmps13
    go_wp2
    go_ret
    exact ⟨rfl, (by repeat (first | exact Below.refl _ _ | assumption | (refine Below.trans ?_ (Below.mono (by assumption) (by first | omega | (simp <;> omega)))) | (refine Below.alloc ?_ (by first | omega | (simp <;> omega)) _) | (refine below_drewN ?_ _) | (refine Below.drew ?_) | (refine Below.setCell ?_ (by first | omega | (simp <;> omega)) _)))⟩
  · have hl' : ¬ (1048576 : Int) < len := by omega
    go_enter Try.func13, Try.ntmps13
    go_wp2_with fail
    refine (drawPlaceOfOne_any a len cap _ hc (by omega)).mono ?_; rintro e w1 ⟨n, s, k, rfl, hb1⟩
    have hz1 := hb1.size
    try simp at hz1
    go_wp2_with fail
    refine (placeOfOne_any _ _ _ _).mono ?_; rintro e w2 ⟨rfl, hb2⟩
    have hz2 := hb2.size
    try simp at hz2
    have t2 : Two w2 (w1.heap.size) (.int .i64 n) (.int .i64 s) 24 := Two.below (by repeat (first | assumption | exact Two.new' _ _ _ _ _ (by simp) | refine Two.alloc ?_ _ | refine Two.drewN ?_ _)) hb2 (by first | omega | (simp <;> omega))
    have hlt2 : (w1.heap.size) < w2.heap.size := t2.lt
    have hnt2 : ¬ (w1.heap.size) = w2.heap.size := Nat.ne_of_lt hlt2
    have t2c := t2.cell0
    have t2d := t2.cell1
    go_wp2_with fail
    refine (specPlaceOfOne_any _ _ _ _).mono ?_; rintro e w3 ⟨rfl, hb3⟩
    have hz3 := hb3.size
    try simp at hz3
    have t3 : Two w3 (w1.heap.size) (.int .i64 n) (.int .i64 s) 24 := Two.below (by repeat (first | assumption | exact Two.new' _ _ _ _ _ (by simp) | refine Two.alloc ?_ _ | refine Two.drewN ?_ _)) hb3 (by first | omega | (simp <;> omega))
    have hlt3 : (w1.heap.size) < w3.heap.size := t3.lt
    have hnt3 : ¬ (w1.heap.size) = w3.heap.size := Nat.ne_of_lt hlt3
    have t3c := t3.cell0
    have t3d := t3.cell1
    by_cases h : tok n s = true ∧ 1 ≤ k ∧ k ≤ s
    · obtain ⟨ht, h0, h1⟩ := h
      have hb := tok_bd ht
      obtain ⟨X, e1, x0, x1, e2, e3, e4⟩ := place_facts ht h0 h1
      have m0 : 0 ≤ k * n := Int.mul_nonneg (by omega) (by omega)
      have m1 : k * n ≤ 60 * 60 := Int.mul_le_mul (by omega) (by omega) (by omega) (by omega)
      have e5 : (k * n + s - 1).tdiv s = X + 1 := by rw [Int.tdiv_eq_ediv_of_nonneg (by omega), e2]
      have hs0 : ¬ s = 0 := by omega
      have x0' : ¬ X < 0 := by omega
      have HO1 := Lib.hid e3
      have HO2 := Lib.hid e4
      rw [e1]
      have hm1 : IntKind.i64.wrap (k * n) = k * n := IntWalk.i64_in _ (by omega)
      have hm2 : IntKind.i64.wrap (k * n + s) = k * n + s := IntWalk.i64_in _ (by omega)
      have hm3 : IntKind.i64.wrap (k * n + s - 1) = k * n + s - 1 := IntWalk.i64_in _ (by omega)
      have hm4 : IntKind.i64.wrap (X + 1) = X + 1 := IntWalk.i64_in _ (by omega)
      clear e1 e3 e4 ht
      go_wp2_with fail
      refine (onesUpTo_any _ _ _ _).mono ?_; rintro e w4 ⟨rfl, hb4⟩
      rw [HO1.out]
      have t4 := t3.below hb4 t3.lt
      have t4c := t4.cell0
      have t4d := t4.cell1
      go_wp2_with fail
      refine (onesUpTo_any _ _ _ _).mono ?_; rintro e w5 ⟨rfl, hb5⟩
      rw [HO2.out]
      have hz4 := hb4.size
      go_wp2
      go_ret
      exact ⟨ret_bool (by simp), (by repeat (first | exact Below.refl _ _ | assumption | (refine Below.trans ?_ (Below.mono (by assumption) (by first | omega | (simp <;> omega)))) | (refine Below.alloc ?_ (by first | omega | (simp <;> omega)) _) | (refine below_drewN ?_ _) | (refine Below.drew ?_) | (refine Below.setCell ?_ (by first | omega | (simp <;> omega)) _)))⟩
    · have e := oneF_no h
      rw [e]
      go_wp2_with fail
      refine (alive_any _).mono ?_; rintro e w4 ⟨rfl, hb4⟩
      have hz4 := hb4.size
      try simp at hz4
      go_wp2
      go_ret
      exact ⟨rfl, (by repeat (first | exact Below.refl _ _ | assumption | (refine Below.trans ?_ (Below.mono (by assumption) (by first | omega | (simp <;> omega)))) | (refine Below.alloc ?_ (by first | omega | (simp <;> omega)) _) | (refine below_drewN ?_ _) | (refine Below.drew ?_) | (refine Below.setCell ?_ (by first | omega | (simp <;> omega)) _)))⟩

set_option maxRecDepth 100000 in
theorem lifted (os : Os) (started : os.Started) (H : Type) (enc : TypeId × Value → H) :
    ReturnsInHanded {} Try.checked os 13 .any (Rows.fnPlaceOfOneSpec.pre6 enc Try.prog Try.f13 Rows.fnPlaceOfOneRow.domain false) (Rows.fnPlaceOfOneSpec.post enc Try.prog Try.f13 false true false false) := by
  refine returnsInHanded_of_change (C := Try.checked) own started (by kernel_rfl) Try.func13
    (ChangeSpec.witness6 (enc := enc) (C := Try.checked) false ⟨#[], #[.slice none 0 0], []⟩ 8 (by kernel_rfl) (by kernel_rfl) (by kernel_rfl) (by kernel_rfl)) ?_
  intro W base args ds gs before hval0 hW hcnd _
  have hval : ∀ (j : Nat) t v, Try.f13.params[j]? = some t → args[j]? = some v → Value.okWide Try.prog W .any base t v := hval0
  have hW' := hW
  obtain ⟨p, q, hA0, hV, rfl, hfz, hnd⟩ := hW
  have hA : DataW.TrodAll enc Try.prog W 0 (fun _ => true) true Try.f13.params.toList args.toList ds p := hA0
  rw [Try.params13] at hA hval
  obtain ⟨v0, vs0, d0, ds0, p0, q0, hargs, rfl, rfl, h0, r0⟩ := trodAll_cons hA
  obtain ⟨rfl, rfl, rfl⟩ := trodAll_nil r0
  obtain rfl : args = #[v0] := by cases args; simp_all
  obtain ⟨rfl, rfl⟩ := trodVars_none hV
  obtain ⟨acode, lencode, capcode, rfl⟩ := okWide_slice Try.underlying22 (hval 0 22 v0 rfl rfl)
  have k0 := h0
  have lt0 : ∀ x ∈ p0, x.block < W.heap.size := by obtain ⟨m, hm⟩ := k0; exact DataW.trod_lt m _ _ _ hm
  obtain ⟨zcode, rowcode⟩ : ∃ zs, IsRow .u8 W acode lencode capcode zs := by
    obtain ⟨fuel, hf⟩ := h0
    rcases open_ints Try.underlying22 Try.underlying5 (by kernel_rfl) hf with ⟨hcs, _⟩ | ⟨x, l, c, zs, hcs, _, hl, hm, hz, _, hcell, hwz⟩
    · simp [Value.cells] at hcs
      obtain ⟨rfl, rfl, rfl⟩ := hcs
      exact ⟨[], .inl ⟨rfl, rfl, rfl, rfl⟩⟩
    · simp [Value.cells] at hcs
      obtain ⟨rfl, rfl, rfl⟩ := hcs
      exact ⟨zs, .inr ⟨_, rfl, hl, hm, by simpa using hz, hcell, hwz⟩⟩
  clear hA0 hval0
  refine (walk acode lencode capcode zcode W rowcode).mono fun e W' ⟨he, bel⟩ => ?_
  subst he
  exact ⟨_, rfl, _, _, _, [], _, [], hW', trodAll_mk1 (shut_bool Try.underlying4 _), (trodAll_cons_mk (Below.trod laidOut (by kernel_rfl) (of_decide_eq_true (by kernel_rfl)) k0 bel lt0) trodAll_mk0), rfl, bel.frame _, fun h => by cases h⟩

theorem facts : joinedFacts Try.pinned.checked.prog 13 Try.f13 Rows.fnPlaceOfOneSpec Rows.fnPlaceOfOneRow = true := by
  simp only [joinedFacts, Bool.and_eq_true]
  repeat' apply And.intro
  all_goals first | rw [mayEnter_eq] | (rw [liftsFinal_eq]; kernel_rfl) | (rw [make_eq]; kernel_rfl) | kernel_rfl

theorem over : Rows.fnPlaceOfOneRow.holds Try.pinned (OpenSpec.ofChange Rows.fnPlaceOfOneSpec) :=
  OpenClaim.holds_of_wide 13 Try.f13 rfl rfl rfl rfl rfl rfl rfl ⟨rfl, rfl, rfl, rfl, rfl⟩ rfl rfl rfl rfl rfl (by kernel_rfl) Try.func13 facts
    (of_decide_eq_true (by kernel_rfl)) (by unfold Func.isWrapper; first | (rw [if_pos (by decide +kernel)]; kernel_rfl) | (rw [if_neg (by decide +kernel)]; exact ⟨rfl, rfl⟩))
    (fun os started H enc _ => lifted os started H enc)

theorem proved : Rows.FnPlaceOfOneSaid := over
#print axioms proved
end Go.Proofs.Ytppahekbgbbidac.lawPlaceOfOne
