/- Proves that FnNearBelow returns true for every code, and leaves the code as it was. No conditions. -/
import Derived.Test.YtppahekbgbbidaaHead
import Derived.Test.YtppahekbgbbidaaGNear
import Derived.Test.YtppahekbgbbidaaDraw5
import Derived.Test.YtppahekbgbbidaaGFun2
set_option linter.unusedVariables false
namespace Go.Proofs.Ytppahekbgbbidaa.lawNearB
open Go.ChangeShapes Go.WideShapes Go.ChangeAt Go.RowKit Go.Joins N

set_option maxHeartbeats 1000000 in
theorem walk (a : Option Addr) (len cap : Nat) (z : List Int) (w : World) (row : IsRow .u8 w a len cap z) :
    Calls Try.prog 16 #[.slice a len cap] w fun e w' => e = .returned (.bool true) ∧ Below w.heap.size w w' := by
  
  have hc := CodeIn.of row
  clear row
  by_cases hl : 1048576 < len
  · have hl' : (1048576 : Int) < len := by omega
    go_enter Try.func16, Try.ntmps16
    go_wp2
    go_ret
    exact ⟨rfl, (by repeat (first | exact Below.refl _ _ | assumption | (refine Below.trans ?_ (Below.mono (by assumption) (by first | omega | (simp <;> omega)))) | (refine Below.alloc ?_ (by first | omega | (simp <;> omega)) _) | (refine below_drewN ?_ _) | (refine Below.drew ?_) | (refine Below.setCell ?_ (by first | omega | (simp <;> omega)) _)))⟩
  · have hl' : ¬ (1048576 : Int) < len := by omega
    go_enter Try.func16, Try.ntmps16
    go_wp2_with fail
    refine (drawNearBelow_any a len cap _ hc (by omega)).mono ?_; rintro e w1 ⟨n, s, k, rfl, n0, n1, s0, s1, k0, k1, hb1⟩
    have hz1 := hb1.size
    try simp at hz1
    go_wp2_with fail
    refine (nearBelow_any _ _ _ _).mono ?_; rintro e w2 ⟨rfl, hb2⟩
    have hz2 := hb2.size
    try simp at hz2
    have t2 : Two w2 (w1.heap.size) (.int .i64 n) (.int .i64 s) 24 := Two.below (by repeat (first | assumption | exact Two.new' _ _ _ _ _ (by simp) | refine Two.alloc ?_ _ | refine Two.drewN ?_ _)) hb2 (by first | omega | (simp <;> omega))
    have hlt2 : (w1.heap.size) < w2.heap.size := t2.lt
    have hnt2 : ¬ (w1.heap.size) = w2.heap.size := Nat.ne_of_lt hlt2
    have t2c := t2.cell0
    have t2d := t2.cell1
    go_wp2_with fail
    refine (specNearBelow_any _ _ _ _).mono ?_; rintro e w3 ⟨rfl, hb3⟩
    have hz3 := hb3.size
    try simp at hz3
    have t3 : Two w3 (w1.heap.size) (.int .i64 n) (.int .i64 s) 24 := Two.below (by repeat (first | assumption | exact Two.new' _ _ _ _ _ (by simp) | refine Two.alloc ?_ _ | refine Two.drewN ?_ _)) hb3 (by first | omega | (simp <;> omega))
    have hlt3 : (w1.heap.size) < w3.heap.size := t3.lt
    have hnt3 : ¬ (w1.heap.size) = w3.heap.size := Nat.ne_of_lt hlt3
    have t3c := t3.cell0
    have t3d := t3.cell1
    by_cases h : tok n s = true ∧ 2 ≤ k ∧ k ≤ n
    · obtain ⟨ht, h2, hm⟩ := h
      have hb := tok_bd ht
      obtain ⟨q1, q2, q3⟩ := nearB_is ht h2 hm
      obtain ⟨q, hQ⟩ : ∃ q, nearB n s k = q := ⟨_, rfl⟩
      rw [hQ] at q1 q2 q3 ⊢
      have HQ := Lib.hid hQ
      have H3 := Lib.hid q3
      have Hq := Lib.hid (show pointF n s q = pt n s q from pointF_yes ht (by omega) (by omega))
      have E2 := Lib.hid (backT_yes ht)
      have HT := Lib.hid ht
      have HA := Lib.hid ((nearA_back (n := n) (s := s) (m := k)).trans hQ)
      have q0 : ¬ q < 0 := by omega
      have hB3 : Below w.heap.size w w3 := (by repeat (first | exact Below.refl _ _ | assumption | (refine Below.trans ?_ (Below.mono (by assumption) (by first | omega | (simp <;> omega)))) | (refine Below.alloc ?_ (by first | omega | (simp <;> omega)) _) | (refine below_drewN ?_ _) | (refine Below.drew ?_) | (refine Below.setCell ?_ (by first | omega | (simp <;> omega)) _)))
      clear ht hQ q3 hb1 hb2 hb3 t2 t2c t2d
      go_wp2_with fail
      go_loopw [6] (fun x wr => ∃ j : Int, x = .int .i64 j ∧ 0 ≤ j ∧ j ≤ k ∧ Two wr w1.heap.size (.int .i64 n) (.int .i64 s) 24 ∧ Below w.heap.size w wr) (fun x _ => (k - intOf x).toNat)
      case atStart => exact ⟨0, rfl, by omega, by omega, t3, hB3⟩
      case round =>
        obtain ⟨j, rfl, j0, j1, t5, hB5⟩ := hrel
        clear t3 hB3 t3c t3d
        have lt5 := t5.lt
        have c1 := t5.cell0
        have c2 := t5.cell1
        by_cases hj : j < k
        · have hjn : j < n := by omega
          have Hj := Lib.hid (show pointF n s j = pt n s j from pointF_yes HT.out (by omega) (by omega))
          have d : ¬ pt n s q < pt n s j := by have := H3.out j j0 hj; omega
          go_wp2_with fail
          go_region_held3 (fun w' => w'.cell? ⟨w1.heap.size, 0, none⟩ = some (.int .i64 n) ∧ w'.cell? ⟨w1.heap.size, 1, none⟩ = some (.int .i64 s)) (first | go_keep | exact ⟨t'c, t'd⟩ | exact ⟨((t'.set (b := _) (by omega) 0 _).set (b := _) (by omega) 1 _).cell0, ((t'.set (b := _) (by omega) 0 _).set (b := _) (by omega) 1 _).cell1⟩) (first | (go_at_call 22; refine (pointOf_any _ _ _ _).mono ?_; rintro e w' ⟨rfl, hb'⟩; have t' := Two.below (b := w1.heap.size) (x := .int .i64 n) (y := .int .i64 s) (T := 24) (by repeat (first | assumption | refine Two.alloc ?_ _)) hb' (by first | omega | (simp <;> omega)); have lt' := t'.lt; have t'c := t'.cell0; have t'd := t'.cell1; first | rw [Hj.out] | rw [Hq.out]))
          go_wp2
          go_roundw
          case rel => exact ⟨j + 1, by go_num, by omega, by omega, t', (by repeat (first | exact Below.refl _ _ | assumption | (refine Below.trans ?_ (Below.mono (by assumption) (by first | omega | (simp <;> omega)))) | (refine Below.alloc ?_ (by first | omega | (simp <;> omega)) _) | (refine below_drewN ?_ _) | (refine Below.drew ?_) | (refine Below.setCell ?_ (by first | omega | (simp <;> omega)) _)))⟩
          case measure => simp only [intOf]; omega
        · obtain rfl : j = k := by omega
          have hj' : decide (j < j) = false := by simp
          go_wp2_with fail
          refine (backTurn_any _ _ _).mono ?_; rintro e w6 ⟨rfl, hb6⟩
          have hz6 := hb6.size
          try simp at hz6
          rw [E2.out]
          go_wp2_with fail
          refine (nearAbove_any _ _ _ _).mono ?_; rintro e w7 ⟨rfl, hb7⟩
          have hz7 := hb7.size
          try simp at hz7
          rw [HA.out]
          go_wp2
          go_ret
          exact ⟨rfl, (by repeat (first | exact Below.refl _ _ | assumption | (refine Below.trans ?_ (Below.mono (by assumption) (by first | omega | (simp <;> omega)))) | (refine Below.alloc ?_ (by first | omega | (simp <;> omega)) _) | (refine below_drewN ?_ _) | (refine Below.drew ?_) | (refine Below.setCell ?_ (by first | omega | (simp <;> omega)) _)))⟩
    · rw [nearB_no h]
      go_wp2_with fail
      refine (alive_any _).mono ?_; rintro e w5 ⟨rfl, hb5⟩
      go_wp2
      go_ret
      exact ⟨rfl, (by repeat (first | exact Below.refl _ _ | assumption | (refine Below.trans ?_ (Below.mono (by assumption) (by first | omega | (simp <;> omega)))) | (refine Below.alloc ?_ (by first | omega | (simp <;> omega)) _) | (refine below_drewN ?_ _) | (refine Below.drew ?_) | (refine Below.setCell ?_ (by first | omega | (simp <;> omega)) _)))⟩

set_option maxRecDepth 100000 in
theorem lifted (os : Os) (started : os.Started) (H : Type) (enc : TypeId × Value → H) :
    ReturnsInHanded {} Try.checked os 16 .any (Rows.fnNearBelowSpec.pre6 enc Try.prog Try.f16 Rows.fnNearBelowRow.domain false) (Rows.fnNearBelowSpec.post enc Try.prog Try.f16 false true false false) := by
  refine returnsInHanded_of_change (C := Try.checked) own started (by kernel_rfl) Try.func16
    (ChangeSpec.witness6 (enc := enc) (C := Try.checked) false ⟨#[], #[.slice none 0 0], []⟩ 8 (by kernel_rfl) (by kernel_rfl) (by kernel_rfl) (by kernel_rfl)) ?_
  intro W base args ds gs before hval0 hW hcnd _
  have hval : ∀ (j : Nat) t v, Try.f16.params[j]? = some t → args[j]? = some v → Value.okWide Try.prog W .any base t v := hval0
  have hW' := hW
  obtain ⟨p, q, hA0, hV, rfl, hfz, hnd⟩ := hW
  have hA : DataW.TrodAll enc Try.prog W 0 (fun _ => true) true Try.f16.params.toList args.toList ds p := hA0
  rw [Try.params16] at hA hval
  obtain ⟨v0, vs0, d0, ds0, p0, q0, hargs, rfl, rfl, h0, r0⟩ := trodAll_cons hA
  obtain ⟨rfl, rfl, rfl⟩ := trodAll_nil r0
  obtain rfl : args = #[v0] := by cases args; simp_all
  obtain ⟨rfl, rfl⟩ := trodVars_none hV
  obtain ⟨acode, lencode, capcode, rfl⟩ := okWide_slice Try.underlying22 (hval 0 22 v0 rfl rfl)
  have k0 := h0
  have lt0 : ∀ x ∈ p0, x.block < W.heap.size := by obtain ⟨m, hm⟩ := k0; exact DataW.trod_lt m _ _ _ hm
  obtain ⟨zcode, rowcode⟩ : ∃ zs, IsRow .u8 W acode lencode capcode zs := by
    obtain ⟨fuel, hf⟩ := h0
    rcases open_ints Try.underlying22 Try.underlying5 (by kernel_rfl) hf with ⟨hcs, _⟩ | ⟨x, l, c, zs, hcs, _, hl, hm, hz, _, hcell, hwz⟩
    · simp [Value.cells] at hcs
      obtain ⟨rfl, rfl, rfl⟩ := hcs
      exact ⟨[], .inl ⟨rfl, rfl, rfl, rfl⟩⟩
    · simp [Value.cells] at hcs
      obtain ⟨rfl, rfl, rfl⟩ := hcs
      exact ⟨zs, .inr ⟨_, rfl, hl, hm, by simpa using hz, hcell, hwz⟩⟩
  clear hA0 hval0
  refine (walk acode lencode capcode zcode W rowcode).mono fun e W' ⟨he, bel⟩ => ?_
  subst he
  exact ⟨_, rfl, _, _, _, [], _, [], hW', trodAll_mk1 (shut_bool Try.underlying4 _), (trodAll_cons_mk (Below.trod laidOut (by kernel_rfl) (of_decide_eq_true (by kernel_rfl)) k0 bel lt0) trodAll_mk0), rfl, bel.frame _, fun h => by cases h⟩

theorem facts : joinedFacts Try.pinned.checked.prog 16 Try.f16 Rows.fnNearBelowSpec Rows.fnNearBelowRow = true := by
  simp only [joinedFacts, Bool.and_eq_true]
  repeat' apply And.intro
  all_goals first | rw [mayEnter_eq] | (rw [liftsFinal_eq]; kernel_rfl) | (rw [make_eq]; kernel_rfl) | kernel_rfl

theorem over : Rows.fnNearBelowRow.holds Try.pinned (OpenSpec.ofChange Rows.fnNearBelowSpec) :=
  OpenClaim.holds_of_wide 16 Try.f16 rfl rfl rfl rfl rfl rfl rfl ⟨rfl, rfl, rfl, rfl, rfl⟩ rfl rfl rfl rfl rfl (by kernel_rfl) Try.func16 facts
    (of_decide_eq_true (by kernel_rfl)) (by unfold Func.isWrapper; first | (rw [if_pos (by decide +kernel)]; kernel_rfl) | (rw [if_neg (by decide +kernel)]; exact ⟨rfl, rfl⟩))
    (fun os started H enc _ => lifted os started H enc)

theorem proved : Rows.FnNearBelowSaid := over
#print axioms proved
end Go.Proofs.Ytppahekbgbbidaa.lawNearB
