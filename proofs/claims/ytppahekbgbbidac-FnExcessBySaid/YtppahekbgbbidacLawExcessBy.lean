/- Proves that FnExcessBy returns true for every code, and leaves the code as it was. No conditions. -/
import Derived.Test.YtppahekbgbbidacHead
import Derived.Test.YtppahekbgbbidacVisY
import Derived.Test.YtppahekbgbbidacVisZ
import Derived.Test.YtppahekbgbbidacDrawV
import Derived.Test.YtppahekbgbbidacGFun2
set_option linter.unusedVariables false
namespace Go.Proofs.Ytppahekbgbbidac.lawExcessBy

set_option maxRecDepth 4000
open N
open Go.ChangeShapes Go.WideShapes Go.ChangeAt Go.RowKit Go.Joins

set_option maxHeartbeats 2000000 in
theorem walk (a : Option Addr) (len cap : Nat) (z : List Int) (w : World) (row : IsRow .u8 w a len cap z) :
    Calls Try.prog 3 #[.slice a len cap] w fun e w' => e = .returned (.bool true) ∧ Below w.heap.size w w' := by
  
  have hc := CodeIn.of row
  clear row
  by_cases hl : 1048576 < len
  · have hl' : (1048576 : Int) < len := by omega
    go_enter Try.func3, Try.ntmps3
    go_wp2
    go_ret
    exact ⟨rfl, (by repeat (first | exact Below.refl _ _ | assumption | (refine Below.trans ?_ (Below.mono (by assumption) (by first | omega | (simp <;> omega)))) | (refine Below.alloc ?_ (by first | omega | (simp <;> omega)) _) | (refine below_drewN ?_ _) | (refine Below.drew ?_) | (refine Below.setCell ?_ (by first | omega | (simp <;> omega)) _)))⟩
  · have hl' : ¬ (1048576 : Int) < len := by omega
    go_enter Try.func3, Try.ntmps3
    go_wp2_with fail
    refine (drawExcessBy_any a len cap _ hc (by omega)).mono ?_; rintro e w1 ⟨n, s, m, u, rfl, hb1⟩
    have hz1 := hb1.size
    try simp at hz1
    go_wp2_with fail
    refine (excessBy_any _ _ _ _ _).mono ?_; rintro e w2 ⟨rfl, hb2⟩
    have hz2 := hb2.size
    try simp at hz2
    have t2 : Two w2 (w1.heap.size) (.int .i64 n) (.int .i64 s) 24 := Two.below (by repeat (first | assumption | exact Two.new' _ _ _ _ _ (by simp) | refine Two.alloc ?_ _ | refine Two.drewN ?_ _)) hb2 (by first | omega | (simp <;> omega))
    have hlt2 : (w1.heap.size) < w2.heap.size := t2.lt
    have hnt2 : ¬ (w1.heap.size) = w2.heap.size := Nat.ne_of_lt hlt2
    have t2c := t2.cell0
    have t2d := t2.cell1
    go_wp2_with fail
    refine (specExcessBy_any _ _ _ _ _).mono ?_; rintro e w3 ⟨rfl, hb3⟩
    have hz3 := hb3.size
    try simp at hz3
    have t3 : Two w3 (w1.heap.size) (.int .i64 n) (.int .i64 s) 24 := Two.below (by repeat (first | assumption | exact Two.new' _ _ _ _ _ (by simp) | refine Two.alloc ?_ _ | refine Two.drewN ?_ _)) hb3 (by first | omega | (simp <;> omega))
    have hlt3 : (w1.heap.size) < w3.heap.size := t3.lt
    have hnt3 : ¬ (w1.heap.size) = w3.heap.size := Nat.ne_of_lt hlt3
    have t3c := t3.cell0
    have t3d := t3.cell1
    have hnn : (exbT n s m u != exbT n s m u) = false := by simp
    by_cases h : tok n s = true ∧ 0 ≤ m ∧ m ≤ n ∧ 0 ≤ u ∧ u < n
    · obtain ⟨ht, m0, m1, u0, u1⟩ := h
      have hb := tok_bd ht
      have h0 : 2 ≤ n := by omega
      have E := exbF_yes ht m0 m1 u0 u1
      have hbd := exB_bd (n := n) (s := s) h0 m.toNat u.toNat
      rw [Int.toNat_of_nonneg u0] at hbd
      have hz : u = 0 → exbF n s m u = 0 := fun c => by rw [E, c]; rfl
      have hp := pointF_bd ht u0 u1
      have H1 : Hid (∀ w, Calls Try.prog 19 #[(.agg #[.int .i64 (n), .int .i64 (s)]), .int .i64 u] w fun e w' => e = .returned (.int .i64 (pointF n s u)) ∧ Below w.heap.size w w') := fun w => pointOf_any n s u w
      have H2 : Hid (∀ w, Calls Try.prog 18 #[(.agg #[.int .i64 (n), .int .i64 (s)]), .int .i64 m, .int .i64 (pointF n s u)] w fun e w' => e = .returned (.tuple #[.int .i64 (exbF n s m u), .bool true]) ∧ Below w.heap.size w w') := fun w => by
        have k := excessOf_any n s m (pointF n s u) w
        rw [excT_yes ht m0 m1 hp.1 (by omega), excF_yes ht m0 m1 hp.1 (by omega), exC_at ht hp.1 hp.2, timeF_pointF ht u0 u1, ← E] at k
        exact k
      rw [exbT_yes ht m0 m1 u0 u1] at hnn ⊢
      rw [← E] at hbd
      clear E ht
      have hB3 : Below w.heap.size w w3 := (by repeat (first | exact Below.refl _ _ | assumption | (refine Below.trans ?_ (Below.mono (by assumption) (by first | omega | (simp <;> omega)))) | (refine Below.alloc ?_ (by first | omega | (simp <;> omega)) _) | (refine below_drewN ?_ _) | (refine Below.drew ?_) | (refine Below.setCell ?_ (by first | omega | (simp <;> omega)) _)))
      have HZ := Lib.hid hz
      generalize pointF n s u = p at *
      generalize exbF n s m u = v at *
      have x0 : 0 ≤ u * (n - 1) := Int.mul_nonneg u0 (by omega)
      have x1 : u * (n - 1) ≤ 60 * 60 := Int.mul_le_mul (by omega) (by omega) (by omega) (by omega)
      have hw1 : IntKind.i64.wrap (n - 1) = n - 1 := IntWalk.i64_in _ (by omega)
      have hw2 : IntKind.i64.wrap (u * (n - 1)) = u * (n - 1) := IntWalk.i64_in _ (by omega)
      have hw3 : IntKind.i64.wrap (-u) = -u := IntWalk.i64_in _ (by omega)
      have hng : -u * (n - 1) = -(u * (n - 1)) := Int.neg_mul ..
      have hw4 : IntKind.i64.wrap (-(u * (n - 1))) = -(u * (n - 1)) := IntWalk.i64_in _ (by omega)
      have hw5 : IntKind.i64.wrap (-u * (n - 1)) = -(u * (n - 1)) := by rw [hng]; exact hw4
      obtain ⟨hbd1, hbd2⟩ := hbd
      clear hz hp
      go_wp2_with fail
      go_region_held3 (fun w' => w'.cell? ⟨w1.heap.size, 0, none⟩ = some (.int .i64 n) ∧ w'.cell? ⟨w1.heap.size, 1, none⟩ = some (.int .i64 s))
        (first | go_keep | exact ⟨t'c, t'd⟩)
        (first
          | (go_at_call 19; (with_reducible refine (H1.out _).mono ?_); rintro e w' ⟨rfl, hb'⟩; have t'' : Two w' (w1.heap.size) (.int .i64 n) (.int .i64 s) 24 := (by first | exact Two.below t' hb' t'.lt | exact Two.below (Two.drewS t3) hb' (Two.lt t3)); have B'' : Below w.heap.size w w' := (by first | exact B'.trans (Below.mono hb' B'.size) | exact (Below.drewS hB3).trans (Below.mono hb' (Below.size (Below.drewS hB3)))); have t' := t''; have B' := B''; have t'c := t'.cell0; have t'd := t'.cell1)
          | (go_at_call 18; (with_reducible refine (H2.out _).mono ?_); rintro e w' ⟨rfl, hb'⟩; have t'' : Two w' (w1.heap.size) (.int .i64 n) (.int .i64 s) 24 := (by first | exact Two.below t' hb' t'.lt | exact Two.below (Two.drewS t3) hb' (Two.lt t3)); have B'' : Below w.heap.size w w' := (by first | exact B'.trans (Below.mono hb' B'.size) | exact (Below.drewS hB3).trans (Below.mono hb' (Below.size (Below.drewS hB3)))); have t' := t''; have B' := B''; have t'c := t'.cell0; have t'd := t'.cell1)
          | fail)
      by_cases c : 0 < u
      · go_wp2
        go_ret
        exact ⟨rfl, B'⟩
      · have e := HZ.out (by omega)
        have c' : decide (0 < u) = false := by simpa using c
        subst e
        go_wp2
        go_ret
        exact ⟨rfl, B'⟩
    · rw [exbF_no h, exbT_no h]
      go_wp2_with fail
      refine (alive_any _).mono ?_; rintro e w4 ⟨rfl, hb4⟩
      have hz4 := hb4.size
      try simp at hz4
      go_wp2
      go_ret
      exact ⟨rfl, (by repeat (first | exact Below.refl _ _ | assumption | (refine Below.trans ?_ (Below.mono (by assumption) (by first | omega | (simp <;> omega)))) | (refine Below.alloc ?_ (by first | omega | (simp <;> omega)) _) | (refine below_drewN ?_ _) | (refine Below.drew ?_) | (refine Below.setCell ?_ (by first | omega | (simp <;> omega)) _)))⟩

set_option maxRecDepth 100000 in
theorem lifted (os : Os) (started : os.Started) (H : Type) (enc : TypeId × Value → H) :
    ReturnsInHanded {} Try.checked os 3 .any (Rows.fnExcessBySpec.pre6 enc Try.prog Try.f3 Rows.fnExcessByRow.domain false) (Rows.fnExcessBySpec.post enc Try.prog Try.f3 false true false false) := by
  refine returnsInHanded_of_change (C := Try.checked) own started (by kernel_rfl) Try.func3
    (ChangeSpec.witness6 (enc := enc) (C := Try.checked) false ⟨#[], #[.slice none 0 0], []⟩ 8 (by kernel_rfl) (by kernel_rfl) (by kernel_rfl) (by kernel_rfl)) ?_
  intro W base args ds gs before hval0 hW hcnd _
  have hval : ∀ (j : Nat) t v, Try.f3.params[j]? = some t → args[j]? = some v → Value.okWide Try.prog W .any base t v := hval0
  have hW' := hW
  obtain ⟨p, q, hA0, hV, rfl, hfz, hnd⟩ := hW
  have hA : DataW.TrodAll enc Try.prog W 0 (fun _ => true) true Try.f3.params.toList args.toList ds p := hA0
  rw [Try.params3] at hA hval
  obtain ⟨v0, vs0, d0, ds0, p0, q0, hargs, rfl, rfl, h0, r0⟩ := trodAll_cons hA
  obtain ⟨rfl, rfl, rfl⟩ := trodAll_nil r0
  obtain rfl : args = #[v0] := by cases args; simp_all
  obtain ⟨rfl, rfl⟩ := trodVars_none hV
  obtain ⟨acode, lencode, capcode, rfl⟩ := okWide_slice Try.underlying22 (hval 0 22 v0 rfl rfl)
  have k0 := h0
  have lt0 : ∀ x ∈ p0, x.block < W.heap.size := by obtain ⟨m, hm⟩ := k0; exact DataW.trod_lt m _ _ _ hm
  obtain ⟨zcode, rowcode⟩ : ∃ zs, IsRow .u8 W acode lencode capcode zs := by
    obtain ⟨fuel, hf⟩ := h0
    rcases open_ints Try.underlying22 Try.underlying5 (by kernel_rfl) hf with ⟨hcs, _⟩ | ⟨x, l, c, zs, hcs, _, hl, hm, hz, _, hcell, hwz⟩
    · simp [Value.cells] at hcs
      obtain ⟨rfl, rfl, rfl⟩ := hcs
      exact ⟨[], .inl ⟨rfl, rfl, rfl, rfl⟩⟩
    · simp [Value.cells] at hcs
      obtain ⟨rfl, rfl, rfl⟩ := hcs
      exact ⟨zs, .inr ⟨_, rfl, hl, hm, by simpa using hz, hcell, hwz⟩⟩
  clear hA0 hval0
  refine (walk acode lencode capcode zcode W rowcode).mono fun e W' ⟨he, bel⟩ => ?_
  subst he
  exact ⟨_, rfl, _, _, _, [], _, [], hW', trodAll_mk1 (shut_bool Try.underlying4 _), (trodAll_cons_mk (Below.trod laidOut (by kernel_rfl) (of_decide_eq_true (by kernel_rfl)) k0 bel lt0) trodAll_mk0), rfl, bel.frame _, fun h => by cases h⟩

theorem facts : joinedFacts Try.pinned.checked.prog 3 Try.f3 Rows.fnExcessBySpec Rows.fnExcessByRow = true := by
  simp only [joinedFacts, Bool.and_eq_true]
  repeat' apply And.intro
  all_goals first | rw [mayEnter_eq] | (rw [liftsFinal_eq]; kernel_rfl) | (rw [make_eq]; kernel_rfl) | kernel_rfl

theorem over : Rows.fnExcessByRow.holds Try.pinned (OpenSpec.ofChange Rows.fnExcessBySpec) :=
  OpenClaim.holds_of_wide 3 Try.f3 rfl rfl rfl rfl rfl rfl rfl ⟨rfl, rfl, rfl, rfl, rfl⟩ rfl rfl rfl rfl rfl (by kernel_rfl) Try.func3 facts
    (of_decide_eq_true (by kernel_rfl)) (by unfold Func.isWrapper; first | (rw [if_pos (by decide +kernel)]; kernel_rfl) | (rw [if_neg (by decide +kernel)]; exact ⟨rfl, rfl⟩))
    (fun os started H enc _ => lifted os started H enc)

theorem proved : Rows.FnExcessBySaid := over
#print axioms proved
end Go.Proofs.Ytppahekbgbbidac.lawExcessBy
