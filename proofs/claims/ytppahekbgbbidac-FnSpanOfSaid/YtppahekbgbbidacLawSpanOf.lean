/- Proves that FnSpanOf returns true for every code, and leaves the code as it was. No conditions. -/
import Derived.Test.YtppahekbgbbidacHead
import Derived.Test.YtppahekbgbbidacVisX
import Derived.Test.YtppahekbgbbidacDrawV
import Derived.Test.YtppahekbgbbidacGFun2
set_option linter.unusedVariables false
namespace Go.Proofs.Ytppahekbgbbidac.lawSpanOf

set_option maxRecDepth 4000
open N
open Go.ChangeShapes Go.WideShapes Go.ChangeAt Go.RowKit Go.Joins

set_option maxHeartbeats 2000000 in
theorem walk (a : Option Addr) (len cap : Nat) (z : List Int) (w : World) (row : IsRow .u8 w a len cap z) :
    Calls Try.prog 5 #[.slice a len cap] w fun e w' => e = .returned (.bool true) ∧ Below w.heap.size w w' := by
  
  have hc := CodeIn.of row
  clear row
  by_cases hl : 1048576 < len
  · have hl' : (1048576 : Int) < len := by omega
    go_enter Try.func5, Try.ntmps5
    go_wp2
    go_ret
    exact ⟨rfl, (by repeat (first | exact Below.refl _ _ | assumption | (refine Below.trans ?_ (Below.mono (by assumption) (by first | omega | (simp <;> omega)))) | (refine Below.alloc ?_ (by first | omega | (simp <;> omega)) _) | (refine below_drewN ?_ _) | (refine Below.drew ?_) | (refine Below.setCell ?_ (by first | omega | (simp <;> omega)) _)))⟩
  · have hl' : ¬ (1048576 : Int) < len := by omega
    go_enter Try.func5, Try.ntmps5
    go_wp2_with fail
    refine (drawSpanOf_any a len cap _ hc (by omega)).mono ?_; rintro e w1 ⟨n, s, u, rfl, hb1⟩
    have hz1 := hb1.size
    try simp at hz1
    go_wp2_with fail
    refine (spanOf_any _ _ _ _).mono ?_; rintro e w2 ⟨rfl, hb2⟩
    have hz2 := hb2.size
    try simp at hz2
    have t2 : Two w2 (w1.heap.size) (.int .i64 n) (.int .i64 s) 24 := Two.below (by repeat (first | assumption | exact Two.new' _ _ _ _ _ (by simp) | refine Two.alloc ?_ _ | refine Two.drewN ?_ _)) hb2 (by first | omega | (simp <;> omega))
    have hlt2 : (w1.heap.size) < w2.heap.size := t2.lt
    have hnt2 : ¬ (w1.heap.size) = w2.heap.size := Nat.ne_of_lt hlt2
    have t2c := t2.cell0
    have t2d := t2.cell1
    go_wp2_with fail
    refine (specSpanOf_any _ _ _ _).mono ?_; rintro e w3 ⟨rfl, hb3⟩
    have hz3 := hb3.size
    try simp at hz3
    have t3 : Two w3 (w1.heap.size) (.int .i64 n) (.int .i64 s) 24 := Two.below (by repeat (first | assumption | exact Two.new' _ _ _ _ _ (by simp) | refine Two.alloc ?_ _ | refine Two.drewN ?_ _)) hb3 (by first | omega | (simp <;> omega))
    have hlt3 : (w1.heap.size) < w3.heap.size := t3.lt
    have hnt3 : ¬ (w1.heap.size) = w3.heap.size := Nat.ne_of_lt hlt3
    have t3c := t3.cell0
    have t3d := t3.cell1
    by_cases h : tok n s = true ∧ 0 ≤ u ∧ u ≤ n
    · obtain ⟨ht, u0, u1⟩ := h
      have hb := tok_bd ht
      have h0 : 2 ≤ n := by omega
      have E := spanF_yes ht u0 u1
      have b1 := loE_bd (s := s) h0 (by omega) u0 u1 (n + 1).toNat (by omega)
      have b2 := hiE_bd (s := s) h0 (by omega) u0 u1 (n + 1).toNat (by omega)
      have hv0 : ¬ spanF n s u < 0 := by omega
      have hT : u < n → 0 ≤ timeF n s u ∧ timeF n s u < n := fun c => timeF_bd ht u0 c
      have hle : u < n → spanF n s u ≤ timeF n s u * (n - 1) := fun c => by
        rw [E]
        have hT' := hT c
        have k := span_le (n := n) (s := s) (w := u) (B := timeF n s u * (n - 1)) (fun i j => by
          rw [exC_at ht u0 c i, exC_at ht u0 c j]
          have := exB_span (n := n) (s := s) h0 i j (timeF n s u).toNat
          rwa [Int.toNat_of_nonneg hT'.1] at this) (n + 1).toNat
        exact k
      have hz : u = 0 ∨ u = n → spanF n s u = 0 := fun c => by
        rw [E]
        have k := span_nil (n := n) (s := s) (w := u) (fun i hi => by
          rcases c with c | c
          · rw [c]; exact exC_none h0 i
          · rw [c]; exact exC_whole h0 i) (n + 1).toNat (by omega)
        omega
      clear E b1 b2 ht
      go_wp2_with fail
      refine (timeOf_any _ _ _ _).mono ?_; rintro e w4 ⟨rfl, hb4⟩
      have hz4 := hb4.size
      try simp at hz4
      have t4 : Two w4 (w1.heap.size) (.int .i64 n) (.int .i64 s) 24 := Two.below (by repeat (first | assumption | exact Two.new' _ _ _ _ _ (by simp) | refine Two.alloc ?_ _ | refine Two.drewN ?_ _)) hb4 (by first | omega | (simp <;> omega))
      have hlt4 : (w1.heap.size) < w4.heap.size := t4.lt
      have hnt4 : ¬ (w1.heap.size) = w4.heap.size := Nat.ne_of_lt hlt4
      have t4c := t4.cell0
      have t4d := t4.cell1
      generalize hX : timeF n s u = X at *
      generalize spanF n s u = v at *
      have hw1 : IntKind.i64.wrap (n - 1) = n - 1 := IntWalk.i64_in _ (by omega)
      have HT := Lib.hid hT
      have HL := Lib.hid hle
      have HZ := Lib.hid hz
      clear hT hle hz hX
      by_cases c1 : u = n
      · have e := HZ.out (.inr c1)
        have c2 : (u == n) = true := by simpa using c1
        have c3 : decide (u < n) = false := by simp; omega
        have c4 : 0 < u := by omega
        clear c1 HT HL HZ
        subst e
        go_wp2
        go_ret
        exact ⟨rfl, (by repeat (first | exact Below.refl _ _ | assumption | (refine Below.trans ?_ (Below.mono (by assumption) (by first | omega | (simp <;> omega)))) | (refine Below.alloc ?_ (by first | omega | (simp <;> omega)) _) | (refine below_drewN ?_ _) | (refine Below.drew ?_) | (refine Below.setCell ?_ (by first | omega | (simp <;> omega)) _)))⟩
      · have c2 : (u == n) = false := by simpa using c1
        have c3 : u < n := by omega
        have hT := HT.out c3
        have hL := HL.out c3
        have x0 : 0 ≤ X * (n - 1) := Int.mul_nonneg hT.1 (by omega)
        have x1 : X * (n - 1) ≤ 60 * 60 := Int.mul_le_mul (by omega) (by omega) (by omega) (by omega)
        have hw2 : IntKind.i64.wrap (X * (n - 1)) = X * (n - 1) := IntWalk.i64_in _ (by omega)
        by_cases c4 : 0 < u
        · clear c1 HT HL HZ hT
          go_wp2
          go_ret
          exact ⟨rfl, (by repeat (first | exact Below.refl _ _ | assumption | (refine Below.trans ?_ (Below.mono (by assumption) (by first | omega | (simp <;> omega)))) | (refine Below.alloc ?_ (by first | omega | (simp <;> omega)) _) | (refine below_drewN ?_ _) | (refine Below.drew ?_) | (refine Below.setCell ?_ (by first | omega | (simp <;> omega)) _)))⟩
        · have e := HZ.out (.inl (by omega))
          have c5 : decide (0 < u) = false := by simpa using c4
          clear c1 HT HL HZ hT
          subst e
          go_wp2
          go_ret
          exact ⟨rfl, (by repeat (first | exact Below.refl _ _ | assumption | (refine Below.trans ?_ (Below.mono (by assumption) (by first | omega | (simp <;> omega)))) | (refine Below.alloc ?_ (by first | omega | (simp <;> omega)) _) | (refine below_drewN ?_ _) | (refine Below.drew ?_) | (refine Below.setCell ?_ (by first | omega | (simp <;> omega)) _)))⟩
    · have e := spanF_no h
      rw [e]
      go_wp2_with fail
      refine (alive_any _).mono ?_; rintro e w4 ⟨rfl, hb4⟩
      have hz4 := hb4.size
      try simp at hz4
      go_wp2
      go_ret
      exact ⟨rfl, (by repeat (first | exact Below.refl _ _ | assumption | (refine Below.trans ?_ (Below.mono (by assumption) (by first | omega | (simp <;> omega)))) | (refine Below.alloc ?_ (by first | omega | (simp <;> omega)) _) | (refine below_drewN ?_ _) | (refine Below.drew ?_) | (refine Below.setCell ?_ (by first | omega | (simp <;> omega)) _)))⟩

set_option maxRecDepth 100000 in
theorem lifted (os : Os) (started : os.Started) (H : Type) (enc : TypeId × Value → H) :
    ReturnsInHanded {} Try.checked os 5 .any (Rows.fnSpanOfSpec.pre6 enc Try.prog Try.f5 Rows.fnSpanOfRow.domain false) (Rows.fnSpanOfSpec.post enc Try.prog Try.f5 false true false false) := by
  refine returnsInHanded_of_change (C := Try.checked) own started (by kernel_rfl) Try.func5
    (ChangeSpec.witness6 (enc := enc) (C := Try.checked) false ⟨#[], #[.slice none 0 0], []⟩ 8 (by kernel_rfl) (by kernel_rfl) (by kernel_rfl) (by kernel_rfl)) ?_
  intro W base args ds gs before hval0 hW hcnd _
  have hval : ∀ (j : Nat) t v, Try.f5.params[j]? = some t → args[j]? = some v → Value.okWide Try.prog W .any base t v := hval0
  have hW' := hW
  obtain ⟨p, q, hA0, hV, rfl, hfz, hnd⟩ := hW
  have hA : DataW.TrodAll enc Try.prog W 0 (fun _ => true) true Try.f5.params.toList args.toList ds p := hA0
  rw [Try.params5] at hA hval
  obtain ⟨v0, vs0, d0, ds0, p0, q0, hargs, rfl, rfl, h0, r0⟩ := trodAll_cons hA
  obtain ⟨rfl, rfl, rfl⟩ := trodAll_nil r0
  obtain rfl : args = #[v0] := by cases args; simp_all
  obtain ⟨rfl, rfl⟩ := trodVars_none hV
  obtain ⟨acode, lencode, capcode, rfl⟩ := okWide_slice Try.underlying22 (hval 0 22 v0 rfl rfl)
  have k0 := h0
  have lt0 : ∀ x ∈ p0, x.block < W.heap.size := by obtain ⟨m, hm⟩ := k0; exact DataW.trod_lt m _ _ _ hm
  obtain ⟨zcode, rowcode⟩ : ∃ zs, IsRow .u8 W acode lencode capcode zs := by
    obtain ⟨fuel, hf⟩ := h0
    rcases open_ints Try.underlying22 Try.underlying5 (by kernel_rfl) hf with ⟨hcs, _⟩ | ⟨x, l, c, zs, hcs, _, hl, hm, hz, _, hcell, hwz⟩
    · simp [Value.cells] at hcs
      obtain ⟨rfl, rfl, rfl⟩ := hcs
      exact ⟨[], .inl ⟨rfl, rfl, rfl, rfl⟩⟩
    · simp [Value.cells] at hcs
      obtain ⟨rfl, rfl, rfl⟩ := hcs
      exact ⟨zs, .inr ⟨_, rfl, hl, hm, by simpa using hz, hcell, hwz⟩⟩
  clear hA0 hval0
  refine (walk acode lencode capcode zcode W rowcode).mono fun e W' ⟨he, bel⟩ => ?_
  subst he
  exact ⟨_, rfl, _, _, _, [], _, [], hW', trodAll_mk1 (shut_bool Try.underlying4 _), (trodAll_cons_mk (Below.trod laidOut (by kernel_rfl) (of_decide_eq_true (by kernel_rfl)) k0 bel lt0) trodAll_mk0), rfl, bel.frame _, fun h => by cases h⟩

theorem facts : joinedFacts Try.pinned.checked.prog 5 Try.f5 Rows.fnSpanOfSpec Rows.fnSpanOfRow = true := by
  simp only [joinedFacts, Bool.and_eq_true]
  repeat' apply And.intro
  all_goals first | rw [mayEnter_eq] | (rw [liftsFinal_eq]; kernel_rfl) | (rw [make_eq]; kernel_rfl) | kernel_rfl

theorem over : Rows.fnSpanOfRow.holds Try.pinned (OpenSpec.ofChange Rows.fnSpanOfSpec) :=
  OpenClaim.holds_of_wide 5 Try.f5 rfl rfl rfl rfl rfl rfl rfl ⟨rfl, rfl, rfl, rfl, rfl⟩ rfl rfl rfl rfl rfl (by kernel_rfl) Try.func5 facts
    (of_decide_eq_true (by kernel_rfl)) (by unfold Func.isWrapper; first | (rw [if_pos (by decide +kernel)]; kernel_rfl) | (rw [if_neg (by decide +kernel)]; exact ⟨rfl, rfl⟩))
    (fun os started H enc _ => lifted os started H enc)

theorem proved : Rows.FnSpanOfSaid := over
#print axioms proved
end Go.Proofs.Ytppahekbgbbidac.lawSpanOf
