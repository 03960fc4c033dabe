/- Proves that FnReturnsAdd returns true for every code, and leaves the code as it was. No conditions. -/
import Derived.Test.YtkhnnbgmckeoaaaHead
import Derived.Test.YtkhnnbgmckeoaaaRetJ
import Derived.Test.YtkhnnbgmckeoaaaRetG
import Derived.Test.YtkhnnbgmckeoaaaDrawR
import Derived.Test.YtkhnnbgmckeoaaaFun3
set_option linter.unusedVariables false
namespace Go.Proofs.Ytkhnnbgmckeoaaa.lawReturnsAdd

set_option maxRecDepth 4000
open Go.ChangeShapes Go.WideShapes Go.ChangeAt Go.RowKit Go.Joins N

set_option maxHeartbeats 4000000 in
theorem walk (a : Option Addr) (len cap : Nat) (z : List Int) (w : World) (row : IsRow .u8 w a len cap z) :
    Calls Try.prog 10 #[.slice a len cap] w fun e w' => e = .returned (.bool true) ∧ Below w.heap.size w w' := by
  
  have hc := CodeIn.of row
  clear row
  by_cases hl : 1048576 < len
  · have hl' : (1048576 : Int) < len := by omega
    go_enter Try.func10, Try.ntmps10
    go_wp2
    go_ret
    exact ⟨rfl, (by repeat (first | exact Below.refl _ _ | assumption | (refine Below.trans ?_ (Below.mono (by assumption) (by first | omega | (simp <;> omega)))) | (refine Below.alloc ?_ (by first | omega | (simp <;> omega)) _) | (refine below_drewN ?_ _) | (refine Below.drew ?_) | (refine Below.setCell ?_ (by first | omega | (simp <;> omega)) _)))⟩
  · have hl' : ¬ (1048576 : Int) < len := by omega
    go_enter Try.func10, Try.ntmps10
    go_wp2_with fail
    refine (drawReturnOf_any a len cap _ hc (by omega)).mono ?_; rintro e w1 ⟨n, s, u, p, rfl, k0, k1, m0, m1, hb1⟩
    have hz1 := hb1.size
    try simp at hz1
    go_wp2_with fail
    refine (specTurnOk_any _ _ _).mono ?_; rintro e w2 ⟨rfl, hb2⟩
    have hz2 := hb2.size
    try simp at hz2
    have t2 : Two w2 (w1.heap.size) (.int .i64 n) (.int .i64 s) 24 := Two.below (by repeat (first | assumption | exact Two.new' _ _ _ _ _ (by simp) | refine Two.alloc ?_ _ | refine Two.drewN ?_ _)) hb2 (by first | omega | (simp <;> omega))
    have hlt2 : (w1.heap.size) < w2.heap.size := t2.lt
    have hnt2 : ¬ (w1.heap.size) = w2.heap.size := Nat.ne_of_lt hlt2
    have t2c := t2.cell0
    have t2d := t2.cell1
    have hwu : IntKind.i64.wrap (u - 1) = u - 1 := IntWalk.i64_in _ (by omega)
    by_cases ht : tok n s = true
    · have hb := tok_bd ht
      rw [ht]
      by_cases c1 : u < 2
      · go_wp2_with fail
        refine (alive_any _).mono ?_; rintro e w3 ⟨rfl, hb3⟩
        have hz3 := hb3.size
        try simp at hz3
        go_wp2
        go_ret
        exact ⟨rfl, (by repeat (first | exact Below.refl _ _ | assumption | (refine Below.trans ?_ (Below.mono (by assumption) (by first | omega | (simp <;> omega)))) | (refine Below.alloc ?_ (by first | omega | (simp <;> omega)) _) | (refine below_drewN ?_ _) | (refine Below.drew ?_) | (refine Below.setCell ?_ (by first | omega | (simp <;> omega)) _)))⟩
      · by_cases c2 : n < u
        · go_wp2_with fail
          refine (alive_any _).mono ?_; rintro e w3 ⟨rfl, hb3⟩
          have hz3 := hb3.size
          try simp at hz3
          go_wp2
          go_ret
          exact ⟨rfl, (by repeat (first | exact Below.refl _ _ | assumption | (refine Below.trans ?_ (Below.mono (by assumption) (by first | omega | (simp <;> omega)))) | (refine Below.alloc ?_ (by first | omega | (simp <;> omega)) _) | (refine below_drewN ?_ _) | (refine Below.drew ?_) | (refine Below.setCell ?_ (by first | omega | (simp <;> omega)) _)))⟩
        · by_cases c3 : p < 0
          · go_wp2_with fail
            refine (alive_any _).mono ?_; rintro e w3 ⟨rfl, hb3⟩
            have hz3 := hb3.size
            try simp at hz3
            go_wp2
            go_ret
            exact ⟨rfl, (by repeat (first | exact Below.refl _ _ | assumption | (refine Below.trans ?_ (Below.mono (by assumption) (by first | omega | (simp <;> omega)))) | (refine Below.alloc ?_ (by first | omega | (simp <;> omega)) _) | (refine below_drewN ?_ _) | (refine Below.drew ?_) | (refine Below.setCell ?_ (by first | omega | (simp <;> omega)) _)))⟩
          · by_cases c4 : u - 1 ≤ p
            · go_wp2_with fail
              refine (alive_any _).mono ?_; rintro e w3 ⟨rfl, hb3⟩
              have hz3 := hb3.size
              try simp at hz3
              go_wp2
              go_ret
              exact ⟨rfl, (by repeat (first | exact Below.refl _ _ | assumption | (refine Below.trans ?_ (Below.mono (by assumption) (by first | omega | (simp <;> omega)))) | (refine Below.alloc ?_ (by first | omega | (simp <;> omega)) _) | (refine below_drewN ?_ _) | (refine Below.drew ?_) | (refine Below.setCell ?_ (by first | omega | (simp <;> omega)) _)))⟩
            · have hA := add_cases ht (by omega : 2 ≤ u) (by omega) (by omega : 0 ≤ p) (by omega)
              have hr := retF_bd ht (by omega : 1 ≤ u) (by omega) (by omega : 0 ≤ p) (by omega)
              have hr2 := retF_bd ht (by omega : 1 ≤ u) (by omega) (by omega : 0 ≤ u - 1) (by omega)
              have HA := Lib.hid hA
              clear hA ht
              go_wp2_with fail
              refine (returnOf_any _ _ _ _ _).mono ?_; rintro e w3 ⟨rfl, hb3⟩
              have hz3 := hb3.size
              try simp at hz3
              have t3 : Two w3 (w1.heap.size) (.int .i64 n) (.int .i64 s) 24 := Two.below (by repeat (first | assumption | exact Two.new' _ _ _ _ _ (by simp) | refine Two.alloc ?_ _ | refine Two.drewN ?_ _)) hb3 (by first | omega | (simp <;> omega))
              have hlt3 : (w1.heap.size) < w3.heap.size := t3.lt
              have hnt3 : ¬ (w1.heap.size) = w3.heap.size := Nat.ne_of_lt hlt3
              have t3c := t3.cell0
              have t3d := t3.cell1
              go_wp2_with fail
              refine (landsAt_any _ _ _ _ _).mono ?_; rintro e w4 ⟨rfl, hb4⟩
              have hz4 := hb4.size
              try simp at hz4
              have t4 : Two w4 (w1.heap.size) (.int .i64 n) (.int .i64 s) 24 := Two.below (by repeat (first | assumption | exact Two.new' _ _ _ _ _ (by simp) | refine Two.alloc ?_ _ | refine Two.drewN ?_ _)) hb4 (by first | omega | (simp <;> omega))
              have hlt4 : (w1.heap.size) < w4.heap.size := t4.lt
              have hnt4 : ¬ (w1.heap.size) = w4.heap.size := Nat.ne_of_lt hlt4
              have t4c := t4.cell0
              have t4d := t4.cell1
              rcases HA.out with ⟨a1, a2, a3⟩ | ⟨a1, a2, a3⟩
              · have A2 := Lib.hid a2
                have A3 := Lib.hid a3
                clear HA a2 a3
                generalize landF n s u p = X at *
                generalize retF n s u p = R at *
                have a1' : (X == u - 1) = false := by simpa using a1
                go_wp2_with fail
                refine (returnOf_any _ _ _ _ _).mono ?_; rintro e w5 ⟨rfl, hb5⟩
                have hz5 := hb5.size
                try simp at hz5
                have t5 : Two w5 (w1.heap.size) (.int .i64 n) (.int .i64 s) 24 := Two.below (by repeat (first | assumption | exact Two.new' _ _ _ _ _ (by simp) | refine Two.alloc ?_ _ | refine Two.drewN ?_ _)) hb5 (by first | omega | (simp <;> omega))
                have hlt5 : (w1.heap.size) < w5.heap.size := t5.lt
                have hnt5 : ¬ (w1.heap.size) = w5.heap.size := Nat.ne_of_lt hlt5
                have t5c := t5.cell0
                have t5d := t5.cell1
                rw [A2.out]
                go_wp2_with fail
                refine (landsAt_any _ _ _ _ _).mono ?_; rintro e w6 ⟨rfl, hb6⟩
                have hz6 := hb6.size
                try simp at hz6
                have t6 : Two w6 (w1.heap.size) (.int .i64 n) (.int .i64 s) 24 := Two.below (by repeat (first | assumption | exact Two.new' _ _ _ _ _ (by simp) | refine Two.alloc ?_ _ | refine Two.drewN ?_ _)) hb6 (by first | omega | (simp <;> omega))
                have hlt6 : (w1.heap.size) < w6.heap.size := t6.lt
                have hnt6 : ¬ (w1.heap.size) = w6.heap.size := Nat.ne_of_lt hlt6
                have t6c := t6.cell0
                have t6d := t6.cell1
                rw [A3.out]
                go_wp2
                go_ret
                exact ⟨rfl, (by repeat (first | exact Below.refl _ _ | assumption | (refine Below.trans ?_ (Below.mono (by assumption) (by first | omega | (simp <;> omega)))) | (refine Below.alloc ?_ (by first | omega | (simp <;> omega)) _) | (refine below_drewN ?_ _) | (refine Below.drew ?_) | (refine Below.setCell ?_ (by first | omega | (simp <;> omega)) _)))⟩
              · have A2 := Lib.hid a2
                have A3 := Lib.hid a3
                have A1 := Lib.hid a1
                clear HA a2 a3 a1
                rw [A1.out]
                generalize retF n s u p = R at *
                generalize hR2 : retF n s u (u - 1) = R2 at *
                have HR2 := Lib.hid hR2
                clear hR2
                go_wp2_with fail
                refine (returnOf_any _ _ _ _ _).mono ?_; rintro e w5 ⟨rfl, hb5⟩
                have hz5 := hb5.size
                try simp at hz5
                have t5 : Two w5 (w1.heap.size) (.int .i64 n) (.int .i64 s) 24 := Two.below (by repeat (first | assumption | exact Two.new' _ _ _ _ _ (by simp) | refine Two.alloc ?_ _ | refine Two.drewN ?_ _)) hb5 (by first | omega | (simp <;> omega))
                have hlt5 : (w1.heap.size) < w5.heap.size := t5.lt
                have hnt5 : ¬ (w1.heap.size) = w5.heap.size := Nat.ne_of_lt hlt5
                have t5c := t5.cell0
                have t5d := t5.cell1
                rw [HR2.out]
                go_wp2_with fail
                refine (landsAt_any _ _ _ _ _).mono ?_; rintro e w6 ⟨rfl, hb6⟩
                have hz6 := hb6.size
                try simp at hz6
                have t6 : Two w6 (w1.heap.size) (.int .i64 n) (.int .i64 s) 24 := Two.below (by repeat (first | assumption | exact Two.new' _ _ _ _ _ (by simp) | refine Two.alloc ?_ _ | refine Two.drewN ?_ _)) hb6 (by first | omega | (simp <;> omega))
                have hlt6 : (w1.heap.size) < w6.heap.size := t6.lt
                have hnt6 : ¬ (w1.heap.size) = w6.heap.size := Nat.ne_of_lt hlt6
                have t6c := t6.cell0
                have t6d := t6.cell1
                generalize landF n s u (u - 1) = X at *
                have hwr : IntKind.i64.wrap (R + R2) = R + R2 := IntWalk.i64_in _ (by omega)
                go_wp2_with fail
                refine (returnOf_any _ _ _ _ _).mono ?_; rintro e w7 ⟨rfl, hb7⟩
                have hz7 := hb7.size
                try simp at hz7
                have t7 : Two w7 (w1.heap.size) (.int .i64 n) (.int .i64 s) 24 := Two.below (by repeat (first | assumption | exact Two.new' _ _ _ _ _ (by simp) | refine Two.alloc ?_ _ | refine Two.drewN ?_ _)) hb7 (by first | omega | (simp <;> omega))
                have hlt7 : (w1.heap.size) < w7.heap.size := t7.lt
                have hnt7 : ¬ (w1.heap.size) = w7.heap.size := Nat.ne_of_lt hlt7
                have t7c := t7.cell0
                have t7d := t7.cell1
                rw [A2.out]
                go_wp2_with fail
                refine (landsAt_any _ _ _ _ _).mono ?_; rintro e w8 ⟨rfl, hb8⟩
                have hz8 := hb8.size
                try simp at hz8
                have t8 : Two w8 (w1.heap.size) (.int .i64 n) (.int .i64 s) 24 := Two.below (by repeat (first | assumption | exact Two.new' _ _ _ _ _ (by simp) | refine Two.alloc ?_ _ | refine Two.drewN ?_ _)) hb8 (by first | omega | (simp <;> omega))
                have hlt8 : (w1.heap.size) < w8.heap.size := t8.lt
                have hnt8 : ¬ (w1.heap.size) = w8.heap.size := Nat.ne_of_lt hlt8
                have t8c := t8.cell0
                have t8d := t8.cell1
                rw [A3.out]
                go_wp2
                go_ret
                exact ⟨rfl, (by repeat (first | exact Below.refl _ _ | assumption | (refine Below.trans ?_ (Below.mono (by assumption) (by first | omega | (simp <;> omega)))) | (refine Below.alloc ?_ (by first | omega | (simp <;> omega)) _) | (refine below_drewN ?_ _) | (refine Below.drew ?_) | (refine Below.setCell ?_ (by first | omega | (simp <;> omega)) _)))⟩
    · have ht' : tok n s = false := by simpa using ht
      rw [ht']
      go_wp2_with fail
      refine (alive_any _).mono ?_; rintro e w3 ⟨rfl, hb3⟩
      have hz3 := hb3.size
      try simp at hz3
      go_wp2
      go_ret
      exact ⟨rfl, (by repeat (first | exact Below.refl _ _ | assumption | (refine Below.trans ?_ (Below.mono (by assumption) (by first | omega | (simp <;> omega)))) | (refine Below.alloc ?_ (by first | omega | (simp <;> omega)) _) | (refine below_drewN ?_ _) | (refine Below.drew ?_) | (refine Below.setCell ?_ (by first | omega | (simp <;> omega)) _)))⟩

set_option maxRecDepth 100000 in
theorem lifted (os : Os) (started : os.Started) (H : Type) (enc : TypeId × Value → H) :
    ReturnsInHanded {} Try.checked os 10 .any (Rows.fnReturnsAddSpec.pre6 enc Try.prog Try.f10 Rows.fnReturnsAddRow.domain false) (Rows.fnReturnsAddSpec.post enc Try.prog Try.f10 false true false false) := by
  refine returnsInHanded_of_change (C := Try.checked) own started (by kernel_rfl) Try.func10
    (ChangeSpec.witness6 (enc := enc) (C := Try.checked) false ⟨#[], #[.slice none 0 0], []⟩ 8 (by kernel_rfl) (by kernel_rfl) (by kernel_rfl) (by kernel_rfl)) ?_
  intro W base args ds gs before hval0 hW hcnd _
  have hval : ∀ (j : Nat) t v, Try.f10.params[j]? = some t → args[j]? = some v → Value.okWide Try.prog W .any base t v := hval0
  have hW' := hW
  obtain ⟨p, q, hA0, hV, rfl, hfz, hnd⟩ := hW
  have hA : DataW.TrodAll enc Try.prog W 0 (fun _ => true) true Try.f10.params.toList args.toList ds p := hA0
  rw [Try.params10] at hA hval
  obtain ⟨v0, vs0, d0, ds0, p0, q0, hargs, rfl, rfl, h0, r0⟩ := trodAll_cons hA
  obtain ⟨rfl, rfl, rfl⟩ := trodAll_nil r0
  obtain rfl : args = #[v0] := by cases args; simp_all
  obtain ⟨rfl, rfl⟩ := trodVars_none hV
  obtain ⟨acode, lencode, capcode, rfl⟩ := okWide_slice Try.underlying22 (hval 0 22 v0 rfl rfl)
  have k0 := h0
  have lt0 : ∀ x ∈ p0, x.block < W.heap.size := by obtain ⟨m, hm⟩ := k0; exact DataW.trod_lt m _ _ _ hm
  obtain ⟨zcode, rowcode⟩ : ∃ zs, IsRow .u8 W acode lencode capcode zs := by
    obtain ⟨fuel, hf⟩ := h0
    rcases open_ints Try.underlying22 Try.underlying5 (by kernel_rfl) hf with ⟨hcs, _⟩ | ⟨x, l, c, zs, hcs, _, hl, hm, hz, _, hcell, hwz⟩
    · simp [Value.cells] at hcs
      obtain ⟨rfl, rfl, rfl⟩ := hcs
      exact ⟨[], .inl ⟨rfl, rfl, rfl, rfl⟩⟩
    · simp [Value.cells] at hcs
      obtain ⟨rfl, rfl, rfl⟩ := hcs
      exact ⟨zs, .inr ⟨_, rfl, hl, hm, by simpa using hz, hcell, hwz⟩⟩
  clear hA0 hval0
  refine (walk acode lencode capcode zcode W rowcode).mono fun e W' ⟨he, bel⟩ => ?_
  subst he
  exact ⟨_, rfl, _, _, _, [], _, [], hW', trodAll_mk1 (shut_bool Try.underlying4 _), (trodAll_cons_mk (Below.trod laidOut (by kernel_rfl) (of_decide_eq_true (by kernel_rfl)) k0 bel lt0) trodAll_mk0), rfl, bel.frame _, fun h => by cases h⟩

theorem facts : joinedFacts Try.pinned.checked.prog 10 Try.f10 Rows.fnReturnsAddSpec Rows.fnReturnsAddRow = true := by
  simp only [joinedFacts, Bool.and_eq_true]
  repeat' apply And.intro
  all_goals first | rw [mayEnter_eq] | (rw [liftsFinal_eq]; kernel_rfl) | (rw [make_eq]; kernel_rfl) | kernel_rfl

theorem over : Rows.fnReturnsAddRow.holds Try.pinned (OpenSpec.ofChange Rows.fnReturnsAddSpec) :=
  OpenClaim.holds_of_wide 10 Try.f10 rfl rfl rfl rfl rfl rfl rfl ⟨rfl, rfl, rfl, rfl, rfl⟩ rfl rfl rfl rfl rfl (by kernel_rfl) Try.func10 facts
    (of_decide_eq_true (by kernel_rfl)) (by unfold Func.isWrapper; first | (rw [if_pos (by decide +kernel)]; kernel_rfl) | (rw [if_neg (by decide +kernel)]; exact ⟨rfl, rfl⟩))
    (fun os started H enc _ => lifted os started H enc)

theorem proved : Rows.FnReturnsAddSaid := over
#print axioms proved
end Go.Proofs.Ytkhnnbgmckeoaaa.lawReturnsAdd
