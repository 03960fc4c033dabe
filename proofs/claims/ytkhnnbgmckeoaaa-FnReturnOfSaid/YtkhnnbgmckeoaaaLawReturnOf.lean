/- Proves that FnReturnOf returns true for every code, and leaves the code as it was. No conditions. -/
import Derived.Test.YtkhnnbgmckeoaaaHead
import Derived.Test.YtkhnnbgmckeoaaaRetJ
import Derived.Test.YtkhnnbgmckeoaaaRetG
import Derived.Test.YtkhnnbgmckeoaaaDrawR
import Derived.Test.YtkhnnbgmckeoaaaFun3
set_option linter.unusedVariables false
namespace Go.Proofs.Ytkhnnbgmckeoaaa.lawReturnOf

set_option maxRecDepth 4000
open Go.ChangeShapes Go.WideShapes Go.ChangeAt Go.RowKit Go.Joins N

set_option maxHeartbeats 4000000 in
theorem walk (a : Option Addr) (len cap : Nat) (z : List Int) (w : World) (row : IsRow .u8 w a len cap z) :
    Calls Try.prog 3 #[.slice a len cap] w fun e w' => e = .returned (.bool true) ∧ Below w.heap.size w w' := by
  
  have hc := CodeIn.of row
  clear row
  by_cases hl : 1048576 < len
  · have hl' : (1048576 : Int) < len := by omega
    go_enter Try.func3, Try.ntmps3
    go_wp2
    go_ret
    exact ⟨rfl, (by repeat (first | exact Below.refl _ _ | assumption | (refine Below.trans ?_ (Below.mono (by assumption) (by first | omega | (simp <;> omega)))) | (refine Below.alloc ?_ (by first | omega | (simp <;> omega)) _) | (refine below_drewN ?_ _) | (refine Below.drew ?_) | (refine Below.setCell ?_ (by first | omega | (simp <;> omega)) _)))⟩
  · have hl' : ¬ (1048576 : Int) < len := by omega
    go_enter Try.func3, Try.ntmps3
    go_wp2_with fail
    refine (drawReturnOf_any a len cap _ hc (by omega)).mono ?_; rintro e w1 ⟨n, s, u, p, rfl, k0, k1, m0, m1, hb1⟩
    have hz1 := hb1.size
    try simp at hz1
    go_wp2_with fail
    refine (returnOf_any _ _ _ _ _).mono ?_; rintro e w2 ⟨rfl, hb2⟩
    have hz2 := hb2.size
    try simp at hz2
    have t2 : Two w2 (w1.heap.size) (.int .i64 n) (.int .i64 s) 24 := Two.below (by repeat (first | assumption | exact Two.new' _ _ _ _ _ (by simp) | refine Two.alloc ?_ _ | refine Two.drewN ?_ _)) hb2 (by first | omega | (simp <;> omega))
    have hlt2 : (w1.heap.size) < w2.heap.size := t2.lt
    have hnt2 : ¬ (w1.heap.size) = w2.heap.size := Nat.ne_of_lt hlt2
    have t2c := t2.cell0
    have t2d := t2.cell1
    go_wp2_with fail
    refine (specReturnOf_any _ _ _ _ _).mono ?_; rintro e w3 ⟨rfl, hb3⟩
    have hz3 := hb3.size
    try simp at hz3
    have t3 : Two w3 (w1.heap.size) (.int .i64 n) (.int .i64 s) 24 := Two.below (by repeat (first | assumption | exact Two.new' _ _ _ _ _ (by simp) | refine Two.alloc ?_ _ | refine Two.drewN ?_ _)) hb3 (by first | omega | (simp <;> omega))
    have hlt3 : (w1.heap.size) < w3.heap.size := t3.lt
    have hnt3 : ¬ (w1.heap.size) = w3.heap.size := Nat.ne_of_lt hlt3
    have t3c := t3.cell0
    have t3d := t3.cell1
    rcases land_cases n s u p with ⟨h1, h2, _, _⟩ | ⟨h1, h2, _, ht, u1, u2, p0, p1⟩
    · rw [h2]
      go_wp2_with fail
      refine (alive_any _).mono ?_; rintro e w4 ⟨rfl, hb4⟩
      have hz4 := hb4.size
      try simp at hz4
      go_wp2
      go_ret
      exact ⟨rfl, (by repeat (first | exact Below.refl _ _ | assumption | (refine Below.trans ?_ (Below.mono (by assumption) (by first | omega | (simp <;> omega)))) | (refine Below.alloc ?_ (by first | omega | (simp <;> omega)) _) | (refine below_drewN ?_ _) | (refine Below.drew ?_) | (refine Below.setCell ?_ (by first | omega | (simp <;> omega)) _)))⟩
    · have hb := tok_bd ht
      obtain ⟨u, rfl⟩ := Int.eq_ofNat_of_zero_le (by omega : 0 ≤ u)
      have hS : retSum n s u u = n := ret_sum (tok_inv ht) (by omega : 1 ≤ u) u2
      have HSB := Lib.hid (fun k hk => retSum_bd ht (by omega : 1 ≤ u) u2 k hk)
      have hw : (u : Int) < n ∨ retF n s u p = 1 := by
        by_cases c : (u : Int) < n
        · exact .inl c
        · obtain ⟨p, rfl⟩ := Int.eq_ofNat_of_zero_le p0
          exact .inr (by rw [retF_yes ht u1 u2 p0 p1]; exact ret_whole (tok_inv ht) (by omega) (by omega) (by omega))
      have ho : 1 < (u : Int) ∨ retF n s u p = n := by
        by_cases c : 1 < (u : Int)
        · exact .inl c
        · obtain rfl : u = 1 := by omega
          obtain rfl : p = 0 := by omega
          exact .inr (by rw [retF_yes ht u1 u2 p0 p1]; exact ret_one (tok_inv ht))
      have HRet := Lib.hid (fun (k : Nat) (hk : k < u) => (show retF n s (u : Int) k = retB n (invF n s) u k from retF_yes ht u1 u2 (by omega) (by omega)))
      have HRB := Lib.hid (fun (k : Nat) (hk : k < u) => ret_bd (tok_inv ht) (by omega : 1 ≤ u) u2 hk)
      have HSS := Lib.hid (fun (k : Nat) => retSum_succ n s u k)
      have HS := Lib.hid hS
      have HW := Lib.hid hw
      have HO := Lib.hid ho
      have hB3 : Below w.heap.size w w3 := (by repeat (first | exact Below.refl _ _ | assumption | (refine Below.trans ?_ (Below.mono (by assumption) (by first | omega | (simp <;> omega)))) | (refine Below.alloc ?_ (by first | omega | (simp <;> omega)) _) | (refine below_drewN ?_ _) | (refine Below.drew ?_) | (refine Below.setCell ?_ (by first | omega | (simp <;> omega)) _)))
      generalize hr : retF n s u p = r at *
      have hr0 : ¬ r < 0 := by omega
      clear ht hS hw ho hr hb1 hb2 hb3 t2 t2c t2d
      go_wp2_with fail
      go_loopw [7, 8] (fun y x wr => ∃ (k : Nat), x = .int .i64 k ∧ y = .int .i64 (retSum n s u k) ∧ k ≤ u ∧ Below w3.heap.size w3 wr) (fun _ x _ => u - (intOf x).toNat)
      case atStart => exact ⟨0, rfl, rfl, by omega, Below.refl _ _⟩
      case round =>
        obtain ⟨k, rfl, rfl, hk, hB⟩ := hrel
        have hsb := HSB.out k hk
        have hss := HSS.out k
        by_cases hkm : k < u
        · have hkm' : (k : Int) < u := by omega
          have hkn : (k : Int) < n := by omega
          have t4 := t3.below hB t3.lt
          have t4c := t4.cell0
          have t4d := t4.cell1
          have hv := HRet.out k hkm
          have hvb := HRB.out k hkm
          generalize retB n (invF n s) u k = X at *
          generalize retSum n s u k = Y at *
          have HV := Lib.hid hv
          have HSS2 := Lib.hid hss
          clear hv hss
          go_wp2_with fail
          refine (returnOf_any _ _ _ _ _).mono ?_; rintro e w5 ⟨rfl, hb5⟩
          rw [HV.out]
          have hB5 := hB.trans (hb5.mono hB.size)
          clear hb5 hB t4 t4c t4d
          go_wp2_with fail
          go_roundw
          case rel => exact ⟨k + 1, by go_num, by rw [HSS2.out], by omega, hB5⟩
          case measure => simp only [intOf]; omega
        · obtain rfl : k = u := by omega
          have hkm' : decide ((k : Int) < k) = false := by simp
          have t4 := t3.below hB t3.lt
          have t4c := t4.cell0
          have t4d := t4.cell1
          rw [HS.out] at *
          have hB9 := hB3.trans (hB.mono hB3.size)
          rcases HW.out with c1 | c1
          · rcases HO.out with c2 | c2
            · clear HW HO HS HSB HSS
              go_wp2
              go_ret
              exact ⟨rfl, hB9⟩
            · subst c2
              have c3 : decide (1 < (k : Int)) = decide (1 < (k : Int)) := rfl
              by_cases c4 : 1 < (k : Int)
              · clear HW HO HS HSB HSS
                go_wp2
                go_ret
                exact ⟨rfl, hB9⟩
              · have c5 : decide (1 < (k : Int)) = false := by simpa using c4
                clear HW HO HS HSB HSS
                go_wp2
                go_ret
                exact ⟨rfl, hB9⟩
          · subst c1
            have c6 : 1 < (k : Int) := by
              rcases HO.out with c2 | c2
              · exact c2
              · omega
            by_cases c7 : (k : Int) < n
            · clear HW HO HS HSB HSS
              go_wp2
              go_ret
              exact ⟨rfl, hB9⟩
            · have c8 : decide ((k : Int) < n) = false := by simpa using c7
              clear HW HO HS HSB HSS
              go_wp2
              go_ret
              exact ⟨rfl, hB9⟩

set_option maxRecDepth 100000 in
theorem lifted (os : Os) (started : os.Started) (H : Type) (enc : TypeId × Value → H) :
    ReturnsInHanded {} Try.checked os 3 .any (Rows.fnReturnOfSpec.pre6 enc Try.prog Try.f3 Rows.fnReturnOfRow.domain false) (Rows.fnReturnOfSpec.post enc Try.prog Try.f3 false true false false) := by
  refine returnsInHanded_of_change (C := Try.checked) own started (by kernel_rfl) Try.func3
    (ChangeSpec.witness6 (enc := enc) (C := Try.checked) false ⟨#[], #[.slice none 0 0], []⟩ 8 (by kernel_rfl) (by kernel_rfl) (by kernel_rfl) (by kernel_rfl)) ?_
  intro W base args ds gs before hval0 hW hcnd _
  have hval : ∀ (j : Nat) t v, Try.f3.params[j]? = some t → args[j]? = some v → Value.okWide Try.prog W .any base t v := hval0
  have hW' := hW
  obtain ⟨p, q, hA0, hV, rfl, hfz, hnd⟩ := hW
  have hA : DataW.TrodAll enc Try.prog W 0 (fun _ => true) true Try.f3.params.toList args.toList ds p := hA0
  rw [Try.params3] at hA hval
  obtain ⟨v0, vs0, d0, ds0, p0, q0, hargs, rfl, rfl, h0, r0⟩ := trodAll_cons hA
  obtain ⟨rfl, rfl, rfl⟩ := trodAll_nil r0
  obtain rfl : args = #[v0] := by cases args; simp_all
  obtain ⟨rfl, rfl⟩ := trodVars_none hV
  obtain ⟨acode, lencode, capcode, rfl⟩ := okWide_slice Try.underlying22 (hval 0 22 v0 rfl rfl)
  have k0 := h0
  have lt0 : ∀ x ∈ p0, x.block < W.heap.size := by obtain ⟨m, hm⟩ := k0; exact DataW.trod_lt m _ _ _ hm
  obtain ⟨zcode, rowcode⟩ : ∃ zs, IsRow .u8 W acode lencode capcode zs := by
    obtain ⟨fuel, hf⟩ := h0
    rcases open_ints Try.underlying22 Try.underlying5 (by kernel_rfl) hf with ⟨hcs, _⟩ | ⟨x, l, c, zs, hcs, _, hl, hm, hz, _, hcell, hwz⟩
    · simp [Value.cells] at hcs
      obtain ⟨rfl, rfl, rfl⟩ := hcs
      exact ⟨[], .inl ⟨rfl, rfl, rfl, rfl⟩⟩
    · simp [Value.cells] at hcs
      obtain ⟨rfl, rfl, rfl⟩ := hcs
      exact ⟨zs, .inr ⟨_, rfl, hl, hm, by simpa using hz, hcell, hwz⟩⟩
  clear hA0 hval0
  refine (walk acode lencode capcode zcode W rowcode).mono fun e W' ⟨he, bel⟩ => ?_
  subst he
  exact ⟨_, rfl, _, _, _, [], _, [], hW', trodAll_mk1 (shut_bool Try.underlying4 _), (trodAll_cons_mk (Below.trod laidOut (by kernel_rfl) (of_decide_eq_true (by kernel_rfl)) k0 bel lt0) trodAll_mk0), rfl, bel.frame _, fun h => by cases h⟩

theorem facts : joinedFacts Try.pinned.checked.prog 3 Try.f3 Rows.fnReturnOfSpec Rows.fnReturnOfRow = true := by
  simp only [joinedFacts, Bool.and_eq_true]
  repeat' apply And.intro
  all_goals first | rw [mayEnter_eq] | (rw [liftsFinal_eq]; kernel_rfl) | (rw [make_eq]; kernel_rfl) | kernel_rfl

theorem over : Rows.fnReturnOfRow.holds Try.pinned (OpenSpec.ofChange Rows.fnReturnOfSpec) :=
  OpenClaim.holds_of_wide 3 Try.f3 rfl rfl rfl rfl rfl rfl rfl ⟨rfl, rfl, rfl, rfl, rfl⟩ rfl rfl rfl rfl rfl (by kernel_rfl) Try.func3 facts
    (of_decide_eq_true (by kernel_rfl)) (by unfold Func.isWrapper; first | (rw [if_pos (by decide +kernel)]; kernel_rfl) | (rw [if_neg (by decide +kernel)]; exact ⟨rfl, rfl⟩))
    (fun os started H enc _ => lifted os started H enc)

theorem proved : Rows.FnReturnOfSaid := over
#print axioms proved
end Go.Proofs.Ytkhnnbgmckeoaaa.lawReturnOf
