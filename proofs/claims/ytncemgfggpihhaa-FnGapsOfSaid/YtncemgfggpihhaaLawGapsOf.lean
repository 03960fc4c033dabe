/- Proves that FnGapsOf returns true for every code, and leaves the code as it was. No conditions. -/
import Derived.Test.YtncemgfggpihhaaGapsF
import Derived.Test.YtncemgfggpihhaaDraw5
import Derived.Test.YtncemgfggpihhaaFun3
set_option linter.unusedVariables false
namespace Go.Proofs.Ytncemgfggpihhaa.lawGapsOf
open Go.ChangeShapes Go.WideShapes Go.ChangeAt Go.RowKit Go.Joins N

set_option maxHeartbeats 2000000 in
theorem walk (a : Option Addr) (len cap : Nat) (z : List Int) (w : World) (row : IsRow .u8 w a len cap z) :
    Calls Try.prog 3 #[.slice a len cap] w fun e w' => e = .returned (.bool true) ∧ Below w.heap.size w w' := by
  
  have hc := CodeIn.of row
  clear row
  by_cases hl : 1048576 < len
  · have hl' : (1048576 : Int) < len := by omega
    go_enter Try.func3, Try.ntmps3
    go_wp2
    go_ret
    exact ⟨rfl, (by repeat (first | exact Below.refl _ _ | assumption | (refine Below.trans ?_ (Below.mono (by assumption) (by first | omega | (simp <;> omega)))) | (refine Below.alloc ?_ (by first | omega | (simp <;> omega)) _) | (refine below_drewN ?_ _) | (refine Below.drew ?_) | (refine Below.setCell ?_ (by first | omega | (simp <;> omega)) _)))⟩
  · have hl' : ¬ (1048576 : Int) < len := by omega
    go_enter Try.func3, Try.ntmps3
    go_wp2_with fail
    refine (drawGapsOf_any a len cap _ hc (by omega)).mono ?_; rintro e w1 ⟨n, s, m, rfl, n0, n1, s0, s1, k0, k1, hb1⟩
    have hz1 := hb1.size
    try simp at hz1
    go_wp2_with fail
    refine (gapsOf_any _ _ _ _).mono ?_; rintro e w2 ⟨v1, rfl, hp2, hb2⟩
    have hz2 := hb2.size
    try simp at hz2
    have t2 : Two w2 (w1.heap.size) (.int .i64 n) (.int .i64 s) 24 := Two.below (by repeat (first | assumption | exact Two.new' _ _ _ _ _ (by simp) | refine Two.alloc ?_ _ | refine Two.drewN ?_ _)) hb2 (by first | omega | (simp <;> omega))
    have hlt2 : (w1.heap.size) < w2.heap.size := t2.lt
    have hnt2 : ¬ (w1.heap.size) = w2.heap.size := Nat.ne_of_lt hlt2
    have t2c := t2.cell0
    have t2d := t2.cell1
    go_wp2_with fail
    refine (specGapsOf_any _ _ _ _).mono ?_; rintro e w3 ⟨v2, rfl, hq3, hb3⟩
    have hz3 := hb3.size
    try simp at hz3
    have t3 : Two w3 (w1.heap.size) (.int .i64 n) (.int .i64 s) 24 := Two.below (by repeat (first | assumption | exact Two.new' _ _ _ _ _ (by simp) | refine Two.alloc ?_ _ | refine Two.drewN ?_ _)) hb3 (by first | omega | (simp <;> omega))
    have hlt3 : (w1.heap.size) < w3.heap.size := t3.lt
    have hnt3 : ¬ (w1.heap.size) = w3.heap.size := Nat.ne_of_lt hlt3
    have t3c := t3.cell0
    have t3d := t3.cell1
    have hp3 := hp2.below hb3
    have hB3 : Below w.heap.size w w3 := (by repeat (first | exact Below.refl _ _ | assumption | (refine Below.trans ?_ (Below.mono (by assumption) (by first | omega | (simp <;> omega)))) | (refine Below.alloc ?_ (by first | omega | (simp <;> omega)) _) | (refine below_drewN ?_ _) | (refine Below.drew ?_) | (refine Below.setCell ?_ (by first | omega | (simp <;> omega)) _)))
    have hlen := gapsF_len n s m
    clear hp2 hb1 hb2 hb3
    go_wp2_with fail
    refine (sameInts_any v1 v2 _ _ _ hp3.reads hq3.reads (by omega) (by omega)).mono ?_; rintro e w4 ⟨rfl, nq, rfl⟩
    rw [decide_eq_true rfl]
    clear hq3
    by_cases h : tok n s = true ∧ 1 ≤ m ∧ m ≤ n
    · obtain ⟨ht, h1, hm⟩ := h
      have hb := tok_bd ht
      have htn := turns_of ht
      have htb : tok n (n - s) = true := tok_back.trans ht
      obtain ⟨m, rfl⟩ := Int.eq_ofNat_of_zero_le (by omega : 0 ≤ m)
      have E2 := Lib.hid (backT_yes ht)
      have E3 := Lib.hid (gapsF_yes htb (by omega) hm)
      rw [gapsF_yes ht (by omega) hm] at hp3
      have hp4 : OwnL (w3.drewN nq) _ v1 (gapsT n s m) := hp3
      have hl0 := gapsT_length n s m
      have hl1 := gapsT_length n (n - s) m
      have HT := Lib.hid ht
      have HN := Lib.hid htn
      clear ht htn htb hp3 hlen
      obtain ⟨ga, cap1, rfl, HC0⟩ := hp4.reads.cells hl0
      obtain ⟨g, off, rfl, HC⟩ := HC0 (by omega)
      have hm0 : ((m : Int) == 0) = false := by simp; omega
      clear HC0 hl0
      go_wp2_with fail
      have t4 : Two (w3.drewN nq) w1.heap.size (.int .i64 n) (.int .i64 s) 24 := t3
      refine (backTurn_any _ _ _).mono ?_; rintro e w5 ⟨rfl, hb5⟩
      rw [E2.out]
      have t5 := t4.below hb5 t4.lt
      have hp5 := hp4.below hb5
      have hB5 := (below_drewN hB3 nq).trans (hb5.mono (below_drewN hB3 nq).size)
      have t5c := t5.cell0
      have t5d := t5.cell1
      clear hp4 hb5 t4 HC
      go_wp2_with fail
      refine (gapsOf_any _ _ _ _).mono ?_; rintro e w6 ⟨v6, rfl, hp6, hb6⟩
      rw [E3.out] at hp6
      have t6 := t5.below hb6 t5.lt
      have hq6 := hp5.below hb6
      have hB6 := hB5.trans (hb6.mono hB5.size)
      have t6c := t6.cell0
      have t6d := t6.cell1
      clear hp5 hb6 t5 t5c t5d
      obtain ⟨ga, cap2, e1, HC0⟩ := hq6.reads.cells (gapsT_length n s m)
      obtain ⟨g', off', rfl, HC⟩ := HC0 (by omega)
      obtain ⟨rfl, rfl⟩ : g = g' ∧ off = off' := by injection e1 with e1; injection e1 with e1; injection e1 with e1 e2; exact ⟨e1, e2⟩
      obtain ⟨gb, cap3, rfl, HD0⟩ := hp6.reads.cells hl1
      obtain ⟨g2, off2, rfl, HD⟩ := HD0 (by omega)
      clear HC0 HD0 e1 hq6 hp6 hl1
      go_wp2_with fail
      go_loopw [7, 8] (fun y x wr => ∃ (k q : Nat) (S : Int), x = .int .i64 k ∧ y = .int .i64 S ∧ k ≤ m ∧ Hid (sumT (gapsT n s m) k = S) ∧ 0 ≤ S ∧ S ≤ 60 * k ∧ wr = w6.drewN q) (fun _ x _ => m - (intOf x).toNat)
      case atStart => exact ⟨0, 0, 0, rfl, rfl, by omega, by show _ = _; rfl, by omega, by omega, rfl⟩
      case round =>
        obtain ⟨k, q, S, rfl, rfl, hk, HS, S0, S1, rfl⟩ := hrel
        by_cases hkm : k < m
        · have hkm' : (k : Int) < m := by omega
          have c1 := HC.out k hkm
          have c2 := HD.out (m - 1 - k) (by omega)
          rw [gaps_back HT.out hm hkm] at c2
          have hpos := gaps_pos HN.out hm hkm 0
          have hone : (m : Int) = n → (gapsT n s m).getD k 0 = 1 := fun e => gaps_all HN.out (by omega) e hkm
          have hS2 := sumT_succ (gapsT n s m) (k := k) (by rw [gapsT_length]; exact hkm)
          rw [HS.out] at hS2
          generalize (gapsT n s m).getD k 0 = X at *
          have HS2 := Lib.hid hS2
          have i0 : (0 : Int) ≤ (m : Int) - 1 - k := by omega
          have i1 : (m : Int) - 1 - k < m := by omega
          have i2 : ((m : Int) - 1 - k).toNat = m - 1 - k := by omega
          have x1 : decide (X < 1) = false := by simp; omega
          have i3 : (k : Int) ≤ (m : Int) - 1 := by omega
          have wr1 : IntKind.i64.wrap ((m : Int) - 1) = (m : Int) - 1 := IntWalk.i64_in _ (by omega)
          have wr2 : IntKind.i64.wrap ((m : Int) - 1 - k) = (m : Int) - 1 - k := IntWalk.i64_in _ (by omega)
          clear hS2
          by_cases hmn : (m : Int) = n
          · have x2 := hone hmn
            have x3 : (X != 1) = false := by rw [x2]; rfl
            have hmn' : ((m : Int) == n) = true := by simpa using hmn
            have XE := Lib.hid x2
            have MN := Lib.hid hmn
            clear hone x2 hmn
            go_wp2_with fail
            go_quiet (fail)
            go_wp2_with fail
            go_roundw
            case rel => exact ⟨k + 1, q + nq, S + X, by go_num, by trivial, by omega, HS2.out, by omega, by omega, by simp⟩
            case measure => simp only [intOf]; omega
          · have hmn' : ((m : Int) == n) = false := by simpa using hmn
            clear hone
            go_wp2_with fail
            go_quiet (fail)
            go_wp2_with fail
            go_roundw
            case rel => exact ⟨k + 1, q + nq, S + X, by go_num, by trivial, by omega, HS2.out, by omega, by omega, by simp⟩
            case measure => simp only [intOf]; omega
        · obtain rfl : k = m := by omega
          have hkm' : decide ((k : Int) < k) = false := by simp
          have hS : S = n := by rw [← HS.out]; exact gaps_total HN.out (by omega) hm
          subst hS
          clear HC HD
          go_wp2_with fail
          go_ret
          exact ⟨rfl, below_drewN hB6 q⟩
    · rw [gapsF_no h] at *
      have hp4 : OwnL (w3.drewN nq) _ v1 [] := hp3
      obtain ⟨ga, cap1, rfl⟩ := nil_cells hp4.reads
      clear hp3 hp4
      go_wp2_with fail
      refine (alive_any _).mono ?_; rintro e w5 ⟨rfl, hb5⟩
      have hB4 := below_drewN hB3 nq
      go_wp2
      go_ret
      exact ⟨rfl, (by repeat (first | exact Below.refl _ _ | assumption | (refine Below.trans ?_ (Below.mono (by assumption) (by first | omega | (simp <;> omega)))) | (refine Below.alloc ?_ (by first | omega | (simp <;> omega)) _) | (refine below_drewN ?_ _) | (refine Below.drew ?_) | (refine Below.setCell ?_ (by first | omega | (simp <;> omega)) _)))⟩

set_option maxRecDepth 100000 in
theorem lifted (os : Os) (started : os.Started) (H : Type) (enc : TypeId × Value → H) :
    ReturnsInHanded {} Try.checked os 3 .any (Rows.fnGapsOfSpec.pre6 enc Try.prog Try.f3 Rows.fnGapsOfRow.domain false) (Rows.fnGapsOfSpec.post enc Try.prog Try.f3 false true false false) := by
  refine returnsInHanded_of_change (C := Try.checked) own started (by kernel_rfl) Try.func3
    (ChangeSpec.witness6 (enc := enc) (C := Try.checked) false ⟨#[], #[.slice none 0 0], []⟩ 8 (by kernel_rfl) (by kernel_rfl) (by kernel_rfl) (by kernel_rfl)) ?_
  intro W base args ds gs before hval0 hW hcnd _
  have hval : ∀ (j : Nat) t v, Try.f3.params[j]? = some t → args[j]? = some v → Value.okWide Try.prog W .any base t v := hval0
  have hW' := hW
  obtain ⟨p, q, hA0, hV, rfl, hfz, hnd⟩ := hW
  have hA : DataW.TrodAll enc Try.prog W 0 (fun _ => true) true Try.f3.params.toList args.toList ds p := hA0
  rw [Try.params3] at hA hval
  obtain ⟨v0, vs0, d0, ds0, p0, q0, hargs, rfl, rfl, h0, r0⟩ := trodAll_cons hA
  obtain ⟨rfl, rfl, rfl⟩ := trodAll_nil r0
  obtain rfl : args = #[v0] := by cases args; simp_all
  obtain ⟨rfl, rfl⟩ := trodVars_none hV
  obtain ⟨acode, lencode, capcode, rfl⟩ := okWide_slice Try.underlying22 (hval 0 22 v0 rfl rfl)
  have k0 := h0
  have lt0 : ∀ x ∈ p0, x.block < W.heap.size := by obtain ⟨m, hm⟩ := k0; exact DataW.trod_lt m _ _ _ hm
  obtain ⟨zcode, rowcode⟩ : ∃ zs, IsRow .u8 W acode lencode capcode zs := by
    obtain ⟨fuel, hf⟩ := h0
    rcases open_ints Try.underlying22 Try.underlying5 (by kernel_rfl) hf with ⟨hcs, _⟩ | ⟨x, l, c, zs, hcs, _, hl, hm, hz, _, hcell, hwz⟩
    · simp [Value.cells] at hcs
      obtain ⟨rfl, rfl, rfl⟩ := hcs
      exact ⟨[], .inl ⟨rfl, rfl, rfl, rfl⟩⟩
    · simp [Value.cells] at hcs
      obtain ⟨rfl, rfl, rfl⟩ := hcs
      exact ⟨zs, .inr ⟨_, rfl, hl, hm, by simpa using hz, hcell, hwz⟩⟩
  clear hA0 hval0
  refine (walk acode lencode capcode zcode W rowcode).mono fun e W' ⟨he, bel⟩ => ?_
  subst he
  exact ⟨_, rfl, _, _, _, [], _, [], hW', trodAll_mk1 (shut_bool Try.underlying4 _), (trodAll_cons_mk (Below.trod laidOut (by kernel_rfl) (of_decide_eq_true (by kernel_rfl)) k0 bel lt0) trodAll_mk0), rfl, bel.frame _, fun h => by cases h⟩

theorem facts : joinedFacts Try.pinned.checked.prog 3 Try.f3 Rows.fnGapsOfSpec Rows.fnGapsOfRow = true := by
  simp only [joinedFacts, Bool.and_eq_true]
  repeat' apply And.intro
  all_goals first | rw [mayEnter_eq] | (rw [liftsFinal_eq]; kernel_rfl) | (rw [make_eq]; kernel_rfl) | kernel_rfl

theorem over : Rows.fnGapsOfRow.holds Try.pinned (OpenSpec.ofChange Rows.fnGapsOfSpec) :=
  OpenClaim.holds_of_wide 3 Try.f3 rfl rfl rfl rfl rfl rfl rfl ⟨rfl, rfl, rfl, rfl, rfl⟩ rfl rfl rfl rfl rfl (by kernel_rfl) Try.func3 facts
    (of_decide_eq_true (by kernel_rfl)) (by unfold Func.isWrapper; first | (rw [if_pos (by decide +kernel)]; kernel_rfl) | (rw [if_neg (by decide +kernel)]; exact ⟨rfl, rfl⟩))
    (fun os started H enc _ => lifted os started H enc)

theorem proved : Rows.FnGapsOfSaid := over
#print axioms proved
end Go.Proofs.Ytncemgfggpihhaa.lawGapsOf
