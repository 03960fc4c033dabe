/- Proves that FnGapParted returns true for every code, and leaves the code as it was. No conditions. -/
import Derived.Test.YtppahekbgbbidaaHead
import Derived.Test.YtppahekbgbbidaaGOrd
import Derived.Test.YtppahekbgbbidaaGKinds
import Derived.Test.YtppahekbgbbidaaDraw5
import Derived.Test.YtppahekbgbbidaaGFun2
import Derived.Test.YtppahekbgbbidaaGFun
set_option linter.unusedVariables false
namespace Go.Proofs.Ytppahekbgbbidaa.lawGapParted
open Go.ChangeShapes Go.WideShapes Go.ChangeAt Go.RowKit Go.Joins N

set_option maxHeartbeats 4000000 in

set_option maxRecDepth 4000 in
theorem walk (a : Option Addr) (len cap : Nat) (z : List Int) (w : World) (row : IsRow .u8 w a len cap z) :
    Calls Try.prog 12 #[.slice a len cap] w fun e w' => e = .returned (.bool true) ∧ Below w.heap.size w w' := by
  
  have hc := CodeIn.of row
  clear row
  by_cases hl : 1048576 < len
  · have hl' : (1048576 : Int) < len := by omega
    go_enter Try.func12, Try.ntmps12
    go_wp2
    go_ret
    exact ⟨rfl, (by repeat (first | exact Below.refl _ _ | assumption | (refine Below.trans ?_ (Below.mono (by assumption) (by first | omega | (simp <;> omega)))) | (refine Below.alloc ?_ (by first | omega | (simp <;> omega)) _) | (refine below_drewN ?_ _) | (refine Below.drew ?_) | (refine Below.setCell ?_ (by first | omega | (simp <;> omega)) _)))⟩
  · have hl' : ¬ (1048576 : Int) < len := by omega
    go_enter Try.func12, Try.ntmps12
    go_wp2_with fail
    refine (drawGapsOf_any a len cap _ hc (by omega)).mono ?_; rintro e w1 ⟨n, s, m, rfl, n0, n1, s0, s1, k0, k1, hb1⟩
    have hz1 := hb1.size
    try simp at hz1
    go_wp2_with fail
    refine (gapsOf_any _ _ _ _).mono ?_; rintro e w2 ⟨v1, rfl, hp2, hb2⟩
    have hz2 := hb2.size
    try simp at hz2
    have t2 : Two w2 (w1.heap.size) (.int .i64 n) (.int .i64 s) 24 := Two.below (by repeat (first | assumption | exact Two.new' _ _ _ _ _ (by simp) | refine Two.alloc ?_ _ | refine Two.drewN ?_ _)) hb2 (by first | omega | (simp <;> omega))
    have hlt2 : (w1.heap.size) < w2.heap.size := t2.lt
    have hnt2 : ¬ (w1.heap.size) = w2.heap.size := Nat.ne_of_lt hlt2
    have t2c := t2.cell0
    have t2d := t2.cell1
    go_wp2_with fail
    refine (gapsOf_any _ _ _ _).mono ?_; rintro e w3 ⟨v2, rfl, hq3, hb3⟩
    have hz3 := hb3.size
    try simp at hz3
    have t3 : Two w3 (w1.heap.size) (.int .i64 n) (.int .i64 s) 24 := Two.below (by repeat (first | assumption | exact Two.new' _ _ _ _ _ (by simp) | refine Two.alloc ?_ _ | refine Two.drewN ?_ _)) hb3 (by first | omega | (simp <;> omega))
    have hlt3 : (w1.heap.size) < w3.heap.size := t3.lt
    have hnt3 : ¬ (w1.heap.size) = w3.heap.size := Nat.ne_of_lt hlt3
    have t3c := t3.cell0
    have t3d := t3.cell1
    have hp3 := hp2.below hb3
    have hB3 : Below w.heap.size w w3 := (by repeat (first | exact Below.refl _ _ | assumption | (refine Below.trans ?_ (Below.mono (by assumption) (by first | omega | (simp <;> omega)))) | (refine Below.alloc ?_ (by first | omega | (simp <;> omega)) _) | (refine below_drewN ?_ _) | (refine Below.drew ?_) | (refine Below.setCell ?_ (by first | omega | (simp <;> omega)) _)))
    clear hp2 hb1 hb2 hb3
    by_cases h : tok n s = true ∧ 1 ≤ m ∧ m + 1 ≤ n
    · obtain ⟨ht, h1, hm⟩ := h
      have hb := tok_bd ht
      obtain ⟨m, rfl⟩ := Int.eq_ofNat_of_zero_le (by omega : 0 ≤ m)
      have em : ((m : Int) + 1) = ((m + 1 : Nat) : Int) := by omega
      rw [gapsF_yes ht (by omega) (by omega)] at hp3
      rw [em, gapsF_yes ht (by omega) (by omega)] at hq3
      have hk0 : kindsF n s m = kindsL (gapsT n s m) := by unfold kindsF; rw [gapsF_yes ht (by omega) (by omega)]
      have hk60 := kindsF_len n s m
      have hk1 : kindsF n s m ≠ [] := by
        intro e
        have hx := getD_mem' (xs := gapsT n s m) 0 (i := 0) (by rw [gapsT_length]; omega)
        rw [← (kindsL_is (gapsT n s m)).2, ← hk0, e] at hx
        simp at hx
      obtain ⟨K, hK⟩ : ∃ K, (kindsF n s m).length = K := ⟨_, rfl⟩
      have hK0 : K ≠ 0 := by rintro rfl; exact hk1 (nil_of_len hK)
      rw [hK] at hk60
      have HPart : Hid (∀ k, k < m → _) := fun k hk => parted ht (by omega : 1 ≤ m) (by omega) hk
      have HJ : Hid (1 ≤ lessT n s (pt n s m) m ∧ lessT n s (pt n s m) m ≤ m) := ⟨(parts_greatest ht (by omega : 1 ≤ m) (by omega)).1, lessT_le _ _ _ _⟩
      rw [← hk0] at HPart
      have Hpt : ∀ k : Nat, k ≤ m → Hid (pointF n s k = pt n s k) := fun k hk => pointF_yes ht (by omega) (by omega)
      have HPT := Lib.hid Hpt
      have HBd : Hid (∀ k, k < m → 1 ≤ (gapsT n s m).getD k 0 ∧ (gapsT n s m).getD k 0 ≤ 60) := fun k hk => by
        have := gaps_pos (turns_of ht) (by omega : (m : Int) ≤ n) hk 0; omega
      have HBd' : Hid (∀ k, k < m + 1 → 1 ≤ (gapsT n s (m + 1)).getD k 0 ∧ (gapsT n s (m + 1)).getD k 0 ≤ 60) := fun k hk => by
        have := gaps_pos (turns_of ht) (by omega : ((m + 1 : Nat) : Int) ≤ n) hk 0; omega
      have HT := Lib.hid ht
      have HK := Lib.hid hK
      have HK0 := Lib.hid hk0
      clear ht hk1 Hpt em hk0 hK
      obtain ⟨ga, cap1, rfl, HC0⟩ := hp3.reads.cells (gapsT_length n s m)
      obtain ⟨g, off, rfl, HC⟩ := HC0 (by omega)
      obtain ⟨gb, cap2, rfl, HD0⟩ := hq3.reads.cells (gapsT_length n s (m + 1))
      obtain ⟨g2, off2, rfl, HD⟩ := HD0 (by omega)
      have hm0 : ((m : Int) == 0) = false := by simp; omega
      have hm1 : ((m : Int) + 1 == 0) = false := by simp; omega
      clear HC0 HD0 hp3 hq3
      go_wp2_with fail
      refine (kindsOf_any _ _ _ _).mono ?_; rintro e w4 ⟨v4, rfl, hp4, hb4⟩
      have hz4 := hb4.size
      try simp at hz4
      have t4 : Two w4 (w1.heap.size) (.int .i64 n) (.int .i64 s) 24 := Two.below (by repeat (first | assumption | exact Two.new' _ _ _ _ _ (by simp) | refine Two.alloc ?_ _ | refine Two.drewN ?_ _)) hb4 (by first | omega | (simp <;> omega))
      have hlt4 : (w1.heap.size) < w4.heap.size := t4.lt
      have hnt4 : ¬ (w1.heap.size) = w4.heap.size := Nat.ne_of_lt hlt4
      have t4c := t4.cell0
      have t4d := t4.cell1
      have HC4 : Hid (∀ j, j < m → w4.cell? ⟨g, off + j, none⟩ = some (.int .i64 ((gapsT n s m).getD j 0))) := fun j hj => (hb4.cell (p := ⟨g, off + j, none⟩) (World.block_lt_of_cell? w3 _ (HC.out j hj))).trans (HC.out j hj)
      have HD4 : Hid (∀ j, j < m + 1 → w4.cell? ⟨g2, off2 + j, none⟩ = some (.int .i64 ((gapsT n s (m + 1)).getD j 0))) := fun j hj => (hb4.cell (p := ⟨g2, off2 + j, none⟩) (World.block_lt_of_cell? w3 _ (HD.out j hj))).trans (HD.out j hj)
      obtain ⟨gc, cap3, rfl, HE0⟩ := hp4.reads.cells HK.out
      obtain ⟨g3, off3, rfl, HE⟩ := HE0 hK0
      have hB4 : Below w.heap.size w w4 := (by repeat (first | exact Below.refl _ _ | assumption | (refine Below.trans ?_ (Below.mono (by assumption) (by first | omega | (simp <;> omega)))) | (refine Below.alloc ?_ (by first | omega | (simp <;> omega)) _) | (refine below_drewN ?_ _) | (refine Below.drew ?_) | (refine Below.setCell ?_ (by first | omega | (simp <;> omega)) _)))
      clear HE0 hp4 HC HD hb4 hB3
      go_wp2_with fail
      refine (pointOf_any _ _ _ _).mono ?_; rintro e w5 ⟨rfl, hb5⟩
      rw [(HPT.out m (Nat.le_refl _)).out]
      have t5 := t4.below hb5 t4.lt
      have hB5 := hB4.trans (hb5.mono hB4.size)
      have hB45 : Below w4.heap.size w4 w5 := hb5
      clear hb5 t4 t4c t4d
      go_wp2_with fail
      go_loopw [9, 10] (fun y x wr => ∃ k j : Nat, x = .int .i64 k ∧ y = .int .i64 j ∧ k ≤ m ∧ j ≤ k ∧ Hid (lessT n s (pt n s m) k = j) ∧ Two wr w1.heap.size (.int .i64 n) (.int .i64 s) 24 ∧ Below w5.heap.size w5 wr) (fun _ x _ => m - (intOf x).toNat)
      case atStart => exact ⟨0, 0, rfl, rfl, by omega, by omega, by show _ = _; rfl, t5, Below.refl _ _⟩
      case round =>
        obtain ⟨k, j, rfl, rfl, hk, hj, HL, t6, hB6⟩ := hrel
        have t6c := t6.cell0
        have t6d := t6.cell1
        have t6l := t6.lt
        clear t5
        by_cases hkm : k < m
        · have hkm' : (k : Int) < m := by omega
          go_wp2_with fail
          refine (pointOf_any _ _ _ _).mono ?_; rintro e w7 ⟨rfl, hb7⟩
          rw [(HPT.out k hk).out]
          have t7 := t6.below hb7 t6.lt
          have hB7 := hB6.trans (hb7.mono hB6.size)
          clear t6 t6c t6d hb7 hB6
          by_cases c : pt n s k < pt n s m
          · have HL2 : Hid (lessT n s (pt n s m) (k + 1) = j + 1) := by show _ = _; rw [lessT_yes c, HL.out]
            go_wp2_with fail
            go_roundw
            case rel => exact ⟨k + 1, j + 1, by go_num, by go_num, by omega, by omega, HL2.out, t7, hB7⟩
            case measure => simp only [intOf]; omega
          · have HL2 : Hid (lessT n s (pt n s m) (k + 1) = j) := by show _ = _; rw [lessT_no c, HL.out]
            go_wp2_with fail
            go_roundw
            case rel => exact ⟨k + 1, j, by go_num, rfl, by omega, by omega, HL2.out, t7, hB7⟩
            case measure => simp only [intOf]; omega
        · obtain rfl : k = m := by omega
          have hkm' : decide ((k : Int) < k) = false := by simp
          have hj2 := HJ.out
          rw [HL.out] at hj2
          have HP2 := Lib.hid (fun i hi => HPart.out i hi)
          rw [HL.out] at HP2
          have hc1 : decide ((j : Int) < 1) = false := by simp; omega
          have hc2 : decide ((k : Int) + 1 ≤ j) = false := by simp; omega
          have hc3 : ((K : Int) == 0) = false := by simp; omega
          have hBe : Below w4.heap.size w4 wr := hB45.trans (hB6.mono hB45.size)
          have hBf := hB5.trans (hB6.mono hB5.size)
          have HC6 : Hid (∀ j, j < k → wr.cell? ⟨g, off + j, none⟩ = some (.int .i64 ((gapsT n s k).getD j 0))) := fun j hj => (hBe.cell (p := ⟨g, off + j, none⟩) (World.block_lt_of_cell? w4 _ (HC4.out j hj))).trans (HC4.out j hj)
          have HD6 : Hid (∀ j, j < k + 1 → wr.cell? ⟨g2, off2 + j, none⟩ = some (.int .i64 ((gapsT n s (k + 1)).getD j 0))) := fun j hj => (hBe.cell (p := ⟨g2, off2 + j, none⟩) (World.block_lt_of_cell? w4 _ (HD4.out j hj))).trans (HD4.out j hj)
          have hE6 : wr.cell? ⟨g3, off3 + (K - 1), none⟩ = some (.int .i64 ((kindsF n s k).getD (K - 1) 0)) := (hBe.cell (p := ⟨g3, off3 + (K - 1), none⟩) (World.block_lt_of_cell? w4 _ (HE.out (K - 1) (by omega)))).trans (HE.out (K - 1) (by omega))
          rw [HK.out] at HP2
          have HE6 := Lib.hid hE6
          clear hE6 HE HC4 HD4 HPart t6 t6c t6d hB45 hB6 hBe hB5 hB4 HL HJ
          go_wp2_with fail
          obtain ⟨W6, rfl⟩ : ∃ W6 : World, W6 = wr := ⟨_, rfl⟩
          go_loopw [11] (fun x wq => ∃ i q : Nat, x = .int .i64 i ∧ i ≤ k ∧ wq = W6.drewN q) (fun x _ => k - (intOf x).toNat)
          case atStart => exact ⟨0, 0, rfl, by omega, rfl⟩
          case round =>
            obtain ⟨i, q, rfl, hi, rfl⟩ := hrel
            have wrj : IntKind.i64.wrap ((j : Int) - 1) = (j : Int) - 1 := IntWalk.i64_in _ (by omega)
            have wrK : IntKind.i64.wrap ((K : Int) - 1) = (K : Int) - 1 := IntWalk.i64_in _ (by omega)
            have tK : ((K : Int) - 1).toNat = K - 1 := by omega
            have K1 : (1 : Int) ≤ K := by omega
            have K2 : (K : Int) - 1 < K := by omega
            by_cases hik : i < k
            · have hik' : (i : Int) < k := by omega
              have hik2 : (i : Int) < (k : Int) + 1 := by omega
              have hik3 : (i : Int) + 1 < (k : Int) + 1 := by omega
              have c1 := HC6.out i hik
              have c2 := HD6.out i (by omega)
              have c3 := HD6.out (i + 1) (by omega)
              have c4 := HE6.out
              obtain ⟨q1, q2, q3⟩ := HP2.out i hik
              have b1 := HBd'.out i (by omega)
              have b2 := HBd'.out (i + 1) (by omega)
              generalize (gapsT n s k).getD i 0 = X at *
              generalize (gapsT n s (k + 1)).getD i 0 = Y at *
              generalize (gapsT n s (k + 1)).getD (i + 1) 0 = Z at *
              generalize (kindsF n s k).getD (K - 1) 0 = M at *
              clear HP2 HC6 HD6 HE6 HBd HBd' HPT HK HK0 HT
              by_cases e1 : i + 1 < j
              · have h1 := q1 e1
                have x1 : (i : Int) < (j : Int) - 1 := by omega
                have x2 : (Y != X) = false := by rw [h1]; simp
                have x3 : ((i : Int) == (j : Int) - 1) = false := by simp; omega
                have x4 : decide ((j : Int) - 1 < i) = false := by simp; omega
                clear q1 q2 q3 h1
                go_wp2_with fail
                go_quiet (fail)
                go_wp2_with fail
                go_roundw
                case rel => exact ⟨i + 1, q + nq, by go_num, by omega, by simp⟩
                case measure => simp only [intOf]; omega
              · have x1 : decide ((i : Int) < (j : Int) - 1) = false := by simp; omega
                by_cases e2 : i + 1 = j
                · obtain ⟨h1, h2⟩ := q2 e2
                  have x2 : ((i : Int) == (j : Int) - 1) = true := by simp; omega
                  have wrs : IntKind.i64.wrap (Y + Z) = Y + Z := IntWalk.i64_in _ (by omega)
                  have x3 : (Y + Z != X) = false := by rw [h1]; simp
                  have x4 : (X != M) = false := by rw [h2]; simp
                  have x5 : decide ((j : Int) - 1 < i) = false := by simp; omega
                  clear q1 q2 q3 h1 h2 e2
                  go_wp2_with fail
                  go_quiet (fail)
                  go_wp2_with fail
                  go_roundw
                  case rel => exact ⟨i + 1, q + nq, by go_num, by omega, by simp⟩
                  case measure => simp only [intOf]; omega
                · have h1 := q3 (by omega)
                  have x2 : ((i : Int) == (j : Int) - 1) = false := by simp; omega
                  have x5 : (j : Int) - 1 < i := by omega
                  have x3 : (Z != X) = false := by rw [h1]; simp
                  clear q1 q2 q3 h1 e2
                  go_wp2_with fail
                  go_quiet (fail)
                  go_wp2_with fail
                  go_roundw
                  case rel => exact ⟨i + 1, q + nq, by go_num, by omega, by simp⟩
                  case measure => simp only [intOf]; omega
            · obtain rfl : i = k := by omega
              have hik' : decide ((i : Int) < i) = false := by simp
              clear HP2 HC6 HD6 HE6 HBd HBd' HPT HK HK0 HT
              go_wp2
              go_ret
              exact ⟨rfl, below_drewN hBf q⟩
    · have fin : gapsF n s m = [] ∨ gapsF n s (m + 1) = [] := by
        by_cases h1 : tok n s = true ∧ 1 ≤ m ∧ m ≤ n
        · exact .inr (gapsF_no fun h2 => h ⟨h1.1, h1.2.1, h2.2.2⟩)
        · exact .inl (gapsF_no h1)
      by_cases h1 : tok n s = true ∧ 1 ≤ m ∧ m ≤ n
      · have e2 : gapsF n s (m + 1) = [] := gapsF_no fun h2 => h ⟨h1.1, h1.2.1, h2.2.2⟩
        obtain ⟨ht, h2, hm⟩ := h1
        have hb := tok_bd ht
        obtain ⟨m, rfl⟩ := Int.eq_ofNat_of_zero_le (by omega : 0 ≤ m)
        rw [gapsF_yes ht (by omega) hm] at hp3
        rw [e2] at hq3
        obtain ⟨ga, cap1, rfl, _⟩ := hp3.reads.cells (gapsT_length n s m)
        obtain ⟨gb, cap2, rfl⟩ := nil_cells hq3.reads
        have hm0 : ((m : Int) == 0) = false := by simp; omega
        clear hp3 hq3 fin h e2 ht
        go_wp2_with fail
        refine (alive_any _).mono ?_; rintro e w5 ⟨rfl, hb5⟩
        go_wp2
        go_ret
        exact ⟨rfl, hB3.trans (hb5.mono hB3.size)⟩
      · rw [gapsF_no h1] at hp3
        obtain ⟨ga, cap1, rfl⟩ := nil_cells hp3.reads
        obtain ⟨gb, cap2, e2, _⟩ := hq3.reads.cells rfl
        subst e2
        clear hp3 hq3 fin h h1
        go_wp2_with fail
        refine (alive_any _).mono ?_; rintro e w5 ⟨rfl, hb5⟩
        go_wp2
        go_ret
        exact ⟨rfl, hB3.trans (hb5.mono hB3.size)⟩

set_option maxRecDepth 100000 in
theorem lifted (os : Os) (started : os.Started) (H : Type) (enc : TypeId × Value → H) :
    ReturnsInHanded {} Try.checked os 12 .any (Rows.fnGapPartedSpec.pre6 enc Try.prog Try.f12 Rows.fnGapPartedRow.domain false) (Rows.fnGapPartedSpec.post enc Try.prog Try.f12 false true false false) := by
  refine returnsInHanded_of_change (C := Try.checked) own started (by kernel_rfl) Try.func12
    (ChangeSpec.witness6 (enc := enc) (C := Try.checked) false ⟨#[], #[.slice none 0 0], []⟩ 8 (by kernel_rfl) (by kernel_rfl) (by kernel_rfl) (by kernel_rfl)) ?_
  intro W base args ds gs before hval0 hW hcnd _
  have hval : ∀ (j : Nat) t v, Try.f12.params[j]? = some t → args[j]? = some v → Value.okWide Try.prog W .any base t v := hval0
  have hW' := hW
  obtain ⟨p, q, hA0, hV, rfl, hfz, hnd⟩ := hW
  have hA : DataW.TrodAll enc Try.prog W 0 (fun _ => true) true Try.f12.params.toList args.toList ds p := hA0
  rw [Try.params12] at hA hval
  obtain ⟨v0, vs0, d0, ds0, p0, q0, hargs, rfl, rfl, h0, r0⟩ := trodAll_cons hA
  obtain ⟨rfl, rfl, rfl⟩ := trodAll_nil r0
  obtain rfl : args = #[v0] := by cases args; simp_all
  obtain ⟨rfl, rfl⟩ := trodVars_none hV
  obtain ⟨acode, lencode, capcode, rfl⟩ := okWide_slice Try.underlying22 (hval 0 22 v0 rfl rfl)
  have k0 := h0
  have lt0 : ∀ x ∈ p0, x.block < W.heap.size := by obtain ⟨m, hm⟩ := k0; exact DataW.trod_lt m _ _ _ hm
  obtain ⟨zcode, rowcode⟩ : ∃ zs, IsRow .u8 W acode lencode capcode zs := by
    obtain ⟨fuel, hf⟩ := h0
    rcases open_ints Try.underlying22 Try.underlying5 (by kernel_rfl) hf with ⟨hcs, _⟩ | ⟨x, l, c, zs, hcs, _, hl, hm, hz, _, hcell, hwz⟩
    · simp [Value.cells] at hcs
      obtain ⟨rfl, rfl, rfl⟩ := hcs
      exact ⟨[], .inl ⟨rfl, rfl, rfl, rfl⟩⟩
    · simp [Value.cells] at hcs
      obtain ⟨rfl, rfl, rfl⟩ := hcs
      exact ⟨zs, .inr ⟨_, rfl, hl, hm, by simpa using hz, hcell, hwz⟩⟩
  clear hA0 hval0
  refine (walk acode lencode capcode zcode W rowcode).mono fun e W' ⟨he, bel⟩ => ?_
  subst he
  exact ⟨_, rfl, _, _, _, [], _, [], hW', trodAll_mk1 (shut_bool Try.underlying4 _), (trodAll_cons_mk (Below.trod laidOut (by kernel_rfl) (of_decide_eq_true (by kernel_rfl)) k0 bel lt0) trodAll_mk0), rfl, bel.frame _, fun h => by cases h⟩

theorem facts : joinedFacts Try.pinned.checked.prog 12 Try.f12 Rows.fnGapPartedSpec Rows.fnGapPartedRow = true := by
  simp only [joinedFacts, Bool.and_eq_true]
  repeat' apply And.intro
  all_goals first | rw [mayEnter_eq] | (rw [liftsFinal_eq]; kernel_rfl) | (rw [make_eq]; kernel_rfl) | kernel_rfl

theorem over : Rows.fnGapPartedRow.holds Try.pinned (OpenSpec.ofChange Rows.fnGapPartedSpec) :=
  OpenClaim.holds_of_wide 12 Try.f12 rfl rfl rfl rfl rfl rfl rfl ⟨rfl, rfl, rfl, rfl, rfl⟩ rfl rfl rfl rfl rfl (by kernel_rfl) Try.func12 facts
    (of_decide_eq_true (by kernel_rfl)) (by unfold Func.isWrapper; first | (rw [if_pos (by decide +kernel)]; kernel_rfl) | (rw [if_neg (by decide +kernel)]; exact ⟨rfl, rfl⟩))
    (fun os started H enc _ => lifted os started H enc)

theorem proved : Rows.FnGapPartedSaid := over
#print axioms proved
end Go.Proofs.Ytppahekbgbbidaa.lawGapParted
