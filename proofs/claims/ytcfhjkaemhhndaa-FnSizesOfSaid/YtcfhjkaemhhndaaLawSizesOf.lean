/- Proves that FnSizesOf returns true for every code, and leaves the code as it was. No conditions. -/
import Derived.Test.YtcfhjkaemhhndaaHead
import Derived.Test.YtcfhjkaemhhndaaSclL
import Derived.Test.YtcfhjkaemhhndaaSclI
import Derived.Test.YtcfhjkaemhhndaaDrawSc
import Derived.Test.YtcfhjkaemhhndaaGFun2
import Derived.Test.YtcfhjkaemhhndaaGSort
import Derived.Test.YtcfhjkaemhhndaaFarI
import Derived.Deep.RegionHeld3
import Derived.Deep.Cut
import Derived.Deep.CutRange
set_option linter.unusedVariables false
set_option linter.unusedSimpArgs false
namespace Go.Proofs.Ytcfhjkaemhhndaa.lawSizesOf

set_option maxRecDepth 4000
open Go.ChangeShapes Go.WideShapes Go.ChangeAt Go.RowKit Go.Joins

set_option maxHeartbeats 8000000 in
theorem walk (a : Option Addr) (len cap : Nat) (z : List Int) (w : World) (row : IsRow .u8 w a len cap z) :
    Calls Try.prog 5 #[.slice a len cap] w fun e w' => e = .returned (.bool true) ∧ Below w.heap.size w w' := by
  
  have hc := CodeIn.of row
  clear row
  by_cases hl : 1048576 < len
  · have hl' : (1048576 : Int) < len := by omega
    go_enter Try.func5, Try.ntmps5
    go_wp2
    go_ret
    exact ⟨rfl, (by repeat (first | exact Below.refl _ _ | assumption | (refine Below.trans ?_ (Below.mono (by assumption) (by first | omega | (simp <;> omega)))) | (refine Below.alloc ?_ (by first | omega | (simp <;> omega)) _) | (refine below_drewN ?_ _) | (refine Below.drew ?_) | (refine Below.setCell ?_ (by first | omega | (simp <;> omega)) _)))⟩
  · have hl' : ¬ (1048576 : Int) < len := by omega
    go_enter Try.func5, Try.ntmps5
    go_wp2_with fail
    refine (drawSizesOf_any a len cap _ hc (by omega)).mono ?_; rintro e w1 ⟨n, s, m, u, rfl, n0, n1, k0, k1, hb1⟩
    have hz1 := hb1.size
    try simp at hz1
    go_wp2_with fail
    refine (sizesOf_any _ _ _ _ _).mono ?_; rintro e w2 ⟨v1, rfl, hp2, hb2⟩
    have hz2 := hb2.size
    try simp at hz2
    have t2 : Two w2 (w1.heap.size) (.int .i64 n) (.int .i64 s) 24 := Two.below (by repeat (first | assumption | exact Two.new' _ _ _ _ _ (by simp) | refine Two.alloc ?_ _ | refine Two.drewN ?_ _)) hb2 (by first | omega | (simp <;> omega))
    have hlt2 : (w1.heap.size) < w2.heap.size := t2.lt
    have hnt2 : ¬ (w1.heap.size) = w2.heap.size := Nat.ne_of_lt hlt2
    have t2c := t2.cell0
    have t2d := t2.cell1
    go_wp2_with fail
    refine (specSizesOf_any _ _ _ _ _).mono ?_; rintro e w3 ⟨v2, rfl, hq3, hb3⟩
    have hz3 := hb3.size
    try simp at hz3
    have t3 : Two w3 (w1.heap.size) (.int .i64 n) (.int .i64 s) 24 := Two.below (by repeat (first | assumption | exact Two.new' _ _ _ _ _ (by simp) | refine Two.alloc ?_ _ | refine Two.drewN ?_ _)) hb3 (by first | omega | (simp <;> omega))
    have hlt3 : (w1.heap.size) < w3.heap.size := t3.lt
    have hnt3 : ¬ (w1.heap.size) = w3.heap.size := Nat.ne_of_lt hlt3
    have t3c := t3.cell0
    have t3d := t3.cell1
    have hp3 := hp2.below hb3
    have hB3 : Below w.heap.size w w3 := (by repeat (first | exact Below.refl _ _ | assumption | (refine Below.trans ?_ (Below.mono (by assumption) (by first | omega | (simp <;> omega)))) | (refine Below.alloc ?_ (by first | omega | (simp <;> omega)) _) | (refine below_drewN ?_ _) | (refine Below.drew ?_) | (refine Below.setCell ?_ (by first | omega | (simp <;> omega)) _)))
    have hlen : (sizesF n s m u).length ≤ 60 := by
      unfold sizesF
      split
      · have := kindsL_le (spanL (gapsF n s m) u.toNat)
        rw [spanL_length] at this
        have := gapsF_len n s m
        omega
      · simp
    clear hp2 hb1 hb2 hb3
    go_wp2_with fail
    refine (sameInts_any v1 v2 _ _ _ hp3.reads hq3.reads (by omega) (by omega)).mono ?_; rintro e w4 ⟨rfl, nq, rfl⟩
    rw [decide_eq_true rfl]
    have hB4 := below_drewN hB3 nq
    have hp4 : OwnL (w3.drewN nq) _ v1 (sizesF n s m u) := hp3
    have t4 : Two (w3.drewN nq) w1.heap.size (.int .i64 n) (.int .i64 s) 24 := t3
    clear hq3 hp3 hB3 t3 t3c t3d
    generalize w3.drewN nq = w4 at *
    have t4c := t4.cell0
    have t4d := t4.cell1
    by_cases hcu : 1 ≤ u ∧ u ≤ (gapsF n s m).length
    · obtain ⟨u1, u2⟩ := hcu
      have hne := sizes_some u1 u2
      have htm : tok n s = true ∧ 1 ≤ m ∧ m ≤ n := by
        by_cases c : tok n s = true ∧ 1 ≤ m ∧ m ≤ n
        · exact c
        · rw [gapsF_no c] at u2; simp at u2; omega
      obtain ⟨ht, m1, m2⟩ := htm
      obtain ⟨M, rfl⟩ := Int.eq_ofNat_of_zero_le (by omega : 0 ≤ m)
      obtain ⟨K, rfl⟩ := Int.eq_ofNat_of_zero_le (by omega : 0 ≤ u)
      rw [gapsF_yes ht (by omega) m2, gapsT_length] at u2
      have H1 : Hid (K = 1 → sizesF n s M K = kindsF n s M) := fun e => by subst e; exact sizes_one
      have hAll : K = M → sizesF n s M K = [n] := fun e => by subst e; exact sizes_all ht (by omega) m2
      have hTwo := fun (h : scaleF n s M = true) (h2 : (M : Int) < n) => scale_two h h2
      have HA : Hid ((sizesF n s M K).Pairwise (· < ·)) := by
        unfold sizesF
        split
        · exact (kindsL_is _).1
        · exact List.Pairwise.nil
      have hkl := kindsF_len n s M
      have hK := Lib.hid (fun w => kindsOf_any n s (M : Int) w)
      have hS := Lib.hid (fun w => scaleOk_any n s (M : Int) w)
      have hTw : scaleF n s M = true → (M : Int) < n → K < M → ∃ x y z : Int, kindsF n s M = [x, y] ∧ sizesF n s M K = [z, z + (y - x)] ∧ 1 ≤ x ∧ x < y ∧ y ≤ 60 := fun h h2 h3 => by
        obtain ⟨x, y, e1, e2, e3, e4, e5⟩ := hTwo h h2
        obtain ⟨z, ez⟩ := e5 K (by omega) (by omega)
        exact ⟨x, y, z, e1, ez, e2, e3, e4⟩
      have hzb : ∀ x ∈ sizesF n s M K, -100000 ≤ x ∧ x ≤ 100000 := fun x hx => by
        rw [sizesF_yes (by omega) (by rw [gapsF_yes ht (by omega) m2, gapsT_length]; omega)] at hx
        have hx := ((kindsL_is _).2 x).1 hx
        obtain ⟨f, _, rfl⟩ := mem_spanL.1 hx
        have := spanS_bd (G := gapsF n s M) (B := 60) (fun i hi => by
          rw [gapsF_yes ht (by omega) m2] at hi ⊢
          rw [gapsT_length] at hi
          have := gaps_pos (turns_of ht) m2 hi 0
          have := tok_bd ht
          omega) (by rw [gapsF_yes ht (by omega) m2, gapsT_length]; omega) f K
        have := tok_bd ht
        omega
      have hb := tok_bd ht
      generalize sizesF n s M K = L at *
      generalize kindsF n s M = KL at *
      obtain ⟨SN, hSN⟩ : ∃ SN, L.length = SN := ⟨_, rfl⟩
      obtain ⟨KN, hKN⟩ : ∃ KN, KL.length = KN := ⟨_, rfl⟩
      have HLl := Lib.hid (show L.length ≤ 1000000 by omega)
      have HKl := Lib.hid (show KL.length ≤ 1000000 by omega)
      have HAll : Hid (K = M → L = [n] ∧ SN = 1) := fun e => ⟨hAll e, by rw [← hSN, hAll e]; rfl⟩
      have HTw : Hid (scaleF n s M = true → (M : Int) < n → K < M → ∃ x y z : Int, KL = [x, y] ∧ L = [z, z + (y - x)] ∧ 1 ≤ x ∧ x < y ∧ y ≤ 60 ∧ SN = 2 ∧ KN = 2 ∧ -100000 ≤ z ∧ z ≤ 100000) := fun h h2 h3 => by
        obtain ⟨x, y, z, e1, e2, e3, e4, e5⟩ := hTw h h2 h3
        have := hzb z (by rw [e2]; simp)
        exact ⟨x, y, z, e1, e2, e3, e4, e5, by rw [← hSN, e2]; rfl, by rw [← hKN, e1]; rfl, this⟩
      have hS0 : SN ≠ 0 := by rintro rfl; exact hne (nil_of_len hSN)
      have hm0 : ((SN : Int) == 0) = false := by simp; omega
      obtain ⟨aL, capL, rfl, HL0⟩ := hp4.reads.cells hSN
      have hr4 := hp4.reads
      obtain ⟨gL, oL, rfl, HL4⟩ := HL0 hS0
      have HKN := Lib.hid hKN
      clear hAll hTw hTwo hzb hne hp4 HL0 ht hkl hlen hSN hKN
      go_wp2_with fail
      refine (hK.out _).mono ?_; rintro e w5 ⟨v5, rfl, ho5, hb5⟩
      have t5 := t4.below hb5 t4.lt
      have t5c := t5.cell0
      have t5d := t5.cell1
      have hB5 := hB4.trans (hb5.mono hB4.size)
      have hr5 : Reads w5 _ L := hr4.below hb5
      have HL5 : Hid (∀ j, j < SN → w5.cell? ⟨gL, oL + j, none⟩ = some (.int .i64 (L.getD j 0))) := fun j hj => (hb5.cell (p := ⟨gL, oL + j, none⟩) (World.block_lt_of_cell? w4 _ (HL4.out j hj))).trans (HL4.out j hj)
      clear t4 t4c t4d hb5 hB4 hK HL4 hr4
      have HCLr : Hid (∀ wx, Below w5.heap.size w5 wx → ∀ j, j < SN → wx.cell? ⟨gL, oL + j, none⟩ = some (.int .i64 (L.getD j 0))) := fun wx hb6 j hj => (hb6.cell (p := ⟨gL, oL + j, none⟩) (World.block_lt_of_cell? w5 _ (HL5.out j hj))).trans (HL5.out j hj)
      have hk5 : Reads w5 v5 KL := ho5.reads
      obtain ⟨aK, capK, rfl, HK0⟩ := hk5.cells HKN.out
      go_upto_region 10 with fail
      go_cut [48] from 35 to 47 (fun v48 wx => v48 = .bool (decide (scaleF n s M = true ∧ (M : Int) < n ∧ K < M)) ∧ Below w5.heap.size w5 wx)
      case first =>
        clear HA H1 HAll HLl HKl hr5 hk5 HL5 HTw HK0 HCLr
        go_wp2_with fail
        refine (hS.out _).mono ?_; rintro e w6 ⟨rfl, hb6⟩
        have t6 := t5.below hb6 t5.lt
        have t6c := t6.cell0
        have t6d := t6.cell1
        clear t5 t5c t5d hS hB5
        cases hsc : scaleF n s M with
        | false =>
          go_wp2_with fail
          go_meet
          exact ⟨by rw [decide_eq_false (fun h => by rw [hsc] at h; exact absurd h.1 (by simp))], hb6⟩
        | true =>
          by_cases hmn : (M : Int) < n
          · by_cases hkm0 : K < M
            · have hkm1 : (K : Int) < (M : Int) := by omega
              go_wp2_with fail
              go_meet
              exact ⟨by rw [decide_eq_true ⟨hsc, hmn, hkm0⟩], hb6⟩
            · have hkm1 : decide ((K : Int) < (M : Int)) = false := decide_eq_false (by omega)
              go_wp2_with fail
              go_meet
              exact ⟨by rw [decide_eq_false (fun h => hkm0 h.2.2)], hb6⟩
          · have hmn1 : decide ((M : Int) < n) = false := decide_eq_false hmn
            go_wp2_with fail
            go_meet
            exact ⟨by rw [decide_eq_false (fun h => by have := h.2.1; omega)], hb6⟩
      case rest =>
        obtain ⟨rfl, hcut⟩ := hcut
        have t6 := t5.below hcut t5.lt
        have t6c := t6.cell0
        have t6d := t6.cell1
        have hB6 := hB5.trans (hcut.mono hB5.size)
        have hr6 := hr5.below hcut
        have hk6 := hk5.below hcut
        have HCL := Lib.hid (HCLr.out _ hcut)
        clear t5 t5c t5d hS HL5 hr5 ho5 HCLr hB5
        generalize wc = w6 at *
        by_cases hC : scaleF n s M = true ∧ (M : Int) < n ∧ K < M
        · rw [decide_eq_true hC]
          obtain ⟨hsc, hmn, hkm0⟩ := hC
          obtain ⟨x, y, z, rfl, rfl, x1, x2, x3, rfl, rfl, z1, z2⟩ := HTw.out hsc hmn hkm0
          obtain ⟨gK, oK, rfl, HCK⟩ := HK0 (by omega)
          have ck5 := HCK.out 0 (by omega)
          have lgK := World.block_lt_of_cell? w5 _ ck5
          have cl0 : w6.cell? ⟨gL, oL, none⟩ = some (.int .i64 z) := HCL.out 0 (by omega)
          have cl1 : w6.cell? ⟨gL, oL + 1, none⟩ = some (.int .i64 (z + (y - x))) := HCL.out 1 (by omega)
          have ck0 : w6.cell? ⟨gK, oK, none⟩ = some (.int .i64 x) := (hcut.cell (p := ⟨gK, oK, none⟩) lgK).trans (HCK.out 0 (by omega))
          have ck1 : w6.cell? ⟨gK, oK + 1, none⟩ = some (.int .i64 y) := (hcut.cell (p := ⟨gK, oK + 1, none⟩) lgK).trans (HCK.out 1 (by omega))
          have wa : IntKind.i64.wrap (z + (y - x) - z) = y - x := by rw [show z + (y - x) - z = y - x by omega]; exact IntWalk.i64_in _ (by omega)
          have wb : IntKind.i64.wrap (y - x) = y - x := IntWalk.i64_in _ (by omega)
          have nd : ((y - x) != (y - x)) = false := by simp
          clear HTw HK0 HCK ck5 HCL hcut hk5
          go_wp2_with fail
          go_quiet (fail)
          have hr7 : Reads (w6.drewN nq) _ [z, z + (y - x)] := hr6
          have hk7 : Reads (w6.drewN nq) _ [x, y] := hk6
          have hB7 := below_drewN hB6 nq
          have t7 : Two (w6.drewN nq) w1.heap.size (.int .i64 n) (.int .i64 s) 24 := t6
          clear hr6 hk6 hB6 t6 t6c t6d cl0 cl1 ck0 ck1 wa wb nd
          generalize w6.drewN nq = w7 at *
          have t7c := t7.cell0
          have t7d := t7.cell1
          have hss := fun (r : Nat) => (sameInts_any _ _ _ _ (w7.drewN r) (show Reads (w7.drewN r) _ [z, z + (y - x)] from hr7) (show Reads (w7.drewN r) _ [x, y] from hk7) HLl.out HKl.out).mono (R' := fun e w' => e = .returned (.bool (decide ([z, z + (y - x)] = [x, y]))) ∧ ∃ n, w' = w7.drewN n) (fun e w' h => ⟨h.1, by obtain ⟨n, hn⟩ := h.2; exact ⟨r + n, by rw [hn]; simp⟩⟩)
          have hasc := fun (r : Nat) => (ascend_any _ _ (w7.drewN r) (show Reads (w7.drewN r) _ [z, z + (y - x)] from hr7) HLl.out HA.out).mono (R' := fun e w' => e = .returned (.bool true) ∧ ∃ n, w' = w7.drewN n) (fun e w' h => ⟨h.1, by obtain ⟨n, hn⟩ := h.2; exact ⟨r + n, by rw [hn]; simp⟩⟩)
          clear hr7 hk7
          by_cases k1 : K = 1
          · subst k1
            rw [decide_eq_true (H1.out rfl)] at hss
            have s1 : decide ((1 : Int) < ((1 : Nat) : Int)) = false := rfl
            have km' : ((1 : Nat) : Int) < (M : Int) := by omega
            have km2 : (1 : Int) < (M : Int) := by omega
            clear H1 HAll HLl HKl HA HKN
            go_wp2_with fail
            go_quiet ((first | (go_at_call 22; with_reducible exact hss _) | (go_at_call 26; with_reducible exact hasc _)))
            go_wp2
            go_ret
            first | exact ⟨rfl, below_drewN hB7 _⟩ | exact ⟨ret_bool (by simp), below_drewN hB7 _⟩ | exact ⟨rfl, hB7⟩
          · have s1 : (1 : Int) < (K : Int) := by omega
            have km' : (K : Int) < (M : Int) := by omega
            clear H1 HAll HLl HKl HA HKN
            clear hss
            go_wp2_with fail
            go_quiet (((go_at_call 26; with_reducible exact hasc _)))
            go_wp2
            go_ret
            first | exact ⟨rfl, below_drewN hB7 _⟩ | exact ⟨ret_bool (by simp), below_drewN hB7 _⟩ | exact ⟨rfl, hB7⟩
        · rw [decide_eq_false hC]
          have hr7 := hr6
          have hk7 := hk6
          have hB7 := hB6
          clear hr6 hk6 hB6 HTw HK0 hcut hk5
          generalize w6 = w7 at *
          have hss := fun (r : Nat) => (sameInts_any _ _ _ _ (w7.drewN r) (show Reads (w7.drewN r) _ L from hr7) (show Reads (w7.drewN r) _ KL from hk7) HLl.out HKl.out).mono (R' := fun e w' => e = .returned (.bool (decide (L = KL))) ∧ ∃ n, w' = w7.drewN n) (fun e w' h => ⟨h.1, by obtain ⟨n, hn⟩ := h.2; exact ⟨r + n, by rw [hn]; simp⟩⟩)
          have hasc := fun (r : Nat) => (ascend_any _ _ (w7.drewN r) (show Reads (w7.drewN r) _ L from hr7) HLl.out HA.out).mono (R' := fun e w' => e = .returned (.bool true) ∧ ∃ n, w' = w7.drewN n) (fun e w' h => ⟨h.1, by obtain ⟨n, hn⟩ := h.2; exact ⟨r + n, by rw [hn]; simp⟩⟩)
          clear hr7 hk7
          by_cases k1 : K = 1
          · subst k1
            rw [decide_eq_true (H1.out rfl)] at hss
            have s1 : decide ((1 : Int) < ((1 : Nat) : Int)) = false := rfl
            by_cases km : M = 1
            · subst km
              obtain ⟨rfl, rfl⟩ := HAll.out rfl
              have cL0 : w7.cell? ⟨gL, oL, none⟩ = some (.int .i64 n) := HCL.out 0 (by omega)
              have nn : (n == n) = true := by simp
              clear HCL H1 HAll HLl HKl HA HKN
              go_wp2_with fail
              go_quiet ((first | (go_at_call 22; with_reducible exact hss _) | (go_at_call 26; with_reducible exact hasc _)))
              go_wp2
              go_ret
              first | exact ⟨rfl, below_drewN hB7 _⟩ | exact ⟨ret_bool (by simp), below_drewN hB7 _⟩ | exact ⟨rfl, hB7⟩
            · have km' : ((1 : Nat) : Int) < (M : Int) := by omega
              have km2 : (1 : Int) < (M : Int) := by omega
              clear HCL H1 HAll HLl HKl HA HKN
              go_wp2_with fail
              go_quiet ((first | (go_at_call 22; with_reducible exact hss _) | (go_at_call 26; with_reducible exact hasc _)))
              go_wp2
              go_ret
              first | exact ⟨rfl, below_drewN hB7 _⟩ | exact ⟨ret_bool (by simp), below_drewN hB7 _⟩ | exact ⟨rfl, hB7⟩
          · have s1 : (1 : Int) < (K : Int) := by omega
            by_cases km : K = M
            · subst km
              obtain ⟨rfl, rfl⟩ := HAll.out rfl
              have cL0 : w7.cell? ⟨gL, oL, none⟩ = some (.int .i64 n) := HCL.out 0 (by omega)
              have nn : (n == n) = true := by simp
              have km' : decide ((K : Int) < (K : Int)) = false := by simp
              clear HCL H1 HAll HLl HKl HA HKN
              clear hss
              go_wp2_with fail
              go_quiet (((go_at_call 26; with_reducible exact hasc _)))
              go_wp2
              go_ret
              first | exact ⟨rfl, below_drewN hB7 _⟩ | exact ⟨ret_bool (by simp), below_drewN hB7 _⟩ | exact ⟨rfl, hB7⟩
            · have km' : (K : Int) < (M : Int) := by omega
              clear HCL H1 HAll HLl HKl HA HKN
              clear hss
              go_wp2_with fail
              go_quiet (((go_at_call 26; with_reducible exact hasc _)))
              go_wp2
              go_ret
              first | exact ⟨rfl, below_drewN hB7 _⟩ | exact ⟨ret_bool (by simp), below_drewN hB7 _⟩ | exact ⟨rfl, hB7⟩
    · rw [sizes_no hcu] at hp4
      obtain ⟨ga, cap1, rfl⟩ := nil_cells hp4.reads
      clear hp4
      go_wp2_with fail
      refine (alive_any _).mono ?_; rintro e w9 ⟨rfl, hb9⟩
      have hB9 := hB4.trans (hb9.mono hB4.size)
      go_wp2
      go_ret
      exact ⟨rfl, hB9⟩

set_option maxRecDepth 100000 in
theorem lifted (os : Os) (started : os.Started) (H : Type) (enc : TypeId × Value → H) :
    ReturnsInHanded {} Try.checked os 5 .any (Rows.fnSizesOfSpec.pre6 enc Try.prog Try.f5 Rows.fnSizesOfRow.domain false) (Rows.fnSizesOfSpec.post enc Try.prog Try.f5 false true false false) := by
  refine returnsInHanded_of_change (C := Try.checked) own started (by kernel_rfl) Try.func5
    (ChangeSpec.witness6 (enc := enc) (C := Try.checked) false ⟨#[], #[.slice none 0 0], []⟩ 8 (by kernel_rfl) (by kernel_rfl) (by kernel_rfl) (by kernel_rfl)) ?_
  intro W base args ds gs before hval0 hW hcnd _
  have hval : ∀ (j : Nat) t v, Try.f5.params[j]? = some t → args[j]? = some v → Value.okWide Try.prog W .any base t v := hval0
  have hW' := hW
  obtain ⟨p, q, hA0, hV, rfl, hfz, hnd⟩ := hW
  have hA : DataW.TrodAll enc Try.prog W 0 (fun _ => true) true Try.f5.params.toList args.toList ds p := hA0
  rw [Try.params5] at hA hval
  obtain ⟨v0, vs0, d0, ds0, p0, q0, hargs, rfl, rfl, h0, r0⟩ := trodAll_cons hA
  obtain ⟨rfl, rfl, rfl⟩ := trodAll_nil r0
  obtain rfl : args = #[v0] := by cases args; simp_all
  obtain ⟨rfl, rfl⟩ := trodVars_none hV
  obtain ⟨acode, lencode, capcode, rfl⟩ := okWide_slice Try.underlying22 (hval 0 22 v0 rfl rfl)
  have k0 := h0
  have lt0 : ∀ x ∈ p0, x.block < W.heap.size := by obtain ⟨m, hm⟩ := k0; exact DataW.trod_lt m _ _ _ hm
  obtain ⟨zcode, rowcode⟩ : ∃ zs, IsRow .u8 W acode lencode capcode zs := by
    obtain ⟨fuel, hf⟩ := h0
    rcases open_ints Try.underlying22 Try.underlying5 (by kernel_rfl) hf with ⟨hcs, _⟩ | ⟨x, l, c, zs, hcs, _, hl, hm, hz, _, hcell, hwz⟩
    · simp [Value.cells] at hcs
      obtain ⟨rfl, rfl, rfl⟩ := hcs
      exact ⟨[], .inl ⟨rfl, rfl, rfl, rfl⟩⟩
    · simp [Value.cells] at hcs
      obtain ⟨rfl, rfl, rfl⟩ := hcs
      exact ⟨zs, .inr ⟨_, rfl, hl, hm, by simpa using hz, hcell, hwz⟩⟩
  clear hA0 hval0
  refine (walk acode lencode capcode zcode W rowcode).mono fun e W' ⟨he, bel⟩ => ?_
  subst he
  exact ⟨_, rfl, _, _, _, [], _, [], hW', trodAll_mk1 (shut_bool Try.underlying4 _), (trodAll_cons_mk (Below.trod laidOut (by kernel_rfl) (of_decide_eq_true (by kernel_rfl)) k0 bel lt0) trodAll_mk0), rfl, bel.frame _, fun h => by cases h⟩

theorem facts : joinedFacts Try.pinned.checked.prog 5 Try.f5 Rows.fnSizesOfSpec Rows.fnSizesOfRow = true := by
  simp only [joinedFacts, Bool.and_eq_true]
  repeat' apply And.intro
  all_goals first | rw [mayEnter_eq] | (rw [liftsFinal_eq]; kernel_rfl) | (rw [make_eq]; kernel_rfl) | kernel_rfl

theorem over : Rows.fnSizesOfRow.holds Try.pinned (OpenSpec.ofChange Rows.fnSizesOfSpec) :=
  OpenClaim.holds_of_wide 5 Try.f5 rfl rfl rfl rfl rfl rfl rfl ⟨rfl, rfl, rfl, rfl, rfl⟩ rfl rfl rfl rfl rfl (by kernel_rfl) Try.func5 facts
    (of_decide_eq_true (by kernel_rfl)) (by unfold Func.isWrapper; first | (rw [if_pos (by decide +kernel)]; kernel_rfl) | (rw [if_neg (by decide +kernel)]; exact ⟨rfl, rfl⟩))
    (fun os started H enc _ => lifted os started H enc)

theorem proved : Rows.FnSizesOfSaid := over
#print axioms proved
end Go.Proofs.Ytcfhjkaemhhndaa.lawSizesOf
