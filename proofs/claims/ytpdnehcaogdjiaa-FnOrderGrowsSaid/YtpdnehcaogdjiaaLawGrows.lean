/- Proves that FnOrderGrows returns true for every code, and leaves the code as it was. No conditions. -/
import Derived.Test.YtpdnehcaogdjiaaDrawO
import Derived.Test.YtpdnehcaogdjiaaOrdS
import Derived.Test.YtpdnehcaogdjiaaKinds
import Derived.Test.YtpdnehcaogdjiaaPart
import Derived.Test.YtpdnehcaogdjiaaFun3
set_option linter.unusedVariables false
namespace Go.Proofs.Ytpdnehcaogdjiaa.lawGrows
open Go.ChangeShapes Go.WideShapes Go.ChangeAt Go.RowKit Go.Joins N

/-- the order of one point more, number by number -/
theorem grow_at {n s : Int} (ht : tok n s = true) {m : Nat} (hm : (m : Int) < n) (i : Nat) :
    (i < lessT n s (pt n s m) m → (ordT n s (m + 1)).getD i 0 = (ordT n s m).getD i 0) ∧ (i = lessT n s (pt n s m) m → (ordT n s (m + 1)).getD i 0 = m) ∧ (lessT n s (pt n s m) m < i → (ordT n s (m + 1)).getD i 0 = (ordT n s m).getD (i - 1) 0) := by
  have hj := lessT_le n s (pt n s m) m
  have e := more_getD (ordT_length n s m) hj (m : Int) 0 i
  rw [← ordT_put ht hm] at e
  rw [e]
  generalize lessT n s (pt n s m) m = T at *
  refine ⟨fun h => if_pos h, fun h => ?_, fun h => ?_⟩
  · rw [if_neg (by omega), if_pos h]
  · rw [if_neg (by omega), if_neg (by omega)]

set_option maxHeartbeats 4000000 in

set_option maxRecDepth 4000 in
theorem walk (a : Option Addr) (len cap : Nat) (z : List Int) (w : World) (row : IsRow .u8 w a len cap z) :
    Calls Try.prog 11 #[.slice a len cap] w fun e w' => e = .returned (.bool true) ∧ Below w.heap.size w w' := by
  
  have hc := CodeIn.of row
  clear row
  by_cases hl : 1048576 < len
  · have hl' : (1048576 : Int) < len := by omega
    go_enter Try.func11, Try.ntmps11
    go_wp2
    go_ret
    exact ⟨rfl, (by repeat (first | exact Below.refl _ _ | assumption | (refine Below.trans ?_ (Below.mono (by assumption) (by first | omega | (simp <;> omega)))) | (refine Below.alloc ?_ (by first | omega | (simp <;> omega)) _) | (refine below_drewN ?_ _) | (refine Below.drew ?_) | (refine Below.setCell ?_ (by first | omega | (simp <;> omega)) _)))⟩
  · have hl' : ¬ (1048576 : Int) < len := by omega
    go_enter Try.func11, Try.ntmps11
    go_wp2_with fail
    refine (drawOrderOf_any a len cap _ hc (by omega)).mono ?_; rintro e w1 ⟨n, s, m, rfl, n0, n1, s0, s1, k0, k1, hb1⟩
    have hz1 := hb1.size
    try simp at hz1
    go_wp2_with fail
    refine (orderOf_any _ _ _ _).mono ?_; rintro e w2 ⟨v1, rfl, hp2, hb2⟩
    have hz2 := hb2.size
    try simp at hz2
    have t2 : Two w2 (w1.heap.size) (.int .i64 n) (.int .i64 s) 24 := Two.below (by repeat (first | assumption | exact Two.new' _ _ _ _ _ (by simp) | refine Two.alloc ?_ _ | refine Two.drewN ?_ _)) hb2 (by first | omega | (simp <;> omega))
    have hlt2 : (w1.heap.size) < w2.heap.size := t2.lt
    have hnt2 : ¬ (w1.heap.size) = w2.heap.size := Nat.ne_of_lt hlt2
    have t2c := t2.cell0
    have t2d := t2.cell1
    go_wp2_with fail
    refine (orderOf_any _ _ _ _).mono ?_; rintro e w3 ⟨v2, rfl, hq3, hb3⟩
    have hz3 := hb3.size
    try simp at hz3
    have t3 : Two w3 (w1.heap.size) (.int .i64 n) (.int .i64 s) 24 := Two.below (by repeat (first | assumption | exact Two.new' _ _ _ _ _ (by simp) | refine Two.alloc ?_ _ | refine Two.drewN ?_ _)) hb3 (by first | omega | (simp <;> omega))
    have hlt3 : (w1.heap.size) < w3.heap.size := t3.lt
    have hnt3 : ¬ (w1.heap.size) = w3.heap.size := Nat.ne_of_lt hlt3
    have t3c := t3.cell0
    have t3d := t3.cell1
    have hp3 := hp2.below hb3
    have hB3 : Below w.heap.size w w3 := (by repeat (first | exact Below.refl _ _ | assumption | (refine Below.trans ?_ (Below.mono (by assumption) (by first | omega | (simp <;> omega)))) | (refine Below.alloc ?_ (by first | omega | (simp <;> omega)) _) | (refine below_drewN ?_ _) | (refine Below.drew ?_) | (refine Below.setCell ?_ (by first | omega | (simp <;> omega)) _)))
    clear hp2 hb1 hb2 hb3
    by_cases h : tok n s = true ∧ 1 ≤ m ∧ m + 1 ≤ n
    · obtain ⟨ht, h1, hm⟩ := h
      have hb := tok_bd ht
      obtain ⟨m, rfl⟩ := Int.eq_ofNat_of_zero_le (by omega : 0 ≤ m)
      have em : ((m : Int) + 1) = ((m + 1 : Nat) : Int) := by omega
      rw [orderF_yes ht (by omega) (by omega)] at hp3
      rw [em, orderF_yes ht (by omega) (by omega)] at hq3
      have hk0 : kindsF n s m = kindsL (gapsT n s m) := by unfold kindsF; rw [gapsF_yes ht (by omega) (by omega)]
      have hk60 := kindsF_len n s m
      have hk1 : kindsF n s m ≠ [] := by
        intro e
        have hx := getD_mem' (xs := gapsT n s m) 0 (i := 0) (by rw [gapsT_length]; omega)
        rw [← (kindsL_is (gapsT n s m)).2, ← hk0, e] at hx
        simp at hx
      obtain ⟨K, hK⟩ : ∃ K, (kindsF n s m).length = K := ⟨_, rfl⟩
      have hK0 : K ≠ 0 := by rintro rfl; exact hk1 (nil_of_len hK)
      rw [hK] at hk60
      have hT1 := (parts_greatest ht (by omega : 1 ≤ m) (by omega)).1
      have hTm := lessT_le n s (pt n s m) m
      have hgr := (parted ht (by omega : 1 ≤ m) (by omega) (by omega : lessT n s (pt n s m) m - 1 < m)).2.1 (by omega)
      have HGr : Hid ((kindsF n s m).getD (K - 1) 0 = (gapsT n s m).getD (lessT n s (pt n s m) m - 1) 0) := by
        have h := hgr.2
        rw [← hk0, hK] at h
        exact h
      have HGA : Hid (∀ i, _) := fun i => grow_at ht (by omega : (m : Int) < n) i
      have HOb : Hid (∀ i, i < m → (ordT n s m).getD i 0 ≠ m) := fun i hi e => by
        obtain ⟨t, t1, t2, _⟩ := ordT_at ht (by omega : (m : Int) ≤ n) hi
        omega
      have hgap := gapsOf_any n s m
      rw [gapsF_yes ht (by omega) (by omega)] at hgap
      have HK := Lib.hid hK
      generalize lessT n s (pt n s m) m = T at *
      clear ht hk1 hk0 hK em hgr
      obtain ⟨ga, cap1, rfl, HC0⟩ := (OwnL.reads hp3).cells (ordT_length n s m)
      obtain ⟨gb, cap2, rfl, HD0⟩ := (OwnL.reads hq3).cells (ordT_length n s (m + 1))
      obtain ⟨g2, off2, rfl, HD⟩ := HD0 (by omega)
      have hm0 : ((m : Int) == 0) = false := by simp; omega
      have hm1 : ((m : Int) + 1 == 0) = false := by simp; omega
      clear HC0 HD0 hq3
      go_wp2_with fail
      refine (hgap _).mono ?_; rintro e w4 ⟨v4, rfl, hp4, hb4⟩
      have hz4 := hb4.size
      try simp at hz4
      have t4 : Two w4 (w1.heap.size) (.int .i64 n) (.int .i64 s) 24 := Two.below (by repeat (first | assumption | exact Two.new' _ _ _ _ _ (by simp) | refine Two.alloc ?_ _ | refine Two.drewN ?_ _)) hb4 (by first | omega | (simp <;> omega))
      have hlt4 : (w1.heap.size) < w4.heap.size := t4.lt
      have hnt4 : ¬ (w1.heap.size) = w4.heap.size := Nat.ne_of_lt hlt4
      have t4c := t4.cell0
      have t4d := t4.cell1
      have hO4 := hp3.below hb4
      have HD4 : Hid (∀ j, j < m + 1 → w4.cell? ⟨g2, off2 + j, none⟩ = some (.int .i64 ((ordT n s (m + 1)).getD j 0))) := fun j hj => (hb4.cell (p := ⟨g2, off2 + j, none⟩) (World.block_lt_of_cell? w3 _ (HD.out j hj))).trans (HD.out j hj)
      have hg2 : g2 < w4.heap.size := World.block_lt_of_cell? w4 _ (HD4.out 0 (by omega))
      obtain ⟨gc, cap3, rfl, HE0⟩ := (OwnL.reads hp4).cells (gapsT_length n s m)
      obtain ⟨g3, off3, rfl, HE⟩ := HE0 (by omega)
      have hE4 := HE.out (T - 1) (by omega)
      have hg3 : g3 < w4.heap.size := World.block_lt_of_cell? w4 _ hE4
      have hB4 : Below w.heap.size w w4 := (by repeat (first | exact Below.refl _ _ | assumption | (refine Below.trans ?_ (Below.mono (by assumption) (by first | omega | (simp <;> omega)))) | (refine Below.alloc ?_ (by first | omega | (simp <;> omega)) _) | (refine below_drewN ?_ _) | (refine Below.drew ?_) | (refine Below.setCell ?_ (by first | omega | (simp <;> omega)) _)))
      have hnil := made_nil w4
      have hB0 : Below w4.heap.size w4 (w4.alloc (.cells #[] 3)) := (by repeat (first | exact Below.refl _ _ | assumption | (refine Below.trans ?_ (Below.mono (by assumption) (by first | omega | (simp <;> omega)))) | (refine Below.alloc ?_ (by first | omega | (simp <;> omega)) _) | (refine below_drewN ?_ _) | (refine Below.drew ?_) | (refine Below.setCell ?_ (by first | omega | (simp <;> omega)) _)))
      have HE4 := Lib.hid hE4
      clear HE0 HE hp4 HD hb4 hB3 hgap hp3 hE4
      go_wp2_with fail
      go_loopw [8, 9, 10] (fun y p x wr => ∃ (k : Nat) (v0 : Value), x = .int .i64 k ∧ v0 = y ∧ k ≤ m + 1 ∧ v0 ≠ .slice none 0 0 ∧ Below w4.heap.size w4 wr ∧ ((k ≤ T ∧ p = .int .i64 (-1) ∧ OwnL wr w4.heap.size v0 ((ordT n s m).take k)) ∨ (T < k ∧ p = .int .i64 T ∧ OwnL wr w4.heap.size v0 ((ordT n s m).take (k - 1))))) (fun _ _ x _ => m + 1 - (intOf x).toNat)
      case atStart => exact ⟨0, _, rfl, rfl, by omega, by simp, hB0, .inl ⟨by omega, rfl, hnil⟩⟩
      case round =>
        obtain ⟨k, v0, rfl, rfl, hk, hne, hB, hR⟩ := hrel
        clear hnil hB0
        have hsz := hB.size
        have hszB : w4.heap.size ≤ wr.heap.size := by omega
        by_cases hkm : k < m + 1
        · have hkm' : (k : Int) < (m : Int) + 1 := by omega
          have ck := (hB.cell (p := ⟨g2, off2 + k, none⟩) hg2).trans (HD4.out k hkm)
          obtain ⟨q1, q2, q3⟩ := HGA.out k
          have htk := fun i (hi : i < m) => take_one (ordT n s m) (k := i) (by rw [ordT_length]; exact hi)
          have hlk := fun i (hi : i ≤ m) => show ((ordT n s m).take i).length = i by rw [List.length_take, ordT_length]; omega
          have hOb := HOb.out
          rcases hR with ⟨hkT, rfl, ho⟩ | ⟨hkT, rfl, ho⟩
          · by_cases he : k = T
            · rw [q2 he] at ck
              have hmm : ((m : Int) == m) = true := by simp
              have ho' : OwnL wr w4.heap.size v0 ((ordT n s m).take (k + 1 - 1)) := ho
              have HEK := Lib.hid he
              have hTk : T < k + 1 := by omega
              clear q1 q2 q3 htk hlk hOb ho he
              go_wp2_with fail
              go_roundw
              case rel => exact ⟨k + 1, v0, by go_num, rfl, by omega, hne, hB, .inr ⟨hTk, by rw [HEK.out], ho'⟩⟩
              case measure => simp only [intOf]; omega
            · rw [q1 (by omega)] at ck
              have hob := hOb k (by omega)
              have hS := htk k (by omega)
              have HL := Lib.hid (hlk k (by omega))
              generalize (ordT n s m).getD k 0 = X at *
              have hob' : (X == (m : Int)) = false := by simpa using hob
              have HS := Lib.hid hS
              clear q1 q2 q3 htk hlk hOb hS hob
              go_wp2_with (at_builtin; refine append_int rfl _ _ rfl w4.heap.size v0 ((ordT n s m).take k) k HL (by omega) rfl ho hszB rfl ?_)
              intro v5 w5 ho5 hn5 hb5
              rw [← HS.out] at ho5
              have hB5 := hB.trans hb5
              clear ck ho hb5 hB
              go_wp2_with fail
              go_roundw
              case rel => exact ⟨k + 1, v5, by go_num, rfl, by omega, hn5, hB5, .inl ⟨by omega, by trivial, ho5⟩⟩
              case measure => simp only [intOf]; omega
          · rw [q3 hkT] at ck
            have hob := hOb (k - 1) (by omega)
            have hS := htk (k - 1) (by omega)
            rw [show k - 1 + 1 = k by omega] at hS
            have HL := Lib.hid (hlk (k - 1) (by omega))
            generalize (ordT n s m).getD (k - 1) 0 = X at *
            have hob' : (X == (m : Int)) = false := by simpa using hob
            have HS := Lib.hid hS
            clear q1 q2 q3 htk hlk hOb hS hob
            go_wp2_with (at_builtin; refine append_int rfl _ _ rfl w4.heap.size v0 ((ordT n s m).take (k - 1)) (k - 1) HL (by omega) rfl ho hszB rfl ?_)
            intro v5 w5 ho5 hn5 hb5
            rw [← HS.out] at ho5
            have hB5 := hB.trans hb5
            clear ck ho hb5 hB
            go_wp2_with fail
            go_roundw
            case rel => exact ⟨k + 1, v5, by go_num, rfl, by omega, hn5, hB5, .inr ⟨by omega, by trivial, ho5⟩⟩
            case measure => simp only [intOf]; omega
        · obtain rfl : k = m + 1 := by omega
          have hkm' : decide ((m : Int) + 1 < (m : Int) + 1) = false := by simp
          obtain ⟨hkT, rfl, ho⟩ : T < m + 1 ∧ u9 = .int .i64 T ∧ OwnL wr w4.heap.size v0 (ordT n s m) := by
            rcases hR with ⟨h, _⟩ | ⟨h, e, ho⟩
            · omega
            · refine ⟨h, e, ?_⟩
              rwa [show m + 1 - 1 = m by omega, List.take_of_length_le (by rw [ordT_length]; omega)] at ho
          have t5 : Two wr w1.heap.size (.int .i64 n) (.int .i64 s) 24 := Two.below t4 hB (by omega)
          have t5c := t5.cell0
          have t5d := t5.cell1
          have hT1' : decide ((T : Int) < 1) = false := by simp; omega
          have hTm' : decide ((m : Int) < T) = false := by simp; omega
          have hOr : OwnL wr _ (.slice ga m cap1) (ordT n s m) := hO4.below hB
          have hE5 := (hB.cell (p := ⟨g3, off3 + (T - 1), none⟩) hg3).trans HE4.out
          have hB5 := hB4.trans (hB.mono (by have := hB4.size; omega))
          have hlt5 := t5.lt
          have hsw : w.heap.size ≤ wr.heap.size := hB5.size
          clear hR hB hO4 t4 t4c t4d
          go_wp2_with fail
          refine (kindsOf_any _ _ _ _).mono ?_; rintro e w7 ⟨v7, rfl, hp7, hb7⟩
          have ho7 := OwnL.reads (ho.below hb7)
          have hOr7 := OwnL.reads (hOr.below hb7)
          have hE7 := (hb7.cell (p := ⟨g3, off3 + (T - 1), none⟩) (World.block_lt_of_cell? wr _ hE5)).trans hE5
          have hB7 := hB5.trans (hb7.mono hsw)
          obtain ⟨gd, cap4, rfl, HF0⟩ := (OwnL.reads hp7).cells HK.out
          obtain ⟨g4, off4, rfl, HF⟩ := HF0 hK0
          have hF7 := HF.out (K - 1) (by omega)
          rw [HGr.out] at hF7
          have hsame : ∀ q, Calls Try.prog 25 #[v0, .slice ga m cap1] (w7.drewN q) fun e w' => e = .returned (.bool true) ∧ ∃ p, w' = (w7.drewN q).drewN p := fun q =>
            (sameInts_any v0 (.slice ga m cap1) (ordT n s m) (ordT n s m) (w7.drewN q) (show Reads (w7.drewN q) _ _ from ho7) (show Reads (w7.drewN q) _ _ from hOr7) (by rw [ordT_length]; omega) (by rw [ordT_length]; omega)).mono fun e w' h => ⟨by rw [h.1, decide_eq_true rfl], h.2⟩
          generalize (gapsT n s m).getD (T - 1) 0 = G at *
          have wrT : IntKind.i64.wrap ((T : Int) - 1) = (T : Int) - 1 := IntWalk.i64_in _ (by omega)
          have wrK : IntKind.i64.wrap ((K : Int) - 1) = (K : Int) - 1 := IntWalk.i64_in _ (by omega)
          have tT : ((T : Int) - 1).toNat = T - 1 := by omega
          have tK : ((K : Int) - 1).toNat = K - 1 := by omega
          have T0 : (0 : Int) ≤ (T : Int) - 1 := by omega
          have T2 : (T : Int) - 1 < m := by omega
          have T3 : (1 : Int) ≤ T := by omega
          have T4 : (T : Int) ≤ m := by omega
          have K0 : (0 : Int) ≤ (K : Int) - 1 := by omega
          have K1 : (1 : Int) ≤ K := by omega
          have K2 : (K : Int) - 1 < K := by omega
          have K3 : (0 : Int) < K := by omega
          have K4 : 0 < K := by omega
          have K5 : decide ((0 : Int) < K) = true := by simp; omega
          clear HF HF0 hp7 hb7 ho hOr hE5 hB5 t5 t5c t5d HE4 HD4 HGA HOb HGr HK ho7 hOr7
          go_wp2_with fail
          go_quiet ((go_at_call 25; exact Calls.quiet_of (hsame _)))
          go_wp2
          go_ret
          exact ⟨rfl, below_drewN hB7 _⟩
    · have hfin : orderF n s m = [] ∨ orderF n s (m + 1) = [] := by
        by_cases h1 : tok n s = true ∧ 1 ≤ m ∧ m ≤ n
        · exact .inr (orderF_no fun h2 => h ⟨h1.1, h1.2.1, h2.2.2⟩)
        · exact .inl (orderF_no h1)
      by_cases h1 : tok n s = true ∧ 1 ≤ m ∧ m ≤ n
      · have e2 : orderF n s (m + 1) = [] := orderF_no fun h2 => h ⟨h1.1, h1.2.1, h2.2.2⟩
        obtain ⟨ht, h2, hm⟩ := h1
        have hb := tok_bd ht
        obtain ⟨m, rfl⟩ := Int.eq_ofNat_of_zero_le (by omega : 0 ≤ m)
        rw [orderF_yes ht (by omega) hm] at hp3
        rw [e2] at hq3
        obtain ⟨ga, cap1, rfl, _⟩ := (OwnL.reads hp3).cells (ordT_length n s m)
        obtain ⟨gb, cap2, rfl⟩ := nil_cells (OwnL.reads hq3)
        have hm0 : ((m : Int) == 0) = false := by simp; omega
        clear hp3 hq3 hfin h e2 ht
        go_wp2_with fail
        refine (alive_any _).mono ?_; rintro e w5 ⟨rfl, hb5⟩
        go_wp2
        go_ret
        exact ⟨rfl, hB3.trans (hb5.mono hB3.size)⟩
      · rw [orderF_no h1] at hp3
        obtain ⟨ga, cap1, rfl⟩ := nil_cells (OwnL.reads hp3)
        obtain ⟨gb, cap2, e2, _⟩ := (OwnL.reads hq3).cells rfl
        subst e2
        clear hp3 hq3 hfin h h1
        go_wp2_with fail
        refine (alive_any _).mono ?_; rintro e w5 ⟨rfl, hb5⟩
        go_wp2
        go_ret
        exact ⟨rfl, hB3.trans (hb5.mono hB3.size)⟩

set_option maxRecDepth 100000 in
theorem lifted (os : Os) (started : os.Started) (H : Type) (enc : TypeId × Value → H) :
    ReturnsInHanded {} Try.checked os 11 .any (Rows.fnOrderGrowsSpec.pre6 enc Try.prog Try.f11 Rows.fnOrderGrowsRow.domain false) (Rows.fnOrderGrowsSpec.post enc Try.prog Try.f11 false true false false) := by
  refine returnsInHanded_of_change (C := Try.checked) own started (by kernel_rfl) Try.func11
    (ChangeSpec.witness6 (enc := enc) (C := Try.checked) false ⟨#[], #[.slice none 0 0], []⟩ 8 (by kernel_rfl) (by kernel_rfl) (by kernel_rfl) (by kernel_rfl)) ?_
  intro W base args ds gs before hval0 hW hcnd _
  have hval : ∀ (j : Nat) t v, Try.f11.params[j]? = some t → args[j]? = some v → Value.okWide Try.prog W .any base t v := hval0
  have hW' := hW
  obtain ⟨p, q, hA0, hV, rfl, hfz, hnd⟩ := hW
  have hA : DataW.TrodAll enc Try.prog W 0 (fun _ => true) true Try.f11.params.toList args.toList ds p := hA0
  rw [Try.params11] at hA hval
  obtain ⟨v0, vs0, d0, ds0, p0, q0, hargs, rfl, rfl, h0, r0⟩ := trodAll_cons hA
  obtain ⟨rfl, rfl, rfl⟩ := trodAll_nil r0
  obtain rfl : args = #[v0] := by cases args; simp_all
  obtain ⟨rfl, rfl⟩ := trodVars_none hV
  obtain ⟨acode, lencode, capcode, rfl⟩ := okWide_slice Try.underlying22 (hval 0 22 v0 rfl rfl)
  have k0 := h0
  have lt0 : ∀ x ∈ p0, x.block < W.heap.size := by obtain ⟨m, hm⟩ := k0; exact DataW.trod_lt m _ _ _ hm
  obtain ⟨zcode, rowcode⟩ : ∃ zs, IsRow .u8 W acode lencode capcode zs := by
    obtain ⟨fuel, hf⟩ := h0
    rcases open_ints Try.underlying22 Try.underlying5 (by kernel_rfl) hf with ⟨hcs, _⟩ | ⟨x, l, c, zs, hcs, _, hl, hm, hz, _, hcell, hwz⟩
    · simp [Value.cells] at hcs
      obtain ⟨rfl, rfl, rfl⟩ := hcs
      exact ⟨[], .inl ⟨rfl, rfl, rfl, rfl⟩⟩
    · simp [Value.cells] at hcs
      obtain ⟨rfl, rfl, rfl⟩ := hcs
      exact ⟨zs, .inr ⟨_, rfl, hl, hm, by simpa using hz, hcell, hwz⟩⟩
  clear hA0 hval0
  refine (walk acode lencode capcode zcode W rowcode).mono fun e W' ⟨he, bel⟩ => ?_
  subst he
  exact ⟨_, rfl, _, _, _, [], _, [], hW', trodAll_mk1 (shut_bool Try.underlying4 _), (trodAll_cons_mk (Below.trod laidOut (by kernel_rfl) (of_decide_eq_true (by kernel_rfl)) k0 bel lt0) trodAll_mk0), rfl, bel.frame _, fun h => by cases h⟩

theorem facts : joinedFacts Try.pinned.checked.prog 11 Try.f11 Rows.fnOrderGrowsSpec Rows.fnOrderGrowsRow = true := by
  simp only [joinedFacts, Bool.and_eq_true]
  repeat' apply And.intro
  all_goals first | rw [mayEnter_eq] | (rw [liftsFinal_eq]; kernel_rfl) | (rw [make_eq]; kernel_rfl) | kernel_rfl

theorem over : Rows.fnOrderGrowsRow.holds Try.pinned (OpenSpec.ofChange Rows.fnOrderGrowsSpec) :=
  OpenClaim.holds_of_wide 11 Try.f11 rfl rfl rfl rfl rfl rfl rfl ⟨rfl, rfl, rfl, rfl, rfl⟩ rfl rfl rfl rfl rfl (by kernel_rfl) Try.func11 facts
    (of_decide_eq_true (by kernel_rfl)) (by unfold Func.isWrapper; first | (rw [if_pos (by decide +kernel)]; kernel_rfl) | (rw [if_neg (by decide +kernel)]; exact ⟨rfl, rfl⟩))
    (fun os started H enc _ => lifted os started H enc)

theorem proved : Rows.FnOrderGrowsSaid := over
#print axioms proved
end Go.Proofs.Ytpdnehcaogdjiaa.lawGrows
