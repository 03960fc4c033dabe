/- Proves that FnPatternOf returns true for every code, and leaves the code as it was; the tables of package utf8 that its row lists are tied to the program's text. No conditions. -/
import Derived.Test.YtcfhjkaemhhndaaDoorHead
import Derived.Test.YtcfhjkaemhhndaaDoorBalI
import Derived.Test.YtcfhjkaemhhndaaDoorGSclS
import Derived.Test.YtcfhjkaemhhndaaDoorGScl
import Derived.Test.YtcfhjkaemhhndaaDoorSclI
import Derived.Test.YtcfhjkaemhhndaaDoorFarI
import Derived.Test.YtcfhjkaemhhndaaDoorDrawSc
import Derived.Test.YtcfhjkaemhhndaaDoorGFun2
import Derived.Test.YtcfhjkaemhhndaaDoorLong
import Derived.Test.YtcfhjkaemhhndaaDoorCards
import Derived.Test.YtcfhjkaemhhndaaDoorTie
import Derived.LaidMore
import Derived.Lay
import Derived.SevenTiedAt
import Derived.Stop.Joined
set_option linter.unusedVariables false
namespace Go.Proofs.YtcfhjkaemhhndaaDoor.lawPatternOf

set_option maxRecDepth 4000
open Go.ChangeShapes Go.WideShapes Go.ChangeAt Go.RowKit Go.Joins

theorem one_letter {v : List Bool} {k : Nat} (h : k < v.length) : (txtB v).extract k (k + 1) = txtB [v.getD k false] := by
  rw [txtB_extract, show k + 1 - k = 1 by omega, List.take_one, List.head?_drop, List.getElem?_eq_getElem h, List.getD_eq_getElem?_getD, List.getElem?_eq_getElem h]
  rfl

theorem take_more {v : List Bool} {k : Nat} (h : k < v.length) : v.take (k + 1) = v.take k ++ [v.getD k false] := by
  rw [List.take_add_one, List.getElem?_eq_getElem h, List.getD_eq_getElem?_getD, List.getElem?_eq_getElem h]
  rfl

theorem byte_at {v : List Bool} {k : Nat} (h : k < v.length) : ∃ q : k < (txtB v).size, ((txtB v)[k].toNat : Int) = if v.getD k false then 49 else 48 := by
  have q : k < (txtB v).size := by rw [txtB_size]; exact h
  refine ⟨q, ?_⟩
  rw [txtB_get q]
  cases v.getD k false <;> rfl

/-- all that the law asks, of a scale -/
theorem pat_law {n s m : Int} (h : scaleF n s m = true) : ∃ (K c : Nat) (V : List Bool), patF n s m = V ∧ V.length = K ∧ (K : Int) = m ∧ 2 ≤ K ∧ K ≤ 60 ∧ V.count true = c ∧ c ≤ 60 ∧ patF n (n - s) m = V.reverse ∧ backT n s = (n, n - s) ∧ Bal (V ++ V) ∧
    ((c = 0 ∧ greatF n s m = leastF n s m) ∨ (c ≠ 0 ∧ greatF n s m ≠ leastF n s m ∧ longF n s m (greatF n s m) = c)) := by
  obtain ⟨M, p, q, rfl, ht, h2, hm, _⟩ := scale_nat h
  have hl := patF_len h
  have hle := patF_le n s M
  obtain ⟨o1, o2⟩ := pat_ones h
  refine ⟨M, (patF n s M).count true, patF n s M, rfl, by omega, rfl, h2, by omega, rfl, Nat.le_trans List.count_le_length hle, pat_back h, backT_yes ht, pat_bal h, ?_⟩
  by_cases c : (patF n s M).count true = 0
  · exact .inl ⟨c, o1.1 c⟩
  · refine .inr ⟨c, fun e => c (o1.2 e), ?_⟩
    have hg := gapsF_yes ht (by omega : 1 ≤ M) hm
    unfold longF
    rw [if_neg (by
      intro e
      have e2 := gapsT_length n s M
      rw [← hg, e] at e2
      simp at e2
      omega), o2 c]

set_option maxHeartbeats 8000000 in
theorem walk (a : Option Addr) (len cap : Nat) (z : List Int) (w : World) (row : IsRow .u8 w a len cap z) :
    Calls Tryd.prog 3 #[.slice a len cap] w fun e w' => e = .returned (.bool true) ∧ Below w.heap.size w w' := by
  
  have hc := CodeIn.of row
  clear row
  by_cases hl : 1048576 < len
  · have hl' : (1048576 : Int) < len := by omega
    go_enter Tryd.func3, Tryd.ntmps3
    go_wp2
    go_ret
    exact ⟨rfl, (by repeat (first | exact Below.refl _ _ | assumption | (refine Below.trans ?_ (Below.mono (by assumption) (by first | omega | (simp <;> omega)))) | (refine Below.alloc ?_ (by first | omega | (simp <;> omega)) _) | (refine below_drewN ?_ _) | (refine Below.drew ?_) | (refine Below.setCell ?_ (by first | omega | (simp <;> omega)) _)))⟩
  · have hl' : ¬ (1048576 : Int) < len := by omega
    go_enter Tryd.func3, Tryd.ntmps3
    go_wp2_with fail
    refine (drawPatternOf_any a len cap _ hc (by omega)).mono ?_; rintro e w1 ⟨n, s, m, rfl, n0, n1, k0, k1, hb1⟩
    have hz1 := hb1.size
    try simp at hz1
    go_wp2_with fail
    refine (patternOf_any _ _ _ _).mono ?_; rintro e w2 ⟨rfl, hb2⟩
    have hz2 := hb2.size
    try simp at hz2
    have t2 : Two w2 (w1.heap.size) (.int .i64 n) (.int .i64 s) 24 := Two.below (by repeat (first | assumption | exact Two.new' _ _ _ _ _ (by simp) | refine Two.alloc ?_ _ | refine Two.drewN ?_ _)) hb2 (by first | omega | (simp <;> omega))
    have hlt2 : (w1.heap.size) < w2.heap.size := t2.lt
    have hnt2 : ¬ (w1.heap.size) = w2.heap.size := Nat.ne_of_lt hlt2
    have t2c := t2.cell0
    have t2d := t2.cell1
    have hbq : Hid (((txtB (patF n s m)).toList == (txtB (patF n s m)).toList) = true) := by show _ = _; simp
    go_wp2_with fail
    refine (specPatternOf_any _ _ _ _).mono ?_; rintro e w3 ⟨rfl, hb3⟩
    have hz3 := hb3.size
    try simp at hz3
    have t3 : Two w3 (w1.heap.size) (.int .i64 n) (.int .i64 s) 24 := Two.below (by repeat (first | assumption | exact Two.new' _ _ _ _ _ (by simp) | refine Two.alloc ?_ _ | refine Two.drewN ?_ _)) hb3 (by first | omega | (simp <;> omega))
    have hlt3 : (w1.heap.size) < w3.heap.size := t3.lt
    have hnt3 : ¬ (w1.heap.size) = w3.heap.size := Nat.ne_of_lt hlt3
    have t3c := t3.cell0
    have t3d := t3.cell1
    have hB3 : Below w.heap.size w w3 := (by repeat (first | exact Below.refl _ _ | assumption | (refine Below.trans ?_ (Below.mono (by assumption) (by first | omega | (simp <;> omega)))) | (refine Below.alloc ?_ (by first | omega | (simp <;> omega)) _) | (refine below_drewN ?_ _) | (refine Below.drew ?_) | (refine Below.setCell ?_ (by first | omega | (simp <;> omega)) _)))
    clear hb1 hb2 hb3 hc
    cases h : scaleF n s m with
    | false =>
      have hne := patF_no (n := n) (s := s) (m := m) (by simp [h])
      rw [hne] at hbq ⊢
      rw [txtB_nil] at hbq ⊢
      have hb := hbq.out
      go_wp2_with fail
      refine (scaleOk_any _ _ _ _).mono ?_; rintro e w4 ⟨rfl, hb4⟩
      rw [h]
      have hB4 := hB3.trans (hb4.mono hB3.size)
      go_wp2_with fail
      refine (alive_any _).mono ?_; rintro e w5 ⟨rfl, hb5⟩
      have hB5 := hB4.trans (hb5.mono hB4.size)
      go_wp2
      go_ret
      exact ⟨rfl, hB5⟩
    | true =>
      obtain ⟨K, c, V, hV, hK, hKm, h2, h60, hcn, hc60, hrev, hbk, hbal, hor⟩ := pat_law h
      rw [hV] at hbq ⊢
      have HKm := Lib.hid hKm
      clear hKm
      have hBk := Lib.hid hbk
      have hRev := Lib.hid hrev
      have hbx := hbq.out
      have hemp : (txtB V).toList.isEmpty = false := by
        rw [txtB_toList]
        cases hq : V with
        | nil => rw [hq] at hK; simp at hK; omega
        | cons _ _ => rfl
      have hsz : ((txtB V).size : Int) = K := by rw [txtB_size, hK]
      have HBy : Hid (∀ k, k < K → ∃ q : k < (txtB V).size, ((txtB V)[k].toNat : Int) = if V.getD k false then 49 else 48) := fun k hk => byte_at (by omega)
      have HE : Hid (∀ j, j < K → (txtB V).extract j (j + 1) = txtB [V.getD j false]) := fun j hj => one_letter (by omega)
      have HT : Hid (∀ j, j < K → V.take (j + 1) = V.take j ++ [V.getD j false]) := fun j hj => take_more (by omega)
      have HAll : Hid (V.take K = V) := List.take_of_length_le (by omega)
      have HLen : Hid (∀ j, (V.take j).length ≤ 60) := fun j => by rw [List.length_take]; omega
      have HCnt : Hid (V.count true = c) := hcn
      have HUU : Hid (txtB V ++ txtB V = txtB (V ++ V)) := txtB_append V V
      have HBal : Hid (2 * K ≤ 60 → ∀ w, Calls Tryd.prog 10 #[.string (txtB V ++ txtB V)] w fun e w' => e = .returned (.bool true) ∧ Below w.heap.size w w') := fun q w => by
        rw [HUU.out]
        exact (balancedOk_any (txtB (V ++ V)) w (by rw [txtB_size, List.length_append]; omega)).mono fun e w' ⟨⟨d, h1, h2⟩, h3⟩ => ⟨by
          have e : d = true := h2.2 ((balP_txt (by rw [List.length_append]; omega)).2 hbal)
          rw [h1, e], h3⟩
      have HBz : Hid ((txtB V ++ txtB V).size = 2 * K) := by show _ = _; rw [HUU.out, txtB_size, List.length_append]; omega
      have HR : Hid (((txtB V.reverse).toList == (txtB V.reverse).toList) = true) := by show _ = _; simp
      have hGr := Lib.hid (fun w => greatestGap_any n s m w)
      have hLe := Lib.hid (fun w => leastGap_any n s m w)
      have hLo := Lib.hid (fun w => gapsLong_any n s m (greatF n s m) w)
      unfold IntPost at hLo
      have hBT := Lib.hid (fun w => backTurn_any n s w)
      have hPB := Lib.hid (fun w => patternOf_any n (n - s) m w)
      rw [hrev] at hPB
      unfold StrPost at hPB
      rw [hbk] at hBT
      generalize longF n s m (greatF n s m) = LO at *
      generalize greatF n s m = G at *
      generalize leastF n s m = LE at *
      obtain ⟨U, hU⟩ : ∃ U, txtB V = U := ⟨_, rfl⟩
      rw [hU] at hbq hbx hemp hsz HBy HE HUU HBal HBz ⊢
      clear hV hrev hbk hbal hU hK hcn h t2 t2c t2d hbq
      go_wp2_with fail
      go_loop [6, 7, 8] (fun x y u => ∃ (j : Nat) (B : ByteArray), x = .int .i64 (((V.take j).count true : Nat) : Int) ∧ y = .string B ∧ u = .int .i64 j ∧ j ≤ K ∧ B.size ≤ 60 ∧ Hid (B = txtB (V.take j).reverse)) (fun _ _ u => K - (intOf u).toNat)
      case atStart => exact ⟨0, ⟨#[]⟩, rfl, rfl, rfl, by omega, by decide, rfl⟩
      case round =>
        obtain ⟨j, B, rfl, rfl, rfl, hj, hBs, HB⟩ := hrel
        by_cases hjk : j < K
        · have hjk' : (j : Int) < K := by omega
          obtain ⟨by1, by2⟩ := HBy.out j hjk
          have hT := HT.out j hjk
          have hE := HE.out j hjk
          have hL1 := HLen.out (j + 1)
          have hcb : (V.take j).count true ≤ 60 := Nat.le_trans List.count_le_length (HLen.out j)
          have hs1 : (U.extract j (j + 1)).size = 1 := by rw [hE]; exact txtB_size _
          have hA2 : Hid (U.extract j (j + 1) ++ B = txtB (V.take (j + 1)).reverse) := by
            show _ = _
            rw [HB.out, hE, txtB_append, hT, List.reverse_append]; rfl
          have hA3 : (U.extract j (j + 1) ++ B).size ≤ 60 := by rw [hA2.out, txtB_size, List.length_reverse]; exact hL1
          have hw1 : IntKind.i64.wrap ((j : Int) + 1) = (j : Int) + 1 := IntWalk.i64_in _ (by omega)
          have q0 : (0 : Int) ≤ j := by omega
          have q1 : (j : Int) ≤ (j : Int) + 1 := by omega
          have q2 : (j : Int) + 1 ≤ K := by omega
          have q3 : ((j : Int) + 1).toNat = j + 1 := by omega
          have q4 : (0 : Int) ≤ (j : Int) + 1 := by omega
          cases hv : V.getD j false with
          | true =>
            rw [hv] at by2 hT
            have by3 : (U[j].toNat : Int) = 49 := by2
            have hc2 : (V.take (j + 1)).count true = (V.take j).count true + 1 := by rw [hT, List.count_append]; rfl
            have HC2 := Lib.hid hc2
            have hw2 : IntKind.i64.wrap ((((V.take j).count true : Nat) : Int) + 1) = (((V.take j).count true : Nat) : Int) + 1 := IntWalk.i64_in _ (by omega)
            clear hT hE hL1 by2 hv hc2
            generalize (V.take j).count true = ct at *
            go_wp2_with fail
            go_round
            case rel => exact ⟨j + 1, _, by rw [HC2.out]; go_num, rfl, by go_num, by omega, hA3, hA2.out⟩
            case measure => simp only [intOf]; omega
          | false =>
            rw [hv] at by2 hT
            have by3 : (U[j].toNat : Int) = 48 := by2
            have by4 : ¬ (U[j].toNat : Int) = 49 := by omega
            have by5 : ((U[j].toNat : Int) == 49) = false := by simp; omega
            have hc2 : (V.take (j + 1)).count true = (V.take j).count true := by rw [hT, List.count_append]; rfl
            have HC2 := Lib.hid hc2
            clear hT hE hL1 by2 hv hc2
            generalize (V.take j).count true = ct at *
            go_wp2_with fail
            go_round
            case rel => exact ⟨j + 1, _, by rw [HC2.out], rfl, by go_num, by omega, hA3, hA2.out⟩
            case measure => simp only [intOf]; omega
        · obtain rfl : j = K := by omega
          have hjk' : ¬ (j : Int) < j := by omega
          have eB : B = txtB V.reverse := by rw [HB.out, HAll.out]
          have eC : (V.take j).count true = c := by rw [HAll.out, HCnt.out]
          rw [eC]
          have hr := HR.out
          rw [← eB] at hPB hr
          have hjm : ((j : Int) == m) = true := by simpa using HKm.out
          have hw1 : IntKind.i64.wrap (2 * (j : Int)) = 2 * (j : Int) := IntWalk.i64_in _ (by omega)
          clear HB HAll HCnt HT HE HBy HLen HUU eC eB
          go_wp2_with fail
          refine (hGr.out _).mono ?_; rintro e w4 ⟨rfl, hb4⟩
          have t4 := t3.below hb4 t3.lt
          have t4c := t4.cell0
          have t4d := t4.cell1
          have hB4 := hB3.trans (hb4.mono hB3.size)
          clear t3 t3c t3d hb4 hB3 hGr
          rcases hor with ⟨cz, ge⟩ | ⟨cz, ge, lo⟩
          · have cz' : ((c : Int) == 0) = true := by simp; omega
            have ge' : (G == LE) = true := by simpa using ge
            clear cz ge
            by_cases big : 60 < 2 * (j : Int)
            · skip
              go_wp2_with fail
              refine (hLe.out _).mono ?_; rintro e w5 ⟨rfl, hb5⟩
              have t5 := (t4).below hb5 (t4).lt
              have t5c := (t5).cell0
              have t5d := (t5).cell1
              have hB5 := hB4.trans (hb5.mono hB4.size)
              clear hb5 t4c t4d
              go_wp2_with fail
              refine (hBT.out _).mono ?_; rintro e w6 ⟨rfl, hb6⟩
              have t6 := (t5).below hb6 (t5).lt
              have t6c := (t6).cell0
              have t6d := (t6).cell1
              have hB6 := hB5.trans (hb6.mono hB5.size)
              clear hb6 t5c t5d
              go_wp2_with fail
              refine (hPB.out _).mono ?_; rintro e w7 ⟨rfl, hb7⟩
              have t7 := (t6).below hb7 (t6).lt
              have t7c := (t7).cell0
              have t7d := (t7).cell1
              have hB7 := hB6.trans (hb7.mono hB6.size)
              clear hb7 t6c t6d
              go_wp2
              go_ret
              exact ⟨rfl, hB7⟩
            · have big' : decide (60 < 2 * (j : Int)) = false := decide_eq_false big
              have hbc := HBal.out (by omega)
              have hbz := HBz.out
              go_wp2_with fail
              refine (hbc _).mono ?_; rintro e w5 ⟨rfl, hb5⟩
              have t5 := (t4).below hb5 (t4).lt
              have t5c := (t5).cell0
              have t5d := (t5).cell1
              have hB5 := hB4.trans (hb5.mono hB4.size)
              clear hb5 t4c t4d
              go_wp2_with fail
              refine (hLe.out _).mono ?_; rintro e w6 ⟨rfl, hb6⟩
              have t6 := (t5).below hb6 (t5).lt
              have t6c := (t6).cell0
              have t6d := (t6).cell1
              have hB6 := hB5.trans (hb6.mono hB5.size)
              clear hb6 t5c t5d
              go_wp2_with fail
              refine (hBT.out _).mono ?_; rintro e w7 ⟨rfl, hb7⟩
              have t7 := (t6).below hb7 (t6).lt
              have t7c := (t7).cell0
              have t7d := (t7).cell1
              have hB7 := hB6.trans (hb7.mono hB6.size)
              clear hb7 t6c t6d
              go_wp2_with fail
              refine (hPB.out _).mono ?_; rintro e w8 ⟨rfl, hb8⟩
              have t8 := (t7).below hb8 (t7).lt
              have t8c := (t8).cell0
              have t8d := (t8).cell1
              have hB8 := hB7.trans (hb8.mono hB7.size)
              clear hb8 t7c t7d
              go_wp2
              go_ret
              exact ⟨rfl, hB8⟩
          · have cz' : ((c : Int) == 0) = false := by simp; omega
            have ge' : (G == LE) = false := by simpa using ge
            have lo' : ((c : Int) == LO) = true := by simp; omega
            clear cz ge lo
            by_cases big : 60 < 2 * (j : Int)
            · skip
              go_wp2_with fail
              refine (hLe.out _).mono ?_; rintro e w5 ⟨rfl, hb5⟩
              have t5 := (t4).below hb5 (t4).lt
              have t5c := (t5).cell0
              have t5d := (t5).cell1
              have hB5 := hB4.trans (hb5.mono hB4.size)
              clear hb5 t4c t4d
              go_wp2_with fail
              refine (hLo.out _).mono ?_; rintro e w6 ⟨rfl, hb6⟩
              have t6 := (t5).below hb6 (t5).lt
              have t6c := (t6).cell0
              have t6d := (t6).cell1
              have hB6 := hB5.trans (hb6.mono hB5.size)
              clear hb6 t5c t5d
              go_wp2_with fail
              refine (hBT.out _).mono ?_; rintro e w7 ⟨rfl, hb7⟩
              have t7 := (t6).below hb7 (t6).lt
              have t7c := (t7).cell0
              have t7d := (t7).cell1
              have hB7 := hB6.trans (hb7.mono hB6.size)
              clear hb7 t6c t6d
              go_wp2_with fail
              refine (hPB.out _).mono ?_; rintro e w8 ⟨rfl, hb8⟩
              have t8 := (t7).below hb8 (t7).lt
              have t8c := (t8).cell0
              have t8d := (t8).cell1
              have hB8 := hB7.trans (hb8.mono hB7.size)
              clear hb8 t7c t7d
              go_wp2
              go_ret
              exact ⟨rfl, hB8⟩
            · have big' : decide (60 < 2 * (j : Int)) = false := decide_eq_false big
              have hbc := HBal.out (by omega)
              have hbz := HBz.out
              go_wp2_with fail
              refine (hbc _).mono ?_; rintro e w5 ⟨rfl, hb5⟩
              have t5 := (t4).below hb5 (t4).lt
              have t5c := (t5).cell0
              have t5d := (t5).cell1
              have hB5 := hB4.trans (hb5.mono hB4.size)
              clear hb5 t4c t4d
              go_wp2_with fail
              refine (hLe.out _).mono ?_; rintro e w6 ⟨rfl, hb6⟩
              have t6 := (t5).below hb6 (t5).lt
              have t6c := (t6).cell0
              have t6d := (t6).cell1
              have hB6 := hB5.trans (hb6.mono hB5.size)
              clear hb6 t5c t5d
              go_wp2_with fail
              refine (hLo.out _).mono ?_; rintro e w7 ⟨rfl, hb7⟩
              have t7 := (t6).below hb7 (t6).lt
              have t7c := (t7).cell0
              have t7d := (t7).cell1
              have hB7 := hB6.trans (hb7.mono hB6.size)
              clear hb7 t6c t6d
              go_wp2_with fail
              refine (hBT.out _).mono ?_; rintro e w8 ⟨rfl, hb8⟩
              have t8 := (t7).below hb8 (t7).lt
              have t8c := (t8).cell0
              have t8d := (t8).cell1
              have hB8 := hB7.trans (hb8.mono hB7.size)
              clear hb8 t7c t7d
              go_wp2_with fail
              refine (hPB.out _).mono ?_; rintro e w9 ⟨rfl, hb9⟩
              have t9 := (t8).below hb9 (t8).lt
              have t9c := (t9).cell0
              have t9d := (t9).cell1
              have hB9 := hB8.trans (hb9.mono hB8.size)
              clear hb9 t8c t8d
              go_wp2
              go_ret
              exact ⟨rfl, hB9⟩
set_option maxRecDepth 100000 in
theorem lifted (os : Os) (started : os.Started) (H : Type) (enc : TypeId × Value → H) :
    ReturnsInHanded {} Tryd.checked os 3 .any (fun w args => (Rows.fnPatternOfSpec.pre enc Tryd.prog Tryd.f3 Rows.fnPatternOfRow.domain false w args ∧ laidMetH Tryd.prog Rows.fnPatternOfRow.laid w) ∧ sizedMet enc Tryd.prog Tryd.f3 (OpenSpec.ofChange Rows.fnPatternOfSpec) false w args) (Rows.fnPatternOfSpec.post enc Tryd.prog Tryd.f3 false true false false) := by
  refine returnsInHanded_of_change_and (C := Tryd.checked) (X := fun w _ => laidMetH Tryd.prog Rows.fnPatternOfRow.laid w) (fun _ _ _ hh h => h.of_heap hh) own started (by kernel_rfl) Tryd.func3
    (ChangeSpec.witness_shaped (enc := enc) (C := Tryd.checked) (os := os) (X := fun w _ => laidMetH Tryd.prog Rows.fnPatternOfRow.laid w) false (World.laidAll Tryd.prog os Rows.fnPatternOfRow.laid) #[.slice none 0 0] 8 (World.laidAll_os _ _ _)
      (World.shaped_of_ZipB (by kernel_rfl) (by kernel_rfl)) (by kernel_rfl) (by kernel_rfl) (by kernel_rfl)
      (by rw [MakeChecks.laidMetH_plain _ _ _ (by kernel_rfl)]; exact laidMet_laidAll _ (by kernel_rfl) (by kernel_rfl))) ?_
  intro W base args ds gs before hval0 hW hcnd _ hL _
  have hval : ∀ (j : Nat) t v, Tryd.f3.params[j]? = some t → args[j]? = some v → Value.okWide Tryd.prog W .any base t v := hval0
  have hW' := hW
  obtain ⟨p, q, hA0, hV, rfl, hfz, hnd⟩ := hW
  have hA : DataW.TrodAll enc Tryd.prog W 0 (fun _ => true) true Tryd.f3.params.toList args.toList ds p := hA0
  rw [Tryd.params3] at hA hval
  obtain ⟨v0, vs0, d0, ds0, p0, q0, hargs, rfl, rfl, h0, r0⟩ := trodAll_cons hA
  obtain ⟨rfl, rfl, rfl⟩ := trodAll_nil r0
  obtain rfl : args = #[v0] := by cases args; simp_all
  obtain ⟨rfl, rfl⟩ := trodVars_none hV
  obtain ⟨acode, lencode, capcode, rfl⟩ := okWide_slice Tryd.underlying22 (hval 0 22 v0 rfl rfl)
  have k0 := h0
  have lt0 : ∀ x ∈ p0, x.block < W.heap.size := by obtain ⟨m, hm⟩ := k0; exact DataW.trod_lt m _ _ _ hm
  obtain ⟨zcode, rowcode⟩ : ∃ zs, IsRow .u8 W acode lencode capcode zs := by
    obtain ⟨fuel, hf⟩ := h0
    rcases open_ints Tryd.underlying22 Tryd.underlying5 (by kernel_rfl) hf with ⟨hcs, _⟩ | ⟨x, l, c, zs, hcs, _, hl, hm, hz, _, hcell, hwz⟩
    · simp [Value.cells] at hcs
      obtain ⟨rfl, rfl, rfl⟩ := hcs
      exact ⟨[], .inl ⟨rfl, rfl, rfl, rfl⟩⟩
    · simp [Value.cells] at hcs
      obtain ⟨rfl, rfl, rfl⟩ := hcs
      exact ⟨zs, .inr ⟨_, rfl, hl, hm, by simpa using hz, hcell, hwz⟩⟩
  clear hA0 hval0
  refine (walk acode lencode capcode zcode W rowcode).mono fun e W' ⟨he, bel⟩ => ?_
  subst he
  exact ⟨_, rfl, _, _, _, [], _, [], hW', trodAll_mk1 (shut_bool Tryd.underlying4 _), (trodAll_cons_mk (Below.trod laidOut (by kernel_rfl) (of_decide_eq_true (by kernel_rfl)) k0 bel lt0) trodAll_mk0), rfl, bel.frame _, fun h => by cases h⟩

theorem facts : joinedFacts Tryd.pinned.checked.prog 3 Tryd.f3 Rows.fnPatternOfSpec Rows.fnPatternOfRow = true := by
  simp only [joinedFacts, Bool.and_eq_true]
  repeat' apply And.intro
  all_goals first | rw [mayEnter_eq] | (rw [liftsFinal_eq]; kernel_rfl) | (rw [make_eq]; kernel_rfl) | kernel_rfl

theorem over : Rows.fnPatternOfRow.holds Tryd.pinned (OpenSpec.ofChange Rows.fnPatternOfSpec) :=
  OpenClaim.holds_of_wide 3 Tryd.f3 rfl rfl rfl rfl rfl rfl rfl ⟨rfl, rfl, rfl, rfl, rfl⟩ rfl rfl rfl rfl rfl (by kernel_rfl) Tryd.func3 facts
    (of_decide_eq_true (by kernel_rfl)) (by unfold Func.isWrapper; first | (rw [if_pos (by decide +kernel)]; kernel_rfl) | (rw [if_neg (by decide +kernel)]; exact ⟨rfl, rfl⟩))
    (fun os started H enc _ => lifted os started H enc)

theorem proved : Rows.FnPatternOfCardSaid :=
  Claim7.holds_tied_plain_at .later [] [.data, .pinned] true (true, "ac26915ada12c003404481de6f0bf2d78d6dcac8041d4504485304e6660ba2d7") false over (fun _ h => by cases h) (by kernel_rfl) (fun _ h => by cases h) fnPatternOf_row_tie rfl ⟨rfl, rfl⟩ (by kernel_rfl) rfl
    (fun f fn hf hfn => by
      obtain rfl : f = 3 := Option.some.inj ((show Tryd.prog.funcNamed Rows.fnPatternOfRow.func = some 3 by kernel_rfl).symm.trans hf) |>.symm
      obtain rfl : fn = Tryd.f3 := (Option.some.inj (Tryd.func3.symm.trans hfn)).symm
      exact ⟨by kernel_rfl, fun j t ht => by
        rw [Tryd.params3] at ht
        have hm : t ∈ [22] := by simpa using Array.mem_of_getElem? ht
        have hall : ([22].all fun u => !Tryd.prog.wantsStandIn u) = true := by kernel_rfl
        exact (show Tryd.prog.wantsStandIn t = false by simpa using List.all_eq_true.1 hall t hm)⟩)
    (by kernel_rfl)
#print axioms proved
end Go.Proofs.YtcfhjkaemhhndaaDoor.lawPatternOf
