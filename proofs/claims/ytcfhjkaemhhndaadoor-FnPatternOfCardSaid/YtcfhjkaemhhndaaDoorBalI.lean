/- Contract of the program's BalancedOk. -/
import Derived.Test.YtcfhjkaemhhndaaDoorGOk
import Derived.Test.YtcfhjkaemhhndaaDoorGTrim
import Derived.Test.YtcfhjkaemhhndaaDoorOne
set_option linter.unusedVariables false
namespace Go.Proofs.YtcfhjkaemhhndaaDoor

set_option maxRecDepth 4000
open Go.ChangeShapes Go.WideShapes Go.ChangeAt Go.RowKit Go.Joins

set_option maxHeartbeats 1000000 in
theorem window_any (v : List Bool) (U : ByteArray) (hU : U = txtB v) (f l : Nat) (h : f + l ≤ v.length) (hv : v.length ≤ 60) (a b : Nat) (w : World) (ha : w.cell? ⟨a, 0, none⟩ = some (.string U)) (hb : w.cell? ⟨b, 0, none⟩ = some (.int .i64 l)) :
    Calls Tryd.prog 42 #[.int .i64 f, .pointer (some ⟨a, 0, none⟩), .pointer (some ⟨b, 0, none⟩)] w fun e w' => e = .returned (.int .i64 (winO v f l : Nat)) ∧ w = w' := by
  have hz : U.size = v.length := by rw [hU, txtB_size]
  have hwf : IntKind.i64.wrap ((f : Int) + l) = (f : Int) + l := IntWalk.i64_in _ (by omega)
  have h0 : (0 : Int) ≤ f := by omega
  have h1 : (f : Int) ≤ (f : Int) + l := by omega
  have h2 : (f : Int) + l ≤ U.size := by omega
  have h3 : (0 : Int) ≤ (f : Int) + l := by omega
  have h4 : ((f : Int) + l).toNat = f + l := by omega
  have hc := countOnes_any (U.extract f (f + l)) w
  have e : Lib.countByte (U.extract f (f + l)).data.toList 49 = winO v f l := by
    rw [hU, txtB_extract, count_txt, show f + l - f = l by omega]; rfl
  rw [e] at hc
  clear e hU hz h
  go_enter Tryd.func42, Tryd.ntmps42
  go_wp2_with fail
  refine hc.mono ?_; rintro e w1 ⟨rfl, rfl⟩
  go_wp2
  go_ret
  exact ⟨rfl, rfl⟩

set_option maxHeartbeats 2000000 in
theorem partsBalanced_any (v : List Bool) (U : ByteArray) (hU : U = txtB v) (l : Nat) (hl1 : 1 ≤ l) (h : l ≤ v.length) (hv : v.length ≤ 60) (w : World) :
    Calls Tryd.prog 28 #[.string U, .int .i64 l] w fun e w' => e = .returned (.bool (decide (mostW v l (v.length + 1 - l) ≤ leastW v l (v.length + 1 - l) + 1))) ∧ Below w.heap.size w w' := by
  have hz : U.size = v.length := by rw [hU, txtB_size]
  obtain ⟨n, hn⟩ : ∃ n, v.length = n := ⟨_, rfl⟩
  have HW := Lib.hid (fun (f : Nat) (h : f + l ≤ v.length) (a b : Nat) (w : World) ha hb => window_any v U hU f l h hv a b w ha hb)
  have HN := Lib.hid hn
  rw [hn] at hz h hv HW ⊢
  have hzn : (U.size : Int) = n := by omega
  have hzN : U.size = n := hz
  clear hz hU hn
  have o1 := (One.new w (.string U) 9).alloc (.cells #[.int .i64 l] 3)
  have o2 : One ((w.alloc (.cells #[.string U] 9)).alloc (.cells #[.int .i64 l] 3)) (w.heap.size + 1) (.int .i64 l) 3 := by
    have h := One.new (w.alloc (.cells #[.string U] 9)) (.int .i64 l) 3
    have e : (w.alloc (.cells #[.string U] 9)).heap.size = w.heap.size + 1 := by simp
    rwa [e] at h
  have hB : Below w.heap.size w ((w.alloc (.cells #[.string U] 9)).alloc (.cells #[.int .i64 l] 3)) := (by repeat (first | exact Below.refl _ _ | assumption | (refine Below.trans ?_ (Below.mono (by assumption) (by first | omega | (simp <;> omega)))) | (refine Below.alloc ?_ (by first | omega | (simp <;> omega)) _) | (refine below_drewN ?_ _) | (refine Below.drew ?_) | (refine Below.setCell ?_ (by first | omega | (simp <;> omega)) _)))
  have p1 := o1.cell
  have p2 := o2.cell
  clear o1 o2
  have hA1 : leastW v l 1 = winO v 0 l := by
    have h1 : leastW v l 1 = min (leastW v l 0) (winO v 0 l) := leastW_succ v l 0
    have h2 : leastW v l 0 = v.length := rfl
    have h3 := winO_le v 0 l
    rw [h2, HN.out] at h1
    omega
  have hB1 : mostW v l 1 = winO v 0 l := by
    have h1 : mostW v l 1 = max (mostW v l 0) (winO v 0 l) := mostW_succ v l 0
    have h2 : mostW v l 0 = 0 := rfl
    omega
  have HA1 := Lib.hid hA1
  have HB1 := Lib.hid hB1
  clear hA1 hB1
  go_enter Tryd.func28, Tryd.ntmps28
  go_wp2_with fail
  refine (HW.out 0 (by omega) _ _ _ p1 p2).mono ?_; rintro e w1 ⟨rfl, rfl⟩
  go_wp2_with fail
  refine (HW.out 0 (by omega) _ _ _ p1 p2).mono ?_; rintro e w1 ⟨rfl, rfl⟩
  generalize ((w.alloc (.cells #[.string U] 9)).alloc (.cells #[.int .i64 l] 3)) = W at *
  go_wp2_with fail
  go_loop [6, 7, 8] (fun a b c => ∃ f : Nat, a = .int .i64 (leastW v l f : Nat) ∧ b = .int .i64 (mostW v l f : Nat) ∧ c = .int .i64 f ∧ 1 ≤ f ∧ f + l ≤ n + 1) (fun _ _ c => n + 1 - (intOf c).toNat)
  case atStart => exact ⟨1, by rw [HA1.out], by rw [HB1.out], rfl, by omega, by omega⟩
  case round =>
    obtain ⟨f, rfl, rfl, rfl, hf1, hf⟩ := hrel
    by_cases hfl : f + l ≤ n
    · have hfl' : (f : Int) + l ≤ n := by omega
      have hwf : IntKind.i64.wrap ((f : Int) + l) = (f : Int) + l := IntWalk.i64_in _ (by omega)
      have hA := leastW_succ v l f
      have hB := mostW_succ v l f
      have HA := Lib.hid hA
      have HBm := Lib.hid hB
      clear hA hB
      go_wp2_with fail
      refine (HW.out f hfl _ _ _ p1 p2).mono ?_; rintro e w1 ⟨rfl, rfl⟩
      go_wp2_with fail
      refine (HW.out f hfl _ _ _ p1 p2).mono ?_; rintro e w1 ⟨rfl, rfl⟩
      have hC := HA.out
      have hD := HBm.out
      generalize winO v f l = C at *
      generalize leastW v l f = A at *
      generalize mostW v l f = B at *
      have E1 := Lib.hid (show (min (A : Int) C) = ((leastW v l (f + 1) : Nat) : Int) by rw [hC]; omega)
      have E2 := Lib.hid (show (max (B : Int) C) = ((mostW v l (f + 1) : Nat) : Int) by rw [hD]; omega)
      clear hC hD
      go_wp2_with fail
      go_round
      case rel => exact ⟨f + 1, by rw [← E1.out], by rw [← E2.out], by go_num, by omega, by omega⟩
      case measure => simp only [intOf]; omega
    · have hfl' : ¬ (f : Int) + l ≤ n := by omega
      have hwf : IntKind.i64.wrap ((f : Int) + l) = (f : Int) + l := IntWalk.i64_in _ (by omega)
      obtain rfl : f = n + 1 - l := by omega
      have hAb := leastW_bd v l (n + 1 - l)
      have hBb := mostW_bd v l (n + 1 - l)
      rw [HN.out] at hAb
      obtain ⟨A, hAe⟩ : ∃ A, leastW v l (n + 1 - l) = A := ⟨_, rfl⟩
      obtain ⟨B, hBe⟩ : ∃ B, mostW v l (n + 1 - l) = B := ⟨_, rfl⟩
      have HR := Lib.hid (show decide ((B : Int) - A ≤ 1) = decide (mostW v l (n + 1 - l) ≤ leastW v l (n + 1 - l) + 1) by rw [hAe, hBe]; exact decide_eq_decide.2 (by omega))
      rw [hAe] at hAb ⊢
      rw [hBe] at hBb ⊢
      clear hAe hBe
      have hwd : IntKind.i64.wrap ((B : Int) - A) = (B : Int) - A := IntWalk.i64_in _ (by omega)
      go_wp2
      go_ret
      exact ⟨ret_bool HR.out, hB⟩

set_option maxHeartbeats 2000000 in
theorem balancedOk_any (u : ByteArray) (w : World) (hu : u.size ≤ 2000000) :
    Calls Tryd.prog 10 #[.string u] w fun e w' => BalPost u e ∧ Below w.heap.size w w' := by
  have hk := codeOk_any u w hu
  by_cases hP : CodeP u
  · obtain ⟨v, hv, rfl⟩ := codeP_bits hP
    have hk' := hk.mono (R' := fun e w' => e = .returned (.bool true) ∧ Below w.heap.size w w') (fun e w' ⟨⟨c, h1, h2⟩, h3⟩ => ⟨by rw [h1, h2.2 hP], h3⟩)
    clear hk hP hu
    have hz : (txtB v).size = v.length := txtB_size v
    obtain ⟨n, hn⟩ : ∃ n, v.length = n := ⟨_, rfl⟩
    have hzn : ((txtB v).size : Int) = n := by rw [hz, hn]
    have HN := Lib.hid hn
    have HB := Lib.hid (balP_txt hv)
    obtain ⟨U, hU⟩ : ∃ U, txtB v = U := ⟨_, rfl⟩
    have HW := Lib.hid (fun (l : Nat) (h1 : 1 ≤ l) (h2 : l ≤ v.length) (w : World) => partsBalanced_any v U hU.symm l h1 h2 hv w)
    rw [hn] at hv HW
    rw [hU] at hk' hzn HB ⊢
    clear hU hn hz
    go_enter Tryd.func10, Tryd.ntmps10
    go_wp2_with fail
    refine hk'.mono ?_; rintro e w1 ⟨rfl, hb1⟩
    clear hk'
    go_wp2_with fail
    go_loopw [3] (fun x wr => ∃ l : Nat, x = .int .i64 l ∧ 1 ≤ l ∧ l ≤ n + 1 ∧ Hid (EvenTo v l) ∧ Below w.heap.size w wr) (fun x _ => n + 1 - (intOf x).toNat)
    case atStart => exact ⟨1, rfl, by omega, by omega, fun k h1 h2 => by omega, hb1⟩
    case round =>
      obtain ⟨l, rfl, hl1, hl2, hE, hBl⟩ := hrel
      clear hb1
      by_cases hln : l < n
      · have hln' : (l : Int) < n := by omega
        have HE2 := Lib.hid (fun h => EvenTo.next (v := v) (l := l) hE.out h)
        have HE3 := Lib.hid (fun h : Bal v => (bal_iff v).1 h l hl1 (by rw [HN.out]; omega))
        rw [HN.out] at HE2 HE3
        go_wp2_with fail
        refine (HW.out l hl1 (by omega) _).mono ?_; rintro e w2 ⟨rfl, hb2⟩
        have hB2 := hBl.trans (hb2.mono hBl.size)
        clear hb2 hBl
        by_cases hev : mostW v l (n + 1 - l) ≤ leastW v l (n + 1 - l) + 1
        · have HE := Lib.hid (HE2.out hev)
          rw [decide_eq_true hev]
          go_wp2_with fail
          go_roundw
          case rel => exact ⟨l + 1, by go_num, by omega, by omega, HE.out, hB2⟩
          case measure => simp only [intOf]; omega
        · have HX := Lib.hid (show ¬ BalP U from fun h => hev (HE3.out (HB.out.1 h)))
          rw [decide_eq_false hev]
          go_wp2
          go_ret
          exact ⟨⟨_, rfl, by simp; exact HX.out⟩, hB2⟩
      · have hln' : ¬ (l : Int) < n := by omega
        have hbal : Bal v := by
          by_cases c : v.length < l
          · exact hE.out.bal c
          · have e : v.length = l := by have := HN.out; omega
            refine (hE.out.next ?_).bal (by omega)
            have h1 : v.length + 1 - l = 1 := by omega
            rw [h1]
            have a1 : leastW v l 1 = min (leastW v l 0) (winO v 0 l) := leastW_succ v l 0
            have a2 : leastW v l 0 = v.length := rfl
            have b1 : mostW v l 1 = max (mostW v l 0) (winO v 0 l) := mostW_succ v l 0
            have b2 : mostW v l 0 = 0 := rfl
            have c1 := winO_le v 0 l
            omega
        have HX := Lib.hid (show BalP U from HB.out.2 hbal)
        clear hbal
        go_wp2
        go_ret
        exact ⟨⟨_, rfl, by simp; exact HX.out⟩, hBl⟩
  · have HX := Lib.hid (show ¬ BalP u from fun h => hP (balP_code h))
    have hk' := hk.mono (R' := fun e w' => e = .returned (.bool false) ∧ Below w.heap.size w w') (fun e w' ⟨⟨c, h1, h2⟩, h3⟩ => ⟨by
      cases c with
      | true => exact absurd (h2.1 rfl) hP
      | false => exact h1, h3⟩)
    clear hk hP
    go_enter Tryd.func10, Tryd.ntmps10
    go_wp2_with fail
    refine hk'.mono ?_; rintro e w2 ⟨rfl, hb2⟩
    go_wp2
    go_ret
    exact ⟨⟨_, rfl, by simp; exact HX.out⟩, hb2⟩
end Go.Proofs.YtcfhjkaemhhndaaDoor
