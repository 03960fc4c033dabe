/- Contracts of TurnedPairs, of the program and of the model. -/
import Derived.Test.YtpdnehcaogdjiaaCnt
set_option linter.unusedVariables false
namespace Go.Proofs.Ytpdnehcaogdjiaa
open Go.ChangeShapes Go.WideShapes Go.ChangeAt Go.RowKit Go.Joins N

def turnedF (xs : List Int) : Int := if xs.length ≤ 60 then (invL xs : Nat) else -1

theorem turnedF_yes {xs : List Int} (h : xs.length ≤ 60) : turnedF xs = (invL xs : Nat) := if_pos h

theorem turnedF_no {xs : List Int} (h : ¬ xs.length ≤ 60) : turnedF xs = -1 := if_neg h

theorem invL_drop {xs : List Int} {k : Nat} (h : k < xs.length) : invL (xs.drop k) = cntB (xs.drop (k + 1)) (xs.getD k 0) + invL (xs.drop (k + 1)) := by
  rw [List.drop_eq_getElem_cons h, List.getD_eq_getElem?_getD, List.getElem?_eq_getElem h]
  rfl

theorem inv60 {xs : List Int} (h : xs.length ≤ 60) : invL xs ≤ 3600 := by
  have := inv_le xs
  have : xs.length * xs.length ≤ 60 * 60 := Nat.mul_le_mul h h
  omega

set_option maxHeartbeats 1000000 in
theorem turned_any (v : Value) (xs : List Int) (b : Nat) (w : World) (ho : OwnL w b v xs) (hx : xs.length ≤ 2000000) :
    Calls Try.prog 40 #[v] w fun e w' => e = .returned (.int .i64 (turnedF xs)) ∧ w = w' := by
  obtain ⟨N, hN⟩ : ∃ N, xs.length = N := ⟨_, rfl⟩
  by_cases h60 : xs.length ≤ 60
  · rw [turnedF_yes h60]
    have HI := Lib.hid (inv60 h60)
    rw [hN] at h60 hx
    have h60' : ¬ (60 : Int) < N := by omega
    by_cases h0 : N = 0
    · subst h0
      obtain ⟨a, cap, rfl, _⟩ := (OwnL.reads ho).cells hN
      obtain rfl := nil_of_len hN
      clear ho hN
      go_enter Try.func40, Try.ntmps40
      go_wp2_with fail
      go_loop [3, 11] (fun y i => y = .int .i64 0 ∧ i = .int .i64 0) (fun _ _ => 0)
      case atStart => exact ⟨rfl, rfl⟩
      case round =>
        obtain ⟨rfl, rfl⟩ := hrel
        go_wp2
        go_ret
        exact ⟨rfl, rfl⟩
    · obtain ⟨g, cap, cur, rfl, hbg, hr, hs, hn, hm, hc⟩ := ho.row hN (ho.some_of_len (by omega))
      have HC : Hid (∀ j, j < N → w.cell? ⟨g, j, none⟩ = some (.int .i64 (xs.getD j 0))) := fun j hj => (hr.cell j).trans (hc j hj)
      have HN := Lib.hid hN
      have HM := Lib.hid hm
      clear ho hN hr hs hm hc
      go_enter Try.func40, Try.ntmps40
      go_wp2_with fail
      go_loop [3, 11] (fun y i => ∃ k p : Nat, i = .int .i64 k ∧ y = .int .i64 p ∧ k ≤ N ∧ p ≤ 3600 ∧ Hid (p + invL (xs.drop k) = invL xs)) (fun _ i => N - (intOf i).toNat)
      case atStart => exact ⟨0, 0, rfl, rfl, by omega, by omega, by show _ = _; simp⟩
      case round =>
        obtain ⟨k, p, rfl, rfl, hk, hp, HP⟩ := hrel
        by_cases hkm : k < N
        · have hkm' : (k : Int) < N := by omega
          have ck := HC.out k hkm
          have hD := invL_drop (xs := xs) (k := k) (by rw [HN.out]; exact hkm)
          have hcl := cntB_le (xs.drop (k + 1)) (xs.getD k 0)
          rw [List.length_drop, HN.out] at hcl
          have hL : (xs.drop (k + 1)).length = N - (k + 1) := by rw [List.length_drop, HN.out]
          have HR : Hid (∀ a c, (N - (k + 1) ≠ 0 → a = some ⟨g, k + 1, none⟩) → Reads w (.slice a (N - (k + 1)) c) (xs.drop (k + 1))) := fun a c ha => by
            refine ⟨a, c, by rw [hL], fun hne => ?_⟩
            have h1 : N - (k + 1) ≠ 0 := fun e => hne (nil_of_len (hL.trans e))
            refine ⟨g, k + 1, ha h1, fun i hi => ?_⟩
            rw [hL] at hi
            rw [HC.out (k + 1 + i) (by omega)]
            simp [List.getD_eq_getElem?_getD]
          generalize xs.getD k 0 = X at *
          have HL := Lib.hid hL
          obtain ⟨c, hc⟩ : ∃ c, cntB (xs.drop (k + 1)) X = c := ⟨_, rfl⟩
          rw [hc] at hD hcl
          have hp2 := HP.out
          have hi2 := HI.out
          rw [hD] at hp2
          have HP2 : Hid (p + c + invL (xs.drop (k + 1)) = invL xs) := by show _ = _; omega
          have hpc : p + c ≤ 3600 := by omega
          have HCN := Lib.hid hc
          have e1 : ((k : Int) + 1) ≤ N := by omega
          have e0 : (0 : Int) ≤ (k : Int) + 1 := by omega
          have e2 : ((k : Int) + 1).toNat = k + 1 := by omega
          have e3 : IntKind.i64.wrap ((p : Int) + c) = (p : Int) + c := IntWalk.i64_in _ (by omega)
          have e4 : (N : Int) ≤ cap := by omega
          have e5 : (k : Int) + 1 ≤ cap := by omega
          clear hL hc hp2 hi2 hD HP
          by_cases hcj : cap = k + 1
          · go_wp2_with fail
            refine (countBelow_any _ (xs.drop (k + 1)) X _ (HR.out _ _ (by first | (intro _; rfl) | (intro h; exfalso; omega))) (by rw [HL.out]; omega)).mono ?_
            rintro e w2 ⟨rfl, rfl⟩
            rw [HCN.out]
            rw [← hcj]
            clear hcj HR ck
            go_wp2_with fail
            go_round
            case rel => exact ⟨k + 1, p + c, by go_num, by go_num, by omega, by omega, HP2.out⟩
            case measure => simp only [intOf]; omega
          · go_wp2_with fail
            refine (countBelow_any _ (xs.drop (k + 1)) X _ (HR.out _ _ (by first | (intro _; rfl) | (intro h; exfalso; omega))) (by rw [HL.out]; omega)).mono ?_
            rintro e w2 ⟨rfl, rfl⟩
            rw [HCN.out]
            clear HR ck
            go_wp2_with fail
            go_round
            case rel => exact ⟨k + 1, p + c, by go_num, by go_num, by omega, by omega, HP2.out⟩
            case measure => simp only [intOf]; omega
        · obtain rfl : k = N := by omega
          have hkm' : decide ((k : Int) < k) = false := by simp
          have HF : Hid (invL xs = p) := by
            have h := HP.out
            rw [List.drop_of_length_le (by rw [HN.out]; omega)] at h
            show _ = _
            have e0 : invL [] = 0 := rfl
            omega
          clear HC
          go_wp2
          go_ret
          exact ⟨ret_int (by rw [HF.out]), rfl⟩
  · rw [turnedF_no h60]
    obtain ⟨a, cap, rfl, _⟩ := (OwnL.reads ho).cells hN
    have h60' : (60 : Int) < N := by omega
    clear ho hN h60
    go_enter Try.func40, Try.ntmps40
    go_wp2
    go_ret
    exact ⟨rfl, rfl⟩

/-- how many numbers of a row are greater -/
def cntA (xs : List Int) (x : Int) : Nat := xs.countP fun y => decide (x < y)

theorem cntA_take {xs : List Int} {x X : Int} {k c : Nat} (h : k < xs.length) (hX : xs.getD k 0 = X) (hc : cntA (xs.take k) x = c) : cntA (xs.take (k + 1)) x = if x < X then c + 1 else c := by
  unfold cntA at *
  rw [take_one xs h, List.countP_append, hc, hX]
  by_cases e : x < X
  · rw [if_pos e]; simp [e]
  · rw [if_neg e]; simp [e]

theorem invL_take {xs : List Int} {k : Nat} (h : k < xs.length) : invL (xs.take (k + 1)) = invL (xs.take k) + cntA (xs.take k) (xs.getD k 0) := by
  rw [take_one xs h, invL_snoc]; rfl

set_option maxHeartbeats 1000000 in
theorem specTurned_any (v : Value) (xs : List Int) (w : World) (hv : Reads w v xs) (hx : xs.length ≤ 2000000) :
    Calls Try.prog 41 #[v] w fun e w' => e = .returned (.int .i64 (turnedF xs)) ∧ ∃ n, w' = w.drewN n := by
  obtain ⟨N, hN⟩ : ∃ N, xs.length = N := ⟨_, rfl⟩
  obtain ⟨a, cap, rfl, HC0⟩ := hv.cells hN
  clear hv
  by_cases h60 : xs.length ≤ 60
  · rw [turnedF_yes h60]
    have HB : Hid (∀ k, invL (xs.take k) ≤ 3600) := fun k => inv60 (by rw [List.length_take]; omega)
    rw [hN] at h60 hx
    have h60' : ¬ (60 : Int) < N := by omega
    have HN := Lib.hid hN
    clear hN
    go_enter Try.func41, Try.ntmps41
    go_wp2_with fail
    go_loopw [3, 4] (fun y i wr => ∃ k p q : Nat, i = .int .i64 k ∧ y = .int .i64 p ∧ k ≤ N ∧ p ≤ 3600 ∧ Hid (invL (xs.take k) = p) ∧ wr = w.drewN q) (fun _ i _ => N - (intOf i).toNat)
    case atStart => exact ⟨0, 0, 0, rfl, rfl, by omega, by omega, by show _ = _; simp [invL], rfl⟩
    case round =>
      obtain ⟨k, p, q, rfl, rfl, hk, hp, HP, rfl⟩ := hrel
      by_cases hkm : k < N
      · have hkm' : (k : Int) < N := by omega
        obtain ⟨g, off, rfl, HC⟩ := HC0 (by omega)
        have HT := invL_take (xs := xs) (k := k) (by rw [HN.out]; exact hkm)
        rw [HP.out] at HT
        obtain ⟨X, hX⟩ : ∃ X, xs.getD k 0 = X := ⟨_, rfl⟩
        have ck := HC.out k hkm
        rw [hX] at ck HT
        have HX := Lib.hid hX
        have HB2 := HB.out (k + 1)
        rw [HT] at HB2
        have HT2 := Lib.hid HT
        have HCL : Hid (∀ j, j ≤ k → cntA ((xs.take k).take j) X ≤ cntA (xs.take k) X) := fun j hj => List.Sublist.countP_le (List.take_sublist _ _)
        have HBX := Lib.hid HB2
        clear hX HT HB2 HC0
        go_wp2_with fail
        go_loopw [3, 5] (fun y i wi => ∃ j c q' : Nat, i = .int .i64 j ∧ y = .int .i64 ((p : Int) + c) ∧ j ≤ k ∧ c ≤ j ∧ Hid (cntA (xs.take j) X = c) ∧ wi = w.drewN q') (fun _ i _ => k - (intOf i).toNat)
        case atStart => exact ⟨0, 0, q, rfl, by simp, by omega, by omega, by show _ = _; simp [cntA], rfl⟩
        case round =>
          obtain ⟨j, c, q', rfl, rfl, hj, hc, HK, rfl⟩ := hrel
          by_cases hjk : j < k
          · have hjk' : (j : Int) < k := by omega
            have hjN : (j : Int) < N := by omega
            have cj := HC.out j (by omega)
            have hS : ∀ Y, xs.getD j 0 = Y → cntA (xs.take (j + 1)) X = if X < Y then c + 1 else c := fun Y hY => cntA_take (by rw [HN.out]; omega) hY HK.out
            generalize xs.getD j 0 = Y at *
            have hS2 := hS Y rfl
            clear hS
            by_cases c1 : X < Y
            · rw [if_pos c1] at hS2
              have HK2 := Lib.hid hS2
              clear hS2
              go_wp2_with fail
              go_quiet (fail)
              go_wp2_with fail
              go_roundw
              case rel => exact ⟨j + 1, c + 1, q' + nq, by go_num, by go_num, by omega, by omega, HK2.out, by simp⟩
              case measure => simp only [intOf]; omega
            · rw [if_neg c1] at hS2
              have HK2 := Lib.hid hS2
              have d1 : decide (X < Y) = false := by simpa using c1
              clear hS2
              go_wp2_with fail
              go_quiet (fail)
              go_wp2_with fail
              go_roundw
              case rel => exact ⟨j + 1, c, q' + nq, by go_num, by trivial, by omega, by omega, HK2.out, by simp⟩
              case measure => simp only [intOf]; omega
          · obtain rfl : j = k := by omega
            have hjk' : decide ((j : Int) < j) = false := by simp
            have HP2 : Hid (invL (xs.take (j + 1)) = p + c) := by show _ = _; rw [HT2.out, HK.out]
            have hpc : p + c ≤ 3600 := by have := HBX.out; rw [HK.out] at this; exact this
            clear HCL HBX
            go_wp2_with fail
            go_roundw
            case rel => exact ⟨j + 1, p + c, q', by go_num, by go_num, by omega, hpc, HP2.out, by trivial⟩
            case measure => simp only [intOf]; omega
      · obtain rfl : k = N := by omega
        have hkm' : decide ((k : Int) < k) = false := by simp
        have HF : Hid (invL xs = p) := by
          have h := HP.out
          rwa [List.take_of_length_le (by rw [HN.out]; omega)] at h
        clear HC0 HB
        go_wp2
        go_ret
        exact ⟨ret_int (by rw [HF.out]), q, rfl⟩
  · rw [turnedF_no h60]
    have h60' : (60 : Int) < N := by omega
    clear HC0 hN h60
    go_enter Try.func41, Try.ntmps41
    go_wp2
    go_ret
    exact ⟨rfl, 0, rfl⟩
end Go.Proofs.Ytpdnehcaogdjiaa
