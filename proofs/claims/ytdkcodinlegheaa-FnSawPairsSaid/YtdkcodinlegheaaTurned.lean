/- Contracts of TurnedPairs, of the program and of the model. -/
import Derived.Test.YtdkcodinlegheaaGOrdC
set_option linter.unusedVariables false
namespace Go.Proofs.Ytdkcodinlegheaa
open Go.ChangeShapes Go.WideShapes Go.ChangeAt Go.RowKit Go.Joins N

def turnedF (xs : List Int) : Int := if xs.length ≤ 60 then (invL xs : Nat) else -1

theorem turnedF_yes {xs : List Int} (h : xs.length ≤ 60) : turnedF xs = (invL xs : Nat) := if_pos h

theorem turnedF_no {xs : List Int} (h : ¬ xs.length ≤ 60) : turnedF xs = -1 := if_neg h

theorem invL_drop {xs : List Int} {k : Nat} (h : k < xs.length) : invL (xs.drop k) = cntB (xs.drop (k + 1)) (xs.getD k 0) + invL (xs.drop (k + 1)) := by
  rw [List.drop_eq_getElem_cons h, List.getD_eq_getElem?_getD, List.getElem?_eq_getElem h]
  rfl

theorem inv60 {xs : List Int} (h : xs.length ≤ 60) : invL xs ≤ 3600 := by
  have := inv_le xs
  have : xs.length * xs.length ≤ 60 * 60 := Nat.mul_le_mul h h
  omega

set_option maxHeartbeats 1000000 in
theorem turned_any (v : Value) (xs : List Int) (b : Nat) (w : World) (ho : OwnL w b v xs) (hx : xs.length ≤ 2000000) :
    Calls Try.prog 36 #[v] w fun e w' => e = .returned (.int .i64 (turnedF xs)) ∧ w = w' := by
  obtain ⟨N, hN⟩ : ∃ N, xs.length = N := ⟨_, rfl⟩
  by_cases h60 : xs.length ≤ 60
  · rw [turnedF_yes h60]
    have HI := Lib.hid (inv60 h60)
    rw [hN] at h60 hx
    have h60' : ¬ (60 : Int) < N := by omega
    by_cases h0 : N = 0
    · subst h0
      obtain ⟨a, cap, rfl, _⟩ := (OwnL.reads ho).cells hN
      obtain rfl := nil_of_len hN
      clear ho hN
      go_enter Try.func36, Try.ntmps36
      go_wp2_with fail
      go_loop [3, 11] (fun y i => y = .int .i64 0 ∧ i = .int .i64 0) (fun _ _ => 0)
      case atStart => exact ⟨rfl, rfl⟩
      case round =>
        obtain ⟨rfl, rfl⟩ := hrel
        go_wp2
        go_ret
        exact ⟨rfl, rfl⟩
    · obtain ⟨g, cap, cur, rfl, hbg, hr, hs, hn, hm, hc⟩ := ho.row hN (ho.some_of_len (by omega))
      have HC : Hid (∀ j, j < N → w.cell? ⟨g, j, none⟩ = some (.int .i64 (xs.getD j 0))) := fun j hj => (hr.cell j).trans (hc j hj)
      have HN := Lib.hid hN
      have HM := Lib.hid hm
      clear ho hN hr hs hm hc
      go_enter Try.func36, Try.ntmps36
      go_wp2_with fail
      go_loop [3, 11] (fun y i => ∃ k p : Nat, i = .int .i64 k ∧ y = .int .i64 p ∧ k ≤ N ∧ p ≤ 3600 ∧ Hid (p + invL (xs.drop k) = invL xs)) (fun _ i => N - (intOf i).toNat)
      case atStart => exact ⟨0, 0, rfl, rfl, by omega, by omega, by show _ = _; simp⟩
      case round =>
        obtain ⟨k, p, rfl, rfl, hk, hp, HP⟩ := hrel
        by_cases hkm : k < N
        · have hkm' : (k : Int) < N := by omega
          have ck := HC.out k hkm
          have hD := invL_drop (xs := xs) (k := k) (by rw [HN.out]; exact hkm)
          have hcl := cntB_le (xs.drop (k + 1)) (xs.getD k 0)
          rw [List.length_drop, HN.out] at hcl
          have hL : (xs.drop (k + 1)).length = N - (k + 1) := by rw [List.length_drop, HN.out]
          have HR : Hid (∀ a c, (N - (k + 1) ≠ 0 → a = some ⟨g, k + 1, none⟩) → Reads w (.slice a (N - (k + 1)) c) (xs.drop (k + 1))) := fun a c ha => by
            refine ⟨a, c, by rw [hL], fun hne => ?_⟩
            have h1 : N - (k + 1) ≠ 0 := fun e => hne (nil_of_len (hL.trans e))
            refine ⟨g, k + 1, ha h1, fun i hi => ?_⟩
            rw [hL] at hi
            rw [HC.out (k + 1 + i) (by omega)]
            simp [List.getD_eq_getElem?_getD]
          generalize xs.getD k 0 = X at *
          have HL := Lib.hid hL
          obtain ⟨c, hc⟩ : ∃ c, cntB (xs.drop (k + 1)) X = c := ⟨_, rfl⟩
          rw [hc] at hD hcl
          have hp2 := HP.out
          have hi2 := HI.out
          rw [hD] at hp2
          have HP2 : Hid (p + c + invL (xs.drop (k + 1)) = invL xs) := by show _ = _; omega
          have hpc : p + c ≤ 3600 := by omega
          have HCN := Lib.hid hc
          have e1 : ((k : Int) + 1) ≤ N := by omega
          have e0 : (0 : Int) ≤ (k : Int) + 1 := by omega
          have e2 : ((k : Int) + 1).toNat = k + 1 := by omega
          have e3 : IntKind.i64.wrap ((p : Int) + c) = (p : Int) + c := IntWalk.i64_in _ (by omega)
          have e4 : (N : Int) ≤ cap := by omega
          have e5 : (k : Int) + 1 ≤ cap := by omega
          clear hL hc hp2 hi2 hD HP
          by_cases hcj : cap = k + 1
          · go_wp2_with fail
            refine (countBelow_any _ (xs.drop (k + 1)) X _ (HR.out _ _ (by first | (intro _; rfl) | (intro h; exfalso; omega))) (by rw [HL.out]; omega)).mono ?_
            rintro e w2 ⟨rfl, rfl⟩
            rw [HCN.out]
            rw [← hcj]
            clear hcj HR ck
            go_wp2_with fail
            go_round
            case rel => exact ⟨k + 1, p + c, by go_num, by go_num, by omega, by omega, HP2.out⟩
            case measure => simp only [intOf]; omega
          · go_wp2_with fail
            refine (countBelow_any _ (xs.drop (k + 1)) X _ (HR.out _ _ (by first | (intro _; rfl) | (intro h; exfalso; omega))) (by rw [HL.out]; omega)).mono ?_
            rintro e w2 ⟨rfl, rfl⟩
            rw [HCN.out]
            clear HR ck
            go_wp2_with fail
            go_round
            case rel => exact ⟨k + 1, p + c, by go_num, by go_num, by omega, by omega, HP2.out⟩
            case measure => simp only [intOf]; omega
        · obtain rfl : k = N := by omega
          have hkm' : decide ((k : Int) < k) = false := by simp
          have HF : Hid (invL xs = p) := by
            have h := HP.out
            rw [List.drop_of_length_le (by rw [HN.out]; omega)] at h
            show _ = _
            have e0 : invL [] = 0 := rfl
            omega
          clear HC
          go_wp2
          go_ret
          exact ⟨ret_int (by rw [HF.out]), rfl⟩
  · rw [turnedF_no h60]
    obtain ⟨a, cap, rfl, _⟩ := (OwnL.reads ho).cells hN
    have h60' : (60 : Int) < N := by omega
    clear ho hN h60
    go_enter Try.func36, Try.ntmps36
    go_wp2
    go_ret
    exact ⟨rfl, rfl⟩

/-- how many numbers of a row are greater -/
def cntA (xs : List Int) (x : Int) : Nat := xs.countP fun y => decide (x < y)

theorem cntA_take {xs : List Int} {x X : Int} {k c : Nat} (h : k < xs.length) (hX : xs.getD k 0 = X) (hc : cntA (xs.take k) x = c) : cntA (xs.take (k + 1)) x = if x < X then c + 1 else c := by
  unfold cntA at *
  rw [take_one xs h, List.countP_append, hc, hX]
  by_cases e : x < X
  · rw [if_pos e]; simp [e]
  · rw [if_neg e]; simp [e]

theorem invL_take {xs : List Int} {k : Nat} (h : k < xs.length) : invL (xs.take (k + 1)) = invL (xs.take k) + cntA (xs.take k) (xs.getD k 0) := by
  rw [take_one xs h, invL_snoc]; rfl

end Go.Proofs.Ytdkcodinlegheaa
