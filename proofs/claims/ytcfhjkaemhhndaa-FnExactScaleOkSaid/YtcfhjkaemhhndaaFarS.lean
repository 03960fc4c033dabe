/- Contracts of chapter 11's functions of the model. -/
import Derived.Test.YtcfhjkaemhhndaaGFar
import Derived.Test.YtcfhjkaemhhndaaSpreadG
import Derived.Test.YtcfhjkaemhhndaaGVisI
import Derived.BigQuiet
import Derived.Deep.RegionHeld3
set_option linter.unusedVariables false
namespace Go.Proofs.Ytcfhjkaemhhndaa

set_option maxRecDepth 4000
open Go.ChangeShapes Go.WideShapes Go.ChangeAt Go.RowKit Go.Joins

theorem maxI_hi {f : Nat → Int} {B : Int} (h0 : 0 ≤ B) (k : Nat) (h : ∀ j, j < k → f j ≤ B ∧ -B ≤ f j) : maxI f k ≤ B := maxI_le h0 k h

set_option maxHeartbeats 2000000 in
theorem specLeastGap_any (n s m : Int) (w : World) :
    Calls Try.prog 59 #[(.agg #[.int .i64 (n), .int .i64 (s)]), .int .i64 m] w fun e w' => e = .returned (.int .i64 (leastF n s m)) ∧ Below w.heap.size w w' := by
  
  have hp := fun w => specGapsOf_any n s m w
  have hlen := gapsF_len n s m
  unfold leastF
  generalize gapsF n s m = L at hp hlen ⊢
  obtain ⟨K, hK⟩ : ∃ K, L.length = K := ⟨_, rfl⟩
  rw [hK]
  have HSu : Hid (∀ k, leK L (k + 1) = if leK L k < 0 ∨ L.getD k 0 < leK L k then L.getD k 0 else leK L k) := fun k => rfl
  have H0 : Hid (leK L 0 = -1) := rfl
  have HK := Lib.hid hK
  rw [hK] at hlen
  clear hK
  go_enter Try.func59, Try.ntmps59
  go_wp2_with fail
  refine (hp _).mono ?_; rintro e w1 ⟨v1, rfl, ho1, hb1⟩
  have hz1 := hb1.size
  try simp at hz1
  have t1 : Two w1 (w.heap.size) (.int .i64 n) (.int .i64 s) 24 := Two.below (by repeat (first | assumption | exact Two.new' _ _ _ _ _ (by simp) | refine Two.alloc ?_ _ | refine Two.drewN ?_ _)) hb1 (by first | omega | (simp <;> omega))
  have hlt1 : (w.heap.size) < w1.heap.size := t1.lt
  have hnt1 : ¬ (w.heap.size) = w1.heap.size := Nat.ne_of_lt hlt1
  have t1c := t1.cell0
  have t1d := t1.cell1
  obtain ⟨a1, cap1, rfl, hcells⟩ := ho1.reads.cells HK.out
  have hB1 : Below w.heap.size w w1 := (by repeat (first | exact Below.refl _ _ | assumption | (refine Below.trans ?_ (Below.mono (by assumption) (by first | omega | (simp <;> omega)))) | (refine Below.alloc ?_ (by first | omega | (simp <;> omega)) _) | (refine below_drewN ?_ _) | (refine Below.drew ?_) | (refine Below.setCell ?_ (by first | omega | (simp <;> omega)) _)))
  clear ho1 hp hb1 t1 t1c t1d
  go_wp2_with fail
  go_loopw [6, 7] (fun x y wr => ∃ k q : Nat, x = .int .i64 (leK L k) ∧ y = .int .i64 k ∧ k ≤ K ∧ wr = w1.drewN q) (fun _ y _ => K - (intOf y).toNat)
  case atStart => exact ⟨0, 0, by rw [H0.out], rfl, by omega, rfl⟩
  case round =>
    obtain ⟨k, q, rfl, rfl, hk, rfl⟩ := hrel
    by_cases hkn : k < K
    · have hkn' : (k : Int) < K := by omega
      obtain ⟨g, off, rfl, HC⟩ := hcells (by omega)
      have ck : (w1.drewN q).cell? ⟨g, off + k, none⟩ = some (.int .i64 (L.getD k 0)) := HC.out k hkn
      have hsu := HSu.out k
      generalize L.getD k 0 = X at *
      generalize leK L k = F at *
      by_cases h0 : F < 0
      · rw [if_pos (.inl h0)] at hsu
        have HS := Lib.hid hsu
        clear hsu
        go_wp2_with fail
        try go_quiet (fail)
        go_wp2_with fail
        go_roundw
        case rel => first | exact ⟨k + 1, q, by rw [HS.out], by go_num, by omega, rfl⟩ | exact ⟨k + 1, q + nq, by rw [HS.out], by go_num, by omega, by simp⟩
        case measure => simp only [intOf]; omega
      · have h0' : decide (F < 0) = false := decide_eq_false h0
        by_cases hx : X < F
        · rw [if_pos (.inr hx)] at hsu
          have HS := Lib.hid hsu
          clear hsu
          go_wp2_with fail
          try go_quiet (fail)
          go_wp2_with fail
          go_roundw
          case rel => first | exact ⟨k + 1, q, by rw [HS.out], by go_num, by omega, rfl⟩ | exact ⟨k + 1, q + nq, by rw [HS.out], by go_num, by omega, by simp⟩
          case measure => simp only [intOf]; omega
        · rw [if_neg (by omega)] at hsu
          have HS := Lib.hid hsu
          have hx' : decide (X < F) = false := decide_eq_false hx
          clear hsu
          go_wp2_with fail
          try go_quiet (fail)
          go_wp2_with fail
          go_roundw
          case rel => first | exact ⟨k + 1, q, by rw [HS.out], by go_num, by omega, rfl⟩ | exact ⟨k + 1, q + nq, by rw [HS.out], by go_num, by omega, by simp⟩
          case measure => simp only [intOf]; omega
    · have hkn' : decide ((k : Int) < K) = false := decide_eq_false (by omega)
      have hkn2 : decide (k < K) = false := decide_eq_false hkn
      obtain rfl : k = K := by omega
      go_wp2
      go_ret
      exact ⟨rfl, below_drewN hB1 q⟩
end Go.Proofs.Ytcfhjkaemhhndaa
