/- Contracts of NearBelow of the program, and of NextAfter, NearAbove and NearBelow of the model. Contracts of NextAfter of the model, and of GapsBy of the program and of the model. -/
import Derived.Test.YtckkgjgfjnfeoaaDoorGSort
import Derived.Test.YtckkgjgfjnfeoaaDoorGKit
import Derived.Test.YtckkgjgfjnfeoaaDoorGFun
set_option linter.unusedVariables false
namespace Go.Proofs.YtckkgjgfjnfeoaaDoor
set_option maxRecDepth 4000
open Go.ChangeShapes Go.WideShapes Go.ChangeAt Go.RowKit Go.Joins N

theorem min_one (n s : Int) : IsMin n s 2 1 := ⟨by omega, by omega, fun j a b => by
  have e : j = 1 := by omega
  rw [e]; exact Int.le_refl _⟩

theorem max_one {n s : Int} (h : tok n s = true) : IsMax n s 2 1 := by
  have hb := tok_bd h
  refine ⟨by omega, by omega, fun j a b => ?_⟩
  by_cases e : j = 0
  · rw [e, pt0]; exact pt_lo _ _ (by omega)
  · have e : j = 1 := by omega
    rw [e]; exact Int.le_refl _

theorem min_yes {n s k b : Int} (h : IsMin n s k b) (e : pt n s k < pt n s b) : IsMin n s (k + 1) k := by
  obtain ⟨a, b, c⟩ := h
  refine ⟨by omega, by omega, fun j x y => ?_⟩
  by_cases e : j = k
  · rw [e]; exact Int.le_refl _
  · have := c j x (by omega); omega

theorem min_not {n s k b : Int} (h : IsMin n s k b) (e : ¬ pt n s k < pt n s b) : IsMin n s (k + 1) b := by
  obtain ⟨a, b, c⟩ := h
  refine ⟨by omega, by omega, fun j x y => ?_⟩
  by_cases e : j = k
  · rw [e]; omega
  · exact c j x (by omega)

theorem max_yes {n s k b : Int} (h : IsMax n s k b) (e : pt n s b < pt n s k) : IsMax n s (k + 1) k := by
  obtain ⟨a, b, c⟩ := h
  refine ⟨by omega, by omega, fun j x y => ?_⟩
  by_cases e : j = k
  · rw [e]; exact Int.le_refl _
  · have := c j x (by omega); omega

theorem max_not {n s k b : Int} (h : IsMax n s k b) (e : ¬ pt n s b < pt n s k) : IsMax n s (k + 1) b := by
  obtain ⟨a, b, c⟩ := h
  refine ⟨by omega, by omega, fun j x y => ?_⟩
  by_cases e : j = k
  · rw [e]; omega
  · exact c j x (by omega)

theorem max_of_all {n s m b : Int} (h : tok n s = true) (h2 : 2 ≤ m) (hm : m ≤ n) (b0 : 0 ≤ b) (b1 : b < m) (hc : ∀ j, 0 ≤ j → j < m → pt n s j ≤ pt n s b) : IsMax n s m b := by
  refine ⟨?_, b1, hc⟩
  by_cases e : b = 0
  · have x := hc 1 (by omega) (by omega)
    have y := (turns_of h).pos (k := 1) (by omega) (by omega)
    rw [e, pt0] at x
    omega
  · omega

set_option maxHeartbeats 1000000 in
theorem nearBelow_any (n s m : Int) (w : World) :
    Calls Tryd.prog 74 #[(.agg #[.int .i64 (n), .int .i64 (s)]), .int .i64 m] w (IntPost (nearB n s m) w) := by
  
  have hp := firstPoints_any n s m (w.alloc (.cells #[.int .i64 n, .int .i64 s] 28))
  by_cases hc : tok n s = true ∧ 1 ≤ m ∧ m ≤ n
  · obtain ⟨ht, h0, h1⟩ := hc
    have hb := tok_bd ht
    obtain ⟨m, rfl⟩ := Int.eq_ofNat_of_zero_le (by omega : 0 ≤ m)
    rw [firstF_yes ht h0 h1, Int.toNat_natCast] at hp
    by_cases h2 : (m : Int) < 2
    · rw [nearB_no (by omega)]
      clear ht
      go_enter Tryd.func74, Tryd.ntmps74
      go_wp2_with fail
      refine (hp).mono ?_; rintro e w1 ⟨v1, rfl, ho1, hb1⟩
      have hz1 := hb1.size
      try simp at hz1
      clear hp
      obtain ⟨g, off, cap, rfl, HC⟩ := pts_cells ho1.reads (by omega)
      go_wp2
      go_ret
      exact ⟨rfl, (by repeat (first | exact Below.refl _ _ | assumption | (refine Below.trans ?_ (Below.mono (by assumption) (by first | omega | (simp <;> omega)))) | (refine Below.alloc ?_ (by first | omega | (simp <;> omega)) _) | (refine below_drewN ?_ _) | (refine Below.drew ?_) | (refine Below.setCell ?_ (by first | omega | (simp <;> omega)) _)))⟩
    have HT := Lib.hid ht
    clear ht
    go_enter Tryd.func74, Tryd.ntmps74
    go_wp2_with fail
    refine (hp).mono ?_; rintro e w1 ⟨v1, rfl, ho1, hb1⟩
    have hz1 := hb1.size
    try simp at hz1
    clear hp
    obtain ⟨g, off, cap, rfl, HC⟩ := pts_cells ho1.reads (by omega)
    have hB1 : Below w.heap.size w w1 := (by repeat (first | exact Below.refl _ _ | assumption | (refine Below.trans ?_ (Below.mono (by assumption) (by first | omega | (simp <;> omega)))) | (refine Below.alloc ?_ (by first | omega | (simp <;> omega)) _) | (refine below_drewN ?_ _) | (refine Below.drew ?_) | (refine Below.setCell ?_ (by first | omega | (simp <;> omega)) _)))
    clear ho1 hb1
    go_wp2_with fail
    go_loopw [6, 17] (fun y x wr => ∃ (k b : Nat), x = .int .i64 k ∧ y = .int .i64 b ∧ k ≤ m ∧ b < m ∧ Hid (∀ j : Int, 0 ≤ j → j < k → pt n s j ≤ pt n s b) ∧ wr = w1) (fun _ x _ => m - (intOf x).toNat)
    case atStart => exact ⟨0, 0, rfl, rfl, by omega, by omega, (fun j j0 j1 => by omega), rfl⟩
    case round =>
      obtain ⟨k, b, rfl, rfl, hk, hbm, HI, rfl⟩ := hrel
      by_cases hkm : k < m
      · have hkm' : (k : Int) < m := by omega
        have ck := HC.out k hkm
        have cb := HC.out b hbm
        by_cases c1 : pt n s b < pt n s k
        · have HN : Hid (∀ j : Int, 0 ≤ j → j < (k : Int) + 1 → pt n s j ≤ pt n s k) := fun j j0 j1 => by
            by_cases e : j = k
            · rw [e]; exact Int.le_refl _
            · have := HI.out j j0 (by omega); omega
          go_wp2_with fail
          go_roundw
          case rel => exact ⟨k + 1, k, by go_num, rfl, by omega, by omega, HN.out, by trivial⟩
          case measure => simp only [intOf]; omega
        · have HN : Hid (∀ j : Int, 0 ≤ j → j < (k : Int) + 1 → pt n s j ≤ pt n s b) := fun j j0 j1 => by
            by_cases e : j = k
            · rw [e]; omega
            · exact HI.out j j0 (by omega)
          go_wp2_with fail
          go_roundw
          case rel => exact ⟨k + 1, b, by go_num, rfl, by omega, by omega, HN.out, by trivial⟩
          case measure => simp only [intOf]; omega
      · obtain rfl : k = m := by omega
        have hkm' : decide ((k : Int) < k) = false := by simp
        have HE := Lib.hid (nearB_of HT.out (by omega) h1 (max_of_all HT.out (by omega) h1 (by omega) (by omega) HI.out))
        go_wp2
        go_ret
        exact ⟨by rw [HE.out]; rfl, hB1⟩
  · rw [firstF_no hc] at hp
    rw [nearB_no (fun h => hc ⟨h.1, by omega, h.2.2⟩)]
    clear hc
    go_enter Tryd.func74, Tryd.ntmps74
    go_wp2_with fail
    refine (hp).mono ?_; rintro e w1 ⟨v1, rfl, ho1, hb1⟩
    have hz1 := hb1.size
    try simp at hz1
    clear hp
    obtain ⟨a, cap, rfl⟩ := nil_cells ho1.reads
    go_wp2
    go_ret
    exact ⟨rfl, (by repeat (first | exact Below.refl _ _ | assumption | (refine Below.trans ?_ (Below.mono (by assumption) (by first | omega | (simp <;> omega)))) | (refine Below.alloc ?_ (by first | omega | (simp <;> omega)) _) | (refine below_drewN ?_ _) | (refine Below.drew ?_) | (refine Below.setCell ?_ (by first | omega | (simp <;> omega)) _)))⟩

end Go.Proofs.YtckkgjgfjnfeoaaDoor

set_option linter.unusedVariables false
namespace Go.Proofs.YtckkgjgfjnfeoaaDoor
open Go.ChangeShapes Go.WideShapes Go.ChangeAt Go.RowKit Go.Joins N

/-- what is told by both times alone -/
def gapsByF (n s m : Int) : List Int :=
  if tok n s = true ∧ 2 ≤ m ∧ m ≤ n then
    [pt n s (nearA n s m), m - nearA n s m, n - pt n s (nearB n s m), m - nearB n s m, pt n s (nearA n s m) + (n - pt n s (nearB n s m)), nearA n s m + nearB n s m - m]
  else []

theorem gapsByF_yes {n s m p q : Int} (h : tok n s = true) (h2 : 2 ≤ m) (hm : m ≤ n) (hp : nearA n s m = p) (hq : nearB n s m = q) :
    gapsByF n s m = [pt n s p, m - p, n - pt n s q, m - q, pt n s p + (n - pt n s q), p + q - m] := by
  subst hp hq; exact if_pos ⟨h, h2, hm⟩

theorem gapsByF_no {n s m : Int} (h : ¬ (tok n s = true ∧ 2 ≤ m ∧ m ≤ n)) : gapsByF n s m = [] := if_neg h

theorem gapsByF_len (n s m : Int) : (gapsByF n s m).length ≤ 60 := by
  unfold gapsByF; split <;> simp

/-- a new row of six integers -/
theorem row6 (w : World) (b : Nat) (x0 x1 x2 x3 x4 x5 : Int) (hb : b ≤ w.heap.size) :
    OwnL (w.alloc (.cells #[.int .i64 x0, .int .i64 x1, .int .i64 x2, .int .i64 x3, .int .i64 x4, .int .i64 x5] 3)) b (.slice (some ⟨w.heap.size, 0, none⟩) 6 6) [x0, x1, x2, x3, x4, x5] := by
  refine ⟨by simp, .inr ⟨w.heap.size, 6, _, rfl, hb, heap_alloc_new w _, by simp, by unfold maxLen; omega, by simp, by simp⟩⟩

end Go.Proofs.YtckkgjgfjnfeoaaDoor
