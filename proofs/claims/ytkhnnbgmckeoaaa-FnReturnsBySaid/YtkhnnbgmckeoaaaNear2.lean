/- Contracts of NextAfter and NearAbove of the program. -/
import Derived.Test.YtkhnnbgmckeoaaaFirst2
import Derived.Test.YtkhnnbgmckeoaaaNear
set_option linter.unusedVariables false
namespace Go.Proofs.Ytkhnnbgmckeoaaa
open Go.ChangeShapes Go.WideShapes Go.ChangeAt Go.RowKit Go.Joins N

def IntPost (x : Int) (w : World) (e : Ending) (w' : World) : Prop := e = .returned (.int .i64 x) ∧ Below w.heap.size w w'

/-- what a list of points reads as: its cells -/
theorem pts_cells {n s : Int} {m : Nat} {w : World} {v : Value} (h : Reads w v (ptsL n s m)) (hm : 1 ≤ m) : ∃ g off cap, v = .slice (some ⟨g, off, none⟩) m cap ∧ Hid (∀ j, j < m → w.cell? ⟨g, off + j, none⟩ = some (.int .i64 (pt n s j))) := by
  obtain ⟨a, cap, e, h⟩ := h
  obtain ⟨g, off, rfl, hc⟩ := h (fun e => by have := ptsL_length n s m; rw [e] at this; simp at this; omega)
  rw [ptsL_length] at e hc
  exact ⟨g, off, cap, e, fun j hj => by rw [hc j hj, ptsL_getD _ _ _ _ hj]; rfl⟩

theorem nil_cells {w : World} {v : Value} (h : Reads w v []) : ∃ a cap, v = .slice a 0 cap := by
  obtain ⟨a, cap, e, _⟩ := h
  exact ⟨a, cap, e⟩

set_option maxHeartbeats 1000000 in
theorem nextAfter_any (n s m i : Int) (w : World) :
    Calls Try.prog 95 #[(.agg #[.int .i64 (n), .int .i64 (s)]), .int .i64 m, .int .i64 i] w (IntPost (nextT n s m i) w) := by
  
  by_cases hc : tok n s = true ∧ 1 ≤ m ∧ m ≤ n
  · obtain ⟨ht, h0, h1⟩ := hc
    have hb := tok_bd ht
    obtain ⟨m, rfl⟩ := Int.eq_ofNat_of_zero_le (by omega : 0 ≤ m)
    have hp := firstPoints_any n s m (w.alloc (.cells #[.int .i64 n, .int .i64 s] 24))
    rw [firstF_yes ht h0 h1, Int.toNat_natCast] at hp
    by_cases i0 : i < 0
    · rw [nextT_no (by omega)]
      clear ht
      go_enter Try.func95, Try.ntmps95
      go_wp2_with fail
      refine (hp).mono ?_; rintro e w1 ⟨v1, rfl, ho1, hb1⟩
      have hz1 := hb1.size
      try simp at hz1
      clear hp
      obtain ⟨g, off, cap, rfl, HC⟩ := pts_cells ho1.reads (by omega)
      go_wp2
      go_ret
      exact ⟨rfl, (by repeat (first | exact Below.refl _ _ | assumption | (refine Below.trans ?_ (Below.mono (by assumption) (by first | omega | (simp <;> omega)))) | (refine Below.alloc ?_ (by first | omega | (simp <;> omega)) _) | (refine below_drewN ?_ _) | (refine Below.drew ?_) | (refine Below.setCell ?_ (by first | omega | (simp <;> omega)) _)))⟩
    by_cases i1 : m ≤ i
    · rw [nextT_no (by omega)]
      clear ht
      go_enter Try.func95, Try.ntmps95
      go_wp2_with fail
      refine (hp).mono ?_; rintro e w1 ⟨v1, rfl, ho1, hb1⟩
      have hz1 := hb1.size
      try simp at hz1
      clear hp
      obtain ⟨g, off, cap, rfl, HC⟩ := pts_cells ho1.reads (by omega)
      go_wp2
      go_ret
      exact ⟨rfl, (by repeat (first | exact Below.refl _ _ | assumption | (refine Below.trans ?_ (Below.mono (by assumption) (by first | omega | (simp <;> omega)))) | (refine Below.alloc ?_ (by first | omega | (simp <;> omega)) _) | (refine below_drewN ?_ _) | (refine Below.drew ?_) | (refine Below.setCell ?_ (by first | omega | (simp <;> omega)) _)))⟩
    obtain ⟨i, rfl⟩ := Int.eq_ofNat_of_zero_le (by omega : 0 ≤ i)
    have HT := Lib.hid ht
    clear ht
    go_enter Try.func95, Try.ntmps95
    go_wp2_with fail
    refine (hp).mono ?_; rintro e w1 ⟨v1, rfl, ho1, hb1⟩
    have hz1 := hb1.size
    try simp at hz1
    clear hp
    obtain ⟨g, off, cap, rfl, HC⟩ := pts_cells ho1.reads (by omega)
    have hB1 : Below w.heap.size w w1 := (by repeat (first | exact Below.refl _ _ | assumption | (refine Below.trans ?_ (Below.mono (by assumption) (by first | omega | (simp <;> omega)))) | (refine Below.alloc ?_ (by first | omega | (simp <;> omega)) _) | (refine below_drewN ?_ _) | (refine Below.drew ?_) | (refine Below.setCell ?_ (by first | omega | (simp <;> omega)) _)))
    clear ho1 hb1
    go_wp2_with fail
    go_loopw [8, 24] (fun y x wr => ∃ (k b : Nat), x = .int .i64 k ∧ y = .int .i64 b ∧ k ≤ m ∧ b < m ∧ Hid (IsNext n s k i b) ∧ wr = w1) (fun _ x _ => m - (intOf x).toNat)
    case atStart => exact ⟨0, 0, rfl, rfl, by omega, by omega, .inl ⟨rfl, fun j j0 j1 => by omega⟩, rfl⟩
    case round =>
      obtain ⟨k, b, rfl, rfl, hk, hbm, HI, rfl⟩ := hrel
      by_cases hkm : k < m
      · have hkm' : (k : Int) < m := by omega
        have ck := HC.out k hkm
        have ci := HC.out i (by omega)
        have cb := HC.out b hbm
        by_cases c1 : pt n s i < pt n s k
        · by_cases c2 : b = 0
          · subst c2
            have HN := Lib.hid (next_step_yes HT.out (by omega) HI.out c1 (.inl rfl))
            go_wp2_with fail
            go_roundw
            case rel => exact ⟨k + 1, k, by go_num, rfl, by omega, by omega, HN.out, by trivial⟩
            case measure => simp only [intOf]; omega
          · have c2' : ((b : Int) == 0) = false := by simp; omega
            by_cases c3 : pt n s k < pt n s b
            · have HN := Lib.hid (next_step_yes HT.out (by omega) HI.out c1 (.inr c3))
              go_wp2_with fail
              go_roundw
              case rel => exact ⟨k + 1, k, by go_num, rfl, by omega, by omega, HN.out, by trivial⟩
              case measure => simp only [intOf]; omega
            · have HN := Lib.hid (next_step_no HI.out fun _ => ⟨by omega, by omega⟩)
              go_wp2_with fail
              go_roundw
              case rel => exact ⟨k + 1, b, by go_num, rfl, by omega, by omega, HN.out, by trivial⟩
              case measure => simp only [intOf]; omega
        · have HN := Lib.hid (next_step_no HI.out fun h => absurd h c1)
          go_wp2_with fail
          go_roundw
          case rel => exact ⟨k + 1, b, by go_num, rfl, by omega, by omega, HN.out, by trivial⟩
          case measure => simp only [intOf]; omega
      · obtain rfl : k = m := by omega
        have hkm' : decide ((k : Int) < k) = false := by simp
        have HE := Lib.hid (nextT_of HT.out h0 h1 (by omega) (by omega) HI.out)
        go_wp2
        go_ret
        exact ⟨by rw [HE.out]; rfl, hB1⟩
  · have hp := firstPoints_any n s m (w.alloc (.cells #[.int .i64 n, .int .i64 s] 24))
    rw [firstF_no hc] at hp
    rw [nextT_no (fun h => hc ⟨h.1, h.2.1, h.2.2.1⟩)]
    clear hc
    by_cases i0 : i < 0
    · go_enter Try.func95, Try.ntmps95
      go_wp2_with fail
      refine (hp).mono ?_; rintro e w1 ⟨v1, rfl, ho1, hb1⟩
      have hz1 := hb1.size
      try simp at hz1
      clear hp
      obtain ⟨a, cap, rfl⟩ := nil_cells ho1.reads
      go_wp2
      go_ret
      exact ⟨rfl, (by repeat (first | exact Below.refl _ _ | assumption | (refine Below.trans ?_ (Below.mono (by assumption) (by first | omega | (simp <;> omega)))) | (refine Below.alloc ?_ (by first | omega | (simp <;> omega)) _) | (refine below_drewN ?_ _) | (refine Below.drew ?_) | (refine Below.setCell ?_ (by first | omega | (simp <;> omega)) _)))⟩
    · go_enter Try.func95, Try.ntmps95
      go_wp2_with fail
      refine (hp).mono ?_; rintro e w1 ⟨v1, rfl, ho1, hb1⟩
      have hz1 := hb1.size
      try simp at hz1
      clear hp
      obtain ⟨a, cap, rfl⟩ := nil_cells ho1.reads
      have i1 : (0 : Int) ≤ i := by omega
      go_wp2
      go_ret
      exact ⟨rfl, (by repeat (first | exact Below.refl _ _ | assumption | (refine Below.trans ?_ (Below.mono (by assumption) (by first | omega | (simp <;> omega)))) | (refine Below.alloc ?_ (by first | omega | (simp <;> omega)) _) | (refine below_drewN ?_ _) | (refine Below.drew ?_) | (refine Below.setCell ?_ (by first | omega | (simp <;> omega)) _)))⟩

set_option maxHeartbeats 1000000 in
theorem nearAbove_any (n s m : Int) (w : World) :
    Calls Try.prog 84 #[(.agg #[.int .i64 (n), .int .i64 (s)]), .int .i64 m] w (IntPost (nearA n s m) w) := by
  by_cases h2 : m < 2
  · rw [nearA_no (by omega)]
    go_enter Try.func84, Try.ntmps84
    go_wp2
    go_ret
    exact ⟨rfl, (by repeat (first | exact Below.refl _ _ | assumption | (refine Below.trans ?_ (Below.mono (by assumption) (by first | omega | (simp <;> omega)))) | (refine Below.alloc ?_ (by first | omega | (simp <;> omega)) _) | (refine below_drewN ?_ _) | (refine Below.drew ?_) | (refine Below.setCell ?_ (by first | omega | (simp <;> omega)) _)))⟩
  · have hp := nextAfter_any n s m 0 (w.alloc (.cells #[.int .i64 n, .int .i64 s] 24))
    rw [nextT_zero (by omega)] at hp
    go_enter Try.func84, Try.ntmps84
    go_wp2_with fail
    refine (hp).mono ?_; rintro e w1 ⟨rfl, hb1⟩
    have hz1 := hb1.size
    try simp at hz1
    go_wp2
    go_ret
    exact ⟨rfl, (by repeat (first | exact Below.refl _ _ | assumption | (refine Below.trans ?_ (Below.mono (by assumption) (by first | omega | (simp <;> omega)))) | (refine Below.alloc ?_ (by first | omega | (simp <;> omega)) _) | (refine below_drewN ?_ _) | (refine Below.drew ?_) | (refine Below.setCell ?_ (by first | omega | (simp <;> omega)) _)))⟩
end Go.Proofs.Ytkhnnbgmckeoaaa
