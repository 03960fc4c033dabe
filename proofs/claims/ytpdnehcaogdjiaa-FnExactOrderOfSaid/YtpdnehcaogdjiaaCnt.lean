/- Contracts of countBelow and hasEachNumber of the program, and of PlaceIn and TurnedPairs, of the program and of the model. -/
import Derived.Test.YtpdnehcaogdjiaaKinds
import Derived.Test.YtpdnehcaogdjiaaOrd3
set_option linter.unusedVariables false
namespace Go.Proofs.Ytpdnehcaogdjiaa
open Go.ChangeShapes Go.WideShapes Go.ChangeAt Go.RowKit Go.Joins N

/-- how many numbers of a row are less -/
def cntB (xs : List Int) (x : Int) : Nat := xs.countP fun y => decide (y < x)

theorem cntB_take {xs : List Int} {x X : Int} {k c : Nat} (h : k < xs.length) (hX : xs.getD k 0 = X) (hc : cntB (xs.take k) x = c) : cntB (xs.take (k + 1)) x = if X < x then c + 1 else c := by
  unfold cntB at *
  rw [take_one xs h, List.countP_append, hc, hX]
  by_cases e : X < x
  · rw [if_pos e]; simp [e]
  · rw [if_neg e]; simp [e]

theorem cntB_le (xs : List Int) (x : Int) : cntB xs x ≤ xs.length := List.countP_le_length

set_option maxHeartbeats 1000000 in
theorem countBelow_any (v : Value) (xs : List Int) (x : Int) (w : World) (hv : Reads w v xs) (hx : xs.length ≤ 1000000) :
    Calls Try.prog 48 #[v, .int .i64 x] w fun e w' => e = .returned (.int .i64 ((cntB xs x : Nat) : Int)) ∧ w = w' := by
  obtain ⟨N, hN⟩ : ∃ N, xs.length = N := ⟨_, rfl⟩
  obtain ⟨a, cap, rfl, HC0⟩ := hv.cells hN
  clear hv
  rw [hN] at hx
  by_cases h0 : N = 0
  · subst h0
    obtain rfl := nil_of_len hN
    clear HC0 hN
    go_enter Try.func48, Try.ntmps48
    go_wp2_with fail
    go_loop [5, 10] (fun y i => y = .int .i64 0 ∧ i = .int .i64 0) (fun _ _ => 0)
    case atStart => exact ⟨rfl, rfl⟩
    case round =>
      obtain ⟨rfl, rfl⟩ := hrel
      go_wp2
      go_ret
      exact ⟨rfl, rfl⟩
  · obtain ⟨g, off, rfl, HC⟩ := HC0 h0
    have HN := Lib.hid hN
    clear HC0 hN
    go_enter Try.func48, Try.ntmps48
    go_wp2_with fail
    go_loop [5, 10] (fun y i => ∃ k c : Nat, i = .int .i64 k ∧ y = .int .i64 c ∧ k ≤ N ∧ c ≤ k ∧ Hid (cntB (xs.take k) x = c)) (fun _ i => N - (intOf i).toNat)
    case atStart => exact ⟨0, 0, rfl, rfl, by omega, by omega, by show _ = _; simp [cntB]⟩
    case round =>
      obtain ⟨k, c, rfl, rfl, hk, hc, HK⟩ := hrel
      by_cases hkm : k < N
      · have hkm' : (k : Int) < N := by omega
        have ck := HC.out k hkm
        have hS : ∀ X, xs.getD k 0 = X → cntB (xs.take (k + 1)) x = if X < x then c + 1 else c := fun X hX => cntB_take (by rw [HN.out]; exact hkm) hX HK.out
        generalize xs.getD k 0 = X at *
        have hS2 := hS X rfl
        clear hS
        by_cases he : X < x
        · rw [if_pos he] at hS2
          have HK2 := Lib.hid hS2
          clear hS2
          go_wp2_with fail
          go_round
          case rel => exact ⟨k + 1, c + 1, by go_num, by go_num, by omega, by omega, HK2.out⟩
          case measure => simp only [intOf]; omega
        · rw [if_neg he] at hS2
          have HK2 := Lib.hid hS2
          have he' : decide (X < x) = false := by simpa using he
          clear hS2
          go_wp2_with fail
          go_round
          case rel => exact ⟨k + 1, c, by go_num, by trivial, by omega, by omega, HK2.out⟩
          case measure => simp only [intOf]; omega
      · obtain rfl : k = N := by omega
        have hkm' : decide ((k : Int) < k) = false := by simp
        have HK2 : Hid (cntB xs x = c) := by
          have h := HK.out
          rwa [List.take_of_length_le (by rw [HN.out]; omega)] at h
        clear HC
        go_wp2
        go_ret
        exact ⟨ret_int (by rw [HK2.out]), rfl⟩

/-- has a row each number that is less than its length -/
def eachN (xs : List Int) : Prop := ∀ i : Nat, i < xs.length → (i : Int) ∈ xs

/-- a truth value comes back, which says whether p holds; nothing has changed -/
def BoolPost (p : Prop) (w : World) (e : Ending) (w' : World) : Prop := (∃ b : Bool, e = .returned (.bool b) ∧ (b = true ↔ p)) ∧ w = w'

set_option maxHeartbeats 1000000 in
theorem hasEach_any (v : Value) (xs : List Int) (w : World) (hv : Reads w v xs) (hx : xs.length ≤ 1000000) :
    Calls Try.prog 51 #[v] w (BoolPost (eachN xs) w) := by
  obtain ⟨N, hN⟩ : ∃ N, xs.length = N := ⟨_, rfl⟩
  have hR := hv
  obtain ⟨a, cap, rfl, HC0⟩ := hv.cells hN
  have HN := Lib.hid hN
  clear hv HC0 hN
  rw [HN.out] at hx
  go_enter Try.func51, Try.ntmps51
  go_wp2_with fail
  go_loop [6] (fun i => ∃ k : Nat, i = .int .i64 k ∧ k ≤ N ∧ Hid (∀ i : Nat, i < k → (i : Int) ∈ xs)) (fun i => N - (intOf i).toNat)
  case atStart => exact ⟨0, rfl, by omega, fun i hi => by omega⟩
  case round =>
    obtain ⟨k, rfl, hk, HK⟩ := hrel
    by_cases hkm : k < N
    · have hkm' : (k : Int) < N := by omega
      go_wp2_with fail
      refine (contains_any _ xs k _ hR (by rw [HN.out]; omega)).mono ?_; rintro e w1 ⟨rfl, rfl⟩
      by_cases hin : (k : Int) ∈ xs
      · have HI : Hid (∀ i : Nat, i < k + 1 → (i : Int) ∈ xs) := fun i hi => by
          by_cases e : i = k
          · rw [e]; exact hin
          · exact HK.out i (by omega)
        rw [decide_eq_true hin]
        clear hin HK
        go_wp2_with fail
        go_round
        case rel => exact ⟨k + 1, by go_num, by omega, HI.out⟩
        case measure => simp only [intOf]; omega
      · have HI : Hid (¬ eachN xs) := fun h => hin (h k (by rw [HN.out]; exact hkm))
        rw [decide_eq_false hin]
        clear hin HK
        go_wp2
        go_ret
        exact ⟨⟨_, rfl, ⟨fun h => absurd h (by decide), fun h => absurd h HI.out⟩⟩, rfl⟩
    · obtain rfl : k = N := by omega
      have hkm' : decide ((k : Int) < k) = false := by simp
      have HI : Hid (eachN xs) := fun i hi => HK.out i (by rw [HN.out] at hi; exact hi)
      clear HK
      go_wp2
      go_ret
      exact ⟨⟨_, rfl, ⟨fun _ => HI.out, fun _ => rfl⟩⟩, rfl⟩

/-- how many of the first so many points are less -/
def placeF (n s m i : Int) : Int := if tok n s = true ∧ 1 ≤ m ∧ m ≤ n ∧ 0 ≤ i ∧ i < m then (lessT n s (pt n s i) m.toNat : Nat) else -1

theorem placeF_yes {n s : Int} {m i : Nat} (h : tok n s = true) (h1 : 1 ≤ m) (hm : (m : Int) ≤ n) (hi : i < m) : placeF n s m i = (lessT n s (pt n s i) m : Nat) := by
  unfold placeF
  rw [if_pos ⟨h, by omega, hm, by omega, by omega⟩, Int.toNat_natCast]

theorem placeF_no {n s m i : Int} (h : ¬ (tok n s = true ∧ 1 ≤ m ∧ m ≤ n ∧ 0 ≤ i ∧ i < m)) : placeF n s m i = -1 := if_neg h

theorem cntB_pts (n s x : Int) (m : Nat) : cntB (ptsL n s m) x = lessT n s x m := by
  unfold cntB ptsL lessT
  rw [List.countP_map]
  rfl

theorem cntB_ptsTake {n s x : Int} {m k : Nat} (h : k ≤ m) : cntB ((ptsL n s m).take k) x = lessT n s x k := by
  have e : (ptsL n s m).take k = ptsL n s k := by
    unfold ptsL
    rw [← List.map_take, List.take_range, Nat.min_eq_left h]
  rw [e, cntB_pts]

set_option maxHeartbeats 1000000 in
theorem placeIn_any (n s m i : Int) (w : World) :
    Calls Try.prog 35 #[(.agg #[.int .i64 (n), .int .i64 (s)]), .int .i64 m, .int .i64 i] w (IntPost (placeF n s m i) w) := by
  
  have hp := firstPoints_any n s m (w.alloc (.cells #[.int .i64 n, .int .i64 s] 24))
  by_cases hc : tok n s = true ∧ 1 ≤ m ∧ m ≤ n
  · obtain ⟨ht, h0, h1⟩ := hc
    have hb := tok_bd ht
    obtain ⟨m, rfl⟩ := Int.eq_ofNat_of_zero_le (by omega : 0 ≤ m)
    rw [firstF_yes ht h0 h1, Int.toNat_natCast] at hp
    by_cases i0 : i < 0
    · rw [placeF_no (by omega)]
      clear ht
      go_enter Try.func35, Try.ntmps35
      go_wp2_with fail
      refine (hp).mono ?_; rintro e w1 ⟨v1, rfl, ho1, hb1⟩
      have hz1 := hb1.size
      try simp at hz1
      clear hp
      obtain ⟨g, off, cap, rfl, HC⟩ := pts_cells ho1.reads (by omega)
      go_wp2
      go_ret
      exact ⟨rfl, (by repeat (first | exact Below.refl _ _ | assumption | (refine Below.trans ?_ (Below.mono (by assumption) (by first | omega | (simp <;> omega)))) | (refine Below.alloc ?_ (by first | omega | (simp <;> omega)) _) | (refine below_drewN ?_ _) | (refine Below.drew ?_) | (refine Below.setCell ?_ (by first | omega | (simp <;> omega)) _)))⟩
    by_cases i1 : m ≤ i
    · rw [placeF_no (by omega)]
      clear ht
      go_enter Try.func35, Try.ntmps35
      go_wp2_with fail
      refine (hp).mono ?_; rintro e w1 ⟨v1, rfl, ho1, hb1⟩
      have hz1 := hb1.size
      try simp at hz1
      clear hp
      obtain ⟨g, off, cap, rfl, HC⟩ := pts_cells ho1.reads (by omega)
      go_wp2
      go_ret
      exact ⟨rfl, (by repeat (first | exact Below.refl _ _ | assumption | (refine Below.trans ?_ (Below.mono (by assumption) (by first | omega | (simp <;> omega)))) | (refine Below.alloc ?_ (by first | omega | (simp <;> omega)) _) | (refine below_drewN ?_ _) | (refine Below.drew ?_) | (refine Below.setCell ?_ (by first | omega | (simp <;> omega)) _)))⟩
    obtain ⟨i, rfl⟩ := Int.eq_ofNat_of_zero_le (by omega : 0 ≤ i)
    rw [placeF_yes ht (by omega) h1 (by omega)]
    clear ht
    go_enter Try.func35, Try.ntmps35
    go_wp2_with fail
    refine (hp).mono ?_; rintro e w1 ⟨v1, rfl, ho1, hb1⟩
    have hz1 := hb1.size
    try simp at hz1
    clear hp
    have hR := ho1.reads
    obtain ⟨g, off, cap, rfl, HC⟩ := pts_cells ho1.reads (by omega)
    have hB1 : Below w.heap.size w w1 := (by repeat (first | exact Below.refl _ _ | assumption | (refine Below.trans ?_ (Below.mono (by assumption) (by first | omega | (simp <;> omega)))) | (refine Below.alloc ?_ (by first | omega | (simp <;> omega)) _) | (refine below_drewN ?_ _) | (refine Below.drew ?_) | (refine Below.setCell ?_ (by first | omega | (simp <;> omega)) _)))
    have ci := HC.out i (by omega)
    have hlen := ptsL_length n s m
    clear ho1 hb1
    go_wp2_with fail
    refine (countBelow_any _ (ptsL n s m) (pt n s i) _ hR (by omega)).mono ?_; rintro e w2 ⟨rfl, rfl⟩
    rw [cntB_pts]
    clear hR
    go_wp2
    go_ret
    exact ⟨rfl, hB1⟩
  · rw [firstF_no hc] at hp
    rw [placeF_no (fun h => hc ⟨h.1, h.2.1, h.2.2.1⟩)]
    clear hc
    by_cases i0 : i < 0
    · go_enter Try.func35, Try.ntmps35
      go_wp2_with fail
      refine (hp).mono ?_; rintro e w1 ⟨v1, rfl, ho1, hb1⟩
      have hz1 := hb1.size
      try simp at hz1
      clear hp
      obtain ⟨a, cap, rfl⟩ := nil_cells ho1.reads
      go_wp2
      go_ret
      exact ⟨rfl, (by repeat (first | exact Below.refl _ _ | assumption | (refine Below.trans ?_ (Below.mono (by assumption) (by first | omega | (simp <;> omega)))) | (refine Below.alloc ?_ (by first | omega | (simp <;> omega)) _) | (refine below_drewN ?_ _) | (refine Below.drew ?_) | (refine Below.setCell ?_ (by first | omega | (simp <;> omega)) _)))⟩
    · have i1 : (0 : Int) ≤ i := by omega
      go_enter Try.func35, Try.ntmps35
      go_wp2_with fail
      refine (hp).mono ?_; rintro e w1 ⟨v1, rfl, ho1, hb1⟩
      have hz1 := hb1.size
      try simp at hz1
      clear hp
      obtain ⟨a, cap, rfl⟩ := nil_cells ho1.reads
      go_wp2
      go_ret
      exact ⟨rfl, (by repeat (first | exact Below.refl _ _ | assumption | (refine Below.trans ?_ (Below.mono (by assumption) (by first | omega | (simp <;> omega)))) | (refine Below.alloc ?_ (by first | omega | (simp <;> omega)) _) | (refine below_drewN ?_ _) | (refine Below.drew ?_) | (refine Below.setCell ?_ (by first | omega | (simp <;> omega)) _)))⟩

set_option maxHeartbeats 1000000 in
theorem specPlaceIn_any (n s m i : Int) (w : World) :
    Calls Try.prog 36 #[(.agg #[.int .i64 (n), .int .i64 (s)]), .int .i64 m, .int .i64 i] w (IntPost (placeF n s m i) w) := by
  
  have hp := specFirstPoints_any n s m (w.alloc (.cells #[.int .i64 n, .int .i64 s] 24))
  by_cases hc : tok n s = true ∧ 1 ≤ m ∧ m ≤ n
  · obtain ⟨ht, h0, h1⟩ := hc
    have hb := tok_bd ht
    obtain ⟨m, rfl⟩ := Int.eq_ofNat_of_zero_le (by omega : 0 ≤ m)
    rw [firstF_yes ht h0 h1, Int.toNat_natCast] at hp
    by_cases hi : 0 ≤ i ∧ i < m
    · obtain ⟨i0, i1⟩ := hi
      obtain ⟨i, rfl⟩ := Int.eq_ofNat_of_zero_le (by omega : 0 ≤ i)
      rw [placeF_yes ht (by omega) h1 (by omega)]
      have HL := Lib.hid (show (decide ((0 : Int) ≤ i) && decide ((i : Int) ≤ (m : Int) - 1)) = true by simp; omega)
      clear ht
      go_enter Try.func36, Try.ntmps36
      go_wp2_with fail
      refine (hp).mono ?_; rintro e w1 ⟨v1, rfl, ho1, hb1⟩
      have hz1 := hb1.size
      try simp at hz1
      clear hp
      obtain ⟨g, off, cap, rfl, HC⟩ := pts_cells ho1.reads (by omega)
      have hB1 : Below w.heap.size w w1 := (by repeat (first | exact Below.refl _ _ | assumption | (refine Below.trans ?_ (Below.mono (by assumption) (by first | omega | (simp <;> omega)))) | (refine Below.alloc ?_ (by first | omega | (simp <;> omega)) _) | (refine below_drewN ?_ _) | (refine Below.drew ?_) | (refine Below.setCell ?_ (by first | omega | (simp <;> omega)) _)))
      clear ho1 hb1
      go_wp2_with fail
      refine (l1In_any _ _ _ _).mono ?_; rintro e w2 ⟨rfl, rfl⟩
      rw [HL.out]
      go_wp2_with fail
      go_loopw [8, 9] (fun y x wr => ∃ (k c q : Nat), x = .int .i64 k ∧ y = .int .i64 c ∧ k ≤ m ∧ c ≤ k ∧ Hid (lessT n s (pt n s i) k = c) ∧ wr = w1.drewN q) (fun _ x _ => m - (intOf x).toNat)
      case atStart => exact ⟨0, 0, 0, rfl, rfl, by omega, by omega, by show _ = _; rfl, rfl⟩
      case round =>
        obtain ⟨k, c, q, rfl, rfl, hk, hc, HK, rfl⟩ := hrel
        by_cases hkm : k < m
        · have hkm' : (k : Int) < m := by omega
          have ck := HC.out k hkm
          have ci := HC.out i (by omega)
          by_cases c1 : pt n s k < pt n s i
          · have HK2 : Hid (lessT n s (pt n s i) (k + 1) = c + 1) := by show _ = _; rw [lessT_yes c1, HK.out]
            go_wp2_with fail
            go_quiet (fail)
            go_wp2_with fail
            go_roundw
            case rel => exact ⟨k + 1, c + 1, q + nq, by go_num, by go_num, by omega, by omega, HK2.out, by simp⟩
            case measure => simp only [intOf]; omega
          · have HK2 : Hid (lessT n s (pt n s i) (k + 1) = c) := by show _ = _; rw [lessT_no c1, HK.out]
            have d1 : decide (pt n s k < pt n s i) = false := by simpa using c1
            go_wp2_with fail
            go_quiet (fail)
            go_wp2_with fail
            go_roundw
            case rel => exact ⟨k + 1, c, q + nq, by go_num, by trivial, by omega, by omega, HK2.out, by simp⟩
            case measure => simp only [intOf]; omega
        · obtain rfl : k = m := by omega
          have hkm' : decide ((k : Int) < k) = false := by simp
          go_wp2
          go_ret
          exact ⟨by rw [HK.out]; rfl, below_drewN hB1 q⟩
    · have HL := Lib.hid (show (decide ((0 : Int) ≤ i) && decide (i ≤ (m : Int) - 1)) = false by simp; omega)
      rw [placeF_no (fun h => hi ⟨h.2.2.2.1, h.2.2.2.2⟩)]
      clear hi ht
      go_enter Try.func36, Try.ntmps36
      go_wp2_with fail
      refine (hp).mono ?_; rintro e w1 ⟨v1, rfl, ho1, hb1⟩
      have hz1 := hb1.size
      try simp at hz1
      clear hp
      obtain ⟨g, off, cap, rfl, HC⟩ := pts_cells ho1.reads (by omega)
      go_wp2_with fail
      refine (l1In_any _ _ _ _).mono ?_; rintro e w2 ⟨rfl, rfl⟩
      rw [HL.out]
      go_wp2
      go_ret
      exact ⟨rfl, (by repeat (first | exact Below.refl _ _ | assumption | (refine Below.trans ?_ (Below.mono (by assumption) (by first | omega | (simp <;> omega)))) | (refine Below.alloc ?_ (by first | omega | (simp <;> omega)) _) | (refine below_drewN ?_ _) | (refine Below.drew ?_) | (refine Below.setCell ?_ (by first | omega | (simp <;> omega)) _)))⟩
  · rw [firstF_no hc] at hp
    rw [placeF_no (fun h => hc ⟨h.1, h.2.1, h.2.2.1⟩)]
    clear hc
    have HL := Lib.hid (show (decide ((0 : Int) ≤ i) && decide (i ≤ -1)) = false by simp; omega)
    go_enter Try.func36, Try.ntmps36
    go_wp2_with fail
    refine (hp).mono ?_; rintro e w1 ⟨v1, rfl, ho1, hb1⟩
    have hz1 := hb1.size
    try simp at hz1
    clear hp
    obtain ⟨a, cap, rfl⟩ := nil_cells ho1.reads
    go_wp2_with fail
    refine (l1In_any _ _ _ _).mono ?_; rintro e w2 ⟨rfl, rfl⟩
    rw [HL.out]
    go_wp2
    go_ret
    exact ⟨rfl, (by repeat (first | exact Below.refl _ _ | assumption | (refine Below.trans ?_ (Below.mono (by assumption) (by first | omega | (simp <;> omega)))) | (refine Below.alloc ?_ (by first | omega | (simp <;> omega)) _) | (refine below_drewN ?_ _) | (refine Below.drew ?_) | (refine Below.setCell ?_ (by first | omega | (simp <;> omega)) _)))⟩
end Go.Proofs.Ytpdnehcaogdjiaa
