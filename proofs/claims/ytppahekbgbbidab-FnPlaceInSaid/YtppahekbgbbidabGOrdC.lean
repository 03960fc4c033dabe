/- Contracts of countBelow and hasEachNumber of the program, and of PlaceIn and TurnedPairs, of the program and of the model. Contract of OrderOf of the program. Contract of OrderOf of the model. -/
import Derived.Test.YtppahekbgbbidabGKinds
import Derived.Test.YtppahekbgbbidabGOrd
import Derived.Test.YtppahekbgbbidabGSort
set_option linter.unusedVariables false
namespace Go.Proofs.Ytppahekbgbbidab
open Go.ChangeShapes Go.WideShapes Go.ChangeAt Go.RowKit Go.Joins N

/-- how many numbers of a row are less -/
def cntB (xs : List Int) (x : Int) : Nat := xs.countP fun y => decide (y < x)

theorem cntB_take {xs : List Int} {x X : Int} {k c : Nat} (h : k < xs.length) (hX : xs.getD k 0 = X) (hc : cntB (xs.take k) x = c) : cntB (xs.take (k + 1)) x = if X < x then c + 1 else c := by
  unfold cntB at *
  rw [take_one xs h, List.countP_append, hc, hX]
  by_cases e : X < x
  · rw [if_pos e]; simp [e]
  · rw [if_neg e]; simp [e]

theorem cntB_le (xs : List Int) (x : Int) : cntB xs x ≤ xs.length := List.countP_le_length

set_option maxHeartbeats 1000000 in
theorem countBelow_any (v : Value) (xs : List Int) (x : Int) (w : World) (hv : Reads w v xs) (hx : xs.length ≤ 1000000) :
    Calls Try.prog 74 #[v, .int .i64 x] w fun e w' => e = .returned (.int .i64 ((cntB xs x : Nat) : Int)) ∧ w = w' := by
  obtain ⟨N, hN⟩ : ∃ N, xs.length = N := ⟨_, rfl⟩
  obtain ⟨a, cap, rfl, HC0⟩ := hv.cells hN
  clear hv
  rw [hN] at hx
  by_cases h0 : N = 0
  · subst h0
    obtain rfl := nil_of_len hN
    clear HC0 hN
    go_enter Try.func74, Try.ntmps74
    go_wp2_with fail
    go_loop [5, 10] (fun y i => y = .int .i64 0 ∧ i = .int .i64 0) (fun _ _ => 0)
    case atStart => exact ⟨rfl, rfl⟩
    case round =>
      obtain ⟨rfl, rfl⟩ := hrel
      go_wp2
      go_ret
      exact ⟨rfl, rfl⟩
  · obtain ⟨g, off, rfl, HC⟩ := HC0 h0
    have HN := Lib.hid hN
    clear HC0 hN
    go_enter Try.func74, Try.ntmps74
    go_wp2_with fail
    go_loop [5, 10] (fun y i => ∃ k c : Nat, i = .int .i64 k ∧ y = .int .i64 c ∧ k ≤ N ∧ c ≤ k ∧ Hid (cntB (xs.take k) x = c)) (fun _ i => N - (intOf i).toNat)
    case atStart => exact ⟨0, 0, rfl, rfl, by omega, by omega, by show _ = _; simp [cntB]⟩
    case round =>
      obtain ⟨k, c, rfl, rfl, hk, hc, HK⟩ := hrel
      by_cases hkm : k < N
      · have hkm' : (k : Int) < N := by omega
        have ck := HC.out k hkm
        have hS : ∀ X, xs.getD k 0 = X → cntB (xs.take (k + 1)) x = if X < x then c + 1 else c := fun X hX => cntB_take (by rw [HN.out]; exact hkm) hX HK.out
        generalize xs.getD k 0 = X at *
        have hS2 := hS X rfl
        clear hS
        by_cases he : X < x
        · rw [if_pos he] at hS2
          have HK2 := Lib.hid hS2
          clear hS2
          go_wp2_with fail
          go_round
          case rel => exact ⟨k + 1, c + 1, by go_num, by go_num, by omega, by omega, HK2.out⟩
          case measure => simp only [intOf]; omega
        · rw [if_neg he] at hS2
          have HK2 := Lib.hid hS2
          have he' : decide (X < x) = false := by simpa using he
          clear hS2
          go_wp2_with fail
          go_round
          case rel => exact ⟨k + 1, c, by go_num, by trivial, by omega, by omega, HK2.out⟩
          case measure => simp only [intOf]; omega
      · obtain rfl : k = N := by omega
        have hkm' : decide ((k : Int) < k) = false := by simp
        have HK2 : Hid (cntB xs x = c) := by
          have h := HK.out
          rwa [List.take_of_length_le (by rw [HN.out]; omega)] at h
        clear HC
        go_wp2
        go_ret
        exact ⟨ret_int (by rw [HK2.out]), rfl⟩

/-- has a row each number that is less than its length -/
def eachN (xs : List Int) : Prop := ∀ i : Nat, i < xs.length → (i : Int) ∈ xs

/-- a truth value comes back, which says whether p holds; nothing has changed -/
def BoolPost (p : Prop) (w : World) (e : Ending) (w' : World) : Prop := (∃ b : Bool, e = .returned (.bool b) ∧ (b = true ↔ p)) ∧ w = w'

set_option maxHeartbeats 1000000 in
theorem hasEach_any (v : Value) (xs : List Int) (w : World) (hv : Reads w v xs) (hx : xs.length ≤ 1000000) :
    Calls Try.prog 77 #[v] w (BoolPost (eachN xs) w) := by
  obtain ⟨N, hN⟩ : ∃ N, xs.length = N := ⟨_, rfl⟩
  have hR := hv
  obtain ⟨a, cap, rfl, HC0⟩ := hv.cells hN
  have HN := Lib.hid hN
  clear hv HC0 hN
  rw [HN.out] at hx
  go_enter Try.func77, Try.ntmps77
  go_wp2_with fail
  go_loop [6] (fun i => ∃ k : Nat, i = .int .i64 k ∧ k ≤ N ∧ Hid (∀ i : Nat, i < k → (i : Int) ∈ xs)) (fun i => N - (intOf i).toNat)
  case atStart => exact ⟨0, rfl, by omega, fun i hi => by omega⟩
  case round =>
    obtain ⟨k, rfl, hk, HK⟩ := hrel
    by_cases hkm : k < N
    · have hkm' : (k : Int) < N := by omega
      go_wp2_with fail
      refine (contains_any _ xs k _ hR (by rw [HN.out]; omega)).mono ?_; rintro e w1 ⟨rfl, rfl⟩
      by_cases hin : (k : Int) ∈ xs
      · have HI : Hid (∀ i : Nat, i < k + 1 → (i : Int) ∈ xs) := fun i hi => by
          by_cases e : i = k
          · rw [e]; exact hin
          · exact HK.out i (by omega)
        rw [decide_eq_true hin]
        clear hin HK
        go_wp2_with fail
        go_round
        case rel => exact ⟨k + 1, by go_num, by omega, HI.out⟩
        case measure => simp only [intOf]; omega
      · have HI : Hid (¬ eachN xs) := fun h => hin (h k (by rw [HN.out]; exact hkm))
        rw [decide_eq_false hin]
        clear hin HK
        go_wp2
        go_ret
        exact ⟨⟨_, rfl, ⟨fun h => absurd h (by decide), fun h => absurd h HI.out⟩⟩, rfl⟩
    · obtain rfl : k = N := by omega
      have hkm' : decide ((k : Int) < k) = false := by simp
      have HI : Hid (eachN xs) := fun i hi => HK.out i (by rw [HN.out] at hi; exact hi)
      clear HK
      go_wp2
      go_ret
      exact ⟨⟨_, rfl, ⟨fun _ => HI.out, fun _ => rfl⟩⟩, rfl⟩

/-- how many of the first so many points are less -/
def placeF (n s m i : Int) : Int := if tok n s = true ∧ 1 ≤ m ∧ m ≤ n ∧ 0 ≤ i ∧ i < m then (lessT n s (pt n s i) m.toNat : Nat) else -1

theorem placeF_yes {n s : Int} {m i : Nat} (h : tok n s = true) (h1 : 1 ≤ m) (hm : (m : Int) ≤ n) (hi : i < m) : placeF n s m i = (lessT n s (pt n s i) m : Nat) := by
  unfold placeF
  rw [if_pos ⟨h, by omega, hm, by omega, by omega⟩, Int.toNat_natCast]

theorem placeF_no {n s m i : Int} (h : ¬ (tok n s = true ∧ 1 ≤ m ∧ m ≤ n ∧ 0 ≤ i ∧ i < m)) : placeF n s m i = -1 := if_neg h

theorem cntB_pts (n s x : Int) (m : Nat) : cntB (ptsL n s m) x = lessT n s x m := by
  unfold cntB ptsL lessT
  rw [List.countP_map]
  rfl

theorem cntB_ptsTake {n s x : Int} {m k : Nat} (h : k ≤ m) : cntB ((ptsL n s m).take k) x = lessT n s x k := by
  have e : (ptsL n s m).take k = ptsL n s k := by
    unfold ptsL
    rw [← List.map_take, List.take_range, Nat.min_eq_left h]
  rw [e, cntB_pts]

set_option maxHeartbeats 1000000 in
theorem placeIn_any (n s m i : Int) (w : World) :
    Calls Try.prog 43 #[(.agg #[.int .i64 (n), .int .i64 (s)]), .int .i64 m, .int .i64 i] w (IntPost (placeF n s m i) w) := by
  
  have hp := firstPoints_any n s m (w.alloc (.cells #[.int .i64 n, .int .i64 s] 24))
  by_cases hc : tok n s = true ∧ 1 ≤ m ∧ m ≤ n
  · obtain ⟨ht, h0, h1⟩ := hc
    have hb := tok_bd ht
    obtain ⟨m, rfl⟩ := Int.eq_ofNat_of_zero_le (by omega : 0 ≤ m)
    rw [firstF_yes ht h0 h1, Int.toNat_natCast] at hp
    by_cases i0 : i < 0
    · rw [placeF_no (by omega)]
      clear ht
      go_enter Try.func43, Try.ntmps43
      go_wp2_with fail
      refine (hp).mono ?_; rintro e w1 ⟨v1, rfl, ho1, hb1⟩
      have hz1 := hb1.size
      try simp at hz1
      clear hp
      obtain ⟨g, off, cap, rfl, HC⟩ := pts_cells ho1.reads (by omega)
      go_wp2
      go_ret
      exact ⟨rfl, (by repeat (first | exact Below.refl _ _ | assumption | (refine Below.trans ?_ (Below.mono (by assumption) (by first | omega | (simp <;> omega)))) | (refine Below.alloc ?_ (by first | omega | (simp <;> omega)) _) | (refine below_drewN ?_ _) | (refine Below.drew ?_) | (refine Below.setCell ?_ (by first | omega | (simp <;> omega)) _)))⟩
    by_cases i1 : m ≤ i
    · rw [placeF_no (by omega)]
      clear ht
      go_enter Try.func43, Try.ntmps43
      go_wp2_with fail
      refine (hp).mono ?_; rintro e w1 ⟨v1, rfl, ho1, hb1⟩
      have hz1 := hb1.size
      try simp at hz1
      clear hp
      obtain ⟨g, off, cap, rfl, HC⟩ := pts_cells ho1.reads (by omega)
      go_wp2
      go_ret
      exact ⟨rfl, (by repeat (first | exact Below.refl _ _ | assumption | (refine Below.trans ?_ (Below.mono (by assumption) (by first | omega | (simp <;> omega)))) | (refine Below.alloc ?_ (by first | omega | (simp <;> omega)) _) | (refine below_drewN ?_ _) | (refine Below.drew ?_) | (refine Below.setCell ?_ (by first | omega | (simp <;> omega)) _)))⟩
    obtain ⟨i, rfl⟩ := Int.eq_ofNat_of_zero_le (by omega : 0 ≤ i)
    rw [placeF_yes ht (by omega) h1 (by omega)]
    clear ht
    go_enter Try.func43, Try.ntmps43
    go_wp2_with fail
    refine (hp).mono ?_; rintro e w1 ⟨v1, rfl, ho1, hb1⟩
    have hz1 := hb1.size
    try simp at hz1
    clear hp
    have hR := ho1.reads
    obtain ⟨g, off, cap, rfl, HC⟩ := pts_cells ho1.reads (by omega)
    have hB1 : Below w.heap.size w w1 := (by repeat (first | exact Below.refl _ _ | assumption | (refine Below.trans ?_ (Below.mono (by assumption) (by first | omega | (simp <;> omega)))) | (refine Below.alloc ?_ (by first | omega | (simp <;> omega)) _) | (refine below_drewN ?_ _) | (refine Below.drew ?_) | (refine Below.setCell ?_ (by first | omega | (simp <;> omega)) _)))
    have ci := HC.out i (by omega)
    have hlen := ptsL_length n s m
    clear ho1 hb1
    go_wp2_with fail
    refine (countBelow_any _ (ptsL n s m) (pt n s i) _ hR (by omega)).mono ?_; rintro e w2 ⟨rfl, rfl⟩
    rw [cntB_pts]
    clear hR
    go_wp2
    go_ret
    exact ⟨rfl, hB1⟩
  · rw [firstF_no hc] at hp
    rw [placeF_no (fun h => hc ⟨h.1, h.2.1, h.2.2.1⟩)]
    clear hc
    by_cases i0 : i < 0
    · go_enter Try.func43, Try.ntmps43
      go_wp2_with fail
      refine (hp).mono ?_; rintro e w1 ⟨v1, rfl, ho1, hb1⟩
      have hz1 := hb1.size
      try simp at hz1
      clear hp
      obtain ⟨a, cap, rfl⟩ := nil_cells ho1.reads
      go_wp2
      go_ret
      exact ⟨rfl, (by repeat (first | exact Below.refl _ _ | assumption | (refine Below.trans ?_ (Below.mono (by assumption) (by first | omega | (simp <;> omega)))) | (refine Below.alloc ?_ (by first | omega | (simp <;> omega)) _) | (refine below_drewN ?_ _) | (refine Below.drew ?_) | (refine Below.setCell ?_ (by first | omega | (simp <;> omega)) _)))⟩
    · have i1 : (0 : Int) ≤ i := by omega
      go_enter Try.func43, Try.ntmps43
      go_wp2_with fail
      refine (hp).mono ?_; rintro e w1 ⟨v1, rfl, ho1, hb1⟩
      have hz1 := hb1.size
      try simp at hz1
      clear hp
      obtain ⟨a, cap, rfl⟩ := nil_cells ho1.reads
      go_wp2
      go_ret
      exact ⟨rfl, (by repeat (first | exact Below.refl _ _ | assumption | (refine Below.trans ?_ (Below.mono (by assumption) (by first | omega | (simp <;> omega)))) | (refine Below.alloc ?_ (by first | omega | (simp <;> omega)) _) | (refine below_drewN ?_ _) | (refine Below.drew ?_) | (refine Below.setCell ?_ (by first | omega | (simp <;> omega)) _)))⟩

set_option maxHeartbeats 1000000 in
theorem specPlaceIn_any (n s m i : Int) (w : World) :
    Calls Try.prog 44 #[(.agg #[.int .i64 (n), .int .i64 (s)]), .int .i64 m, .int .i64 i] w (IntPost (placeF n s m i) w) := by
  
  have hp := specFirstPoints_any n s m (w.alloc (.cells #[.int .i64 n, .int .i64 s] 24))
  by_cases hc : tok n s = true ∧ 1 ≤ m ∧ m ≤ n
  · obtain ⟨ht, h0, h1⟩ := hc
    have hb := tok_bd ht
    obtain ⟨m, rfl⟩ := Int.eq_ofNat_of_zero_le (by omega : 0 ≤ m)
    rw [firstF_yes ht h0 h1, Int.toNat_natCast] at hp
    by_cases hi : 0 ≤ i ∧ i < m
    · obtain ⟨i0, i1⟩ := hi
      obtain ⟨i, rfl⟩ := Int.eq_ofNat_of_zero_le (by omega : 0 ≤ i)
      rw [placeF_yes ht (by omega) h1 (by omega)]
      have HL := Lib.hid (show (decide ((0 : Int) ≤ i) && decide ((i : Int) ≤ (m : Int) - 1)) = true by simp; omega)
      clear ht
      go_enter Try.func44, Try.ntmps44
      go_wp2_with fail
      refine (hp).mono ?_; rintro e w1 ⟨v1, rfl, ho1, hb1⟩
      have hz1 := hb1.size
      try simp at hz1
      clear hp
      obtain ⟨g, off, cap, rfl, HC⟩ := pts_cells ho1.reads (by omega)
      have hB1 : Below w.heap.size w w1 := (by repeat (first | exact Below.refl _ _ | assumption | (refine Below.trans ?_ (Below.mono (by assumption) (by first | omega | (simp <;> omega)))) | (refine Below.alloc ?_ (by first | omega | (simp <;> omega)) _) | (refine below_drewN ?_ _) | (refine Below.drew ?_) | (refine Below.setCell ?_ (by first | omega | (simp <;> omega)) _)))
      clear ho1 hb1
      go_wp2_with fail
      refine (l1In_any _ _ _ _).mono ?_; rintro e w2 ⟨rfl, rfl⟩
      rw [HL.out]
      go_wp2_with fail
      go_loopw [8, 9] (fun y x wr => ∃ (k c q : Nat), x = .int .i64 k ∧ y = .int .i64 c ∧ k ≤ m ∧ c ≤ k ∧ Hid (lessT n s (pt n s i) k = c) ∧ wr = w1.drewN q) (fun _ x _ => m - (intOf x).toNat)
      case atStart => exact ⟨0, 0, 0, rfl, rfl, by omega, by omega, by show _ = _; rfl, rfl⟩
      case round =>
        obtain ⟨k, c, q, rfl, rfl, hk, hc, HK, rfl⟩ := hrel
        by_cases hkm : k < m
        · have hkm' : (k : Int) < m := by omega
          have ck := HC.out k hkm
          have ci := HC.out i (by omega)
          by_cases c1 : pt n s k < pt n s i
          · have HK2 : Hid (lessT n s (pt n s i) (k + 1) = c + 1) := by show _ = _; rw [lessT_yes c1, HK.out]
            go_wp2_with fail
            go_quiet (fail)
            go_wp2_with fail
            go_roundw
            case rel => exact ⟨k + 1, c + 1, q + nq, by go_num, by go_num, by omega, by omega, HK2.out, by simp⟩
            case measure => simp only [intOf]; omega
          · have HK2 : Hid (lessT n s (pt n s i) (k + 1) = c) := by show _ = _; rw [lessT_no c1, HK.out]
            have d1 : decide (pt n s k < pt n s i) = false := by simpa using c1
            go_wp2_with fail
            go_quiet (fail)
            go_wp2_with fail
            go_roundw
            case rel => exact ⟨k + 1, c, q + nq, by go_num, by trivial, by omega, by omega, HK2.out, by simp⟩
            case measure => simp only [intOf]; omega
        · obtain rfl : k = m := by omega
          have hkm' : decide ((k : Int) < k) = false := by simp
          go_wp2
          go_ret
          exact ⟨by rw [HK.out]; rfl, below_drewN hB1 q⟩
    · have HL := Lib.hid (show (decide ((0 : Int) ≤ i) && decide (i ≤ (m : Int) - 1)) = false by simp; omega)
      rw [placeF_no (fun h => hi ⟨h.2.2.2.1, h.2.2.2.2⟩)]
      clear hi ht
      go_enter Try.func44, Try.ntmps44
      go_wp2_with fail
      refine (hp).mono ?_; rintro e w1 ⟨v1, rfl, ho1, hb1⟩
      have hz1 := hb1.size
      try simp at hz1
      clear hp
      obtain ⟨g, off, cap, rfl, HC⟩ := pts_cells ho1.reads (by omega)
      go_wp2_with fail
      refine (l1In_any _ _ _ _).mono ?_; rintro e w2 ⟨rfl, rfl⟩
      rw [HL.out]
      go_wp2
      go_ret
      exact ⟨rfl, (by repeat (first | exact Below.refl _ _ | assumption | (refine Below.trans ?_ (Below.mono (by assumption) (by first | omega | (simp <;> omega)))) | (refine Below.alloc ?_ (by first | omega | (simp <;> omega)) _) | (refine below_drewN ?_ _) | (refine Below.drew ?_) | (refine Below.setCell ?_ (by first | omega | (simp <;> omega)) _)))⟩
  · rw [firstF_no hc] at hp
    rw [placeF_no (fun h => hc ⟨h.1, h.2.1, h.2.2.1⟩)]
    clear hc
    have HL := Lib.hid (show (decide ((0 : Int) ≤ i) && decide (i ≤ -1)) = false by simp; omega)
    go_enter Try.func44, Try.ntmps44
    go_wp2_with fail
    refine (hp).mono ?_; rintro e w1 ⟨v1, rfl, ho1, hb1⟩
    have hz1 := hb1.size
    try simp at hz1
    clear hp
    obtain ⟨a, cap, rfl⟩ := nil_cells ho1.reads
    go_wp2_with fail
    refine (l1In_any _ _ _ _).mono ?_; rintro e w2 ⟨rfl, rfl⟩
    rw [HL.out]
    go_wp2
    go_ret
    exact ⟨rfl, (by repeat (first | exact Below.refl _ _ | assumption | (refine Below.trans ?_ (Below.mono (by assumption) (by first | omega | (simp <;> omega)))) | (refine Below.alloc ?_ (by first | omega | (simp <;> omega)) _) | (refine below_drewN ?_ _) | (refine Below.drew ?_) | (refine Below.setCell ?_ (by first | omega | (simp <;> omega)) _)))⟩
end Go.Proofs.Ytppahekbgbbidab

set_option linter.unusedVariables false
namespace Go.Proofs.Ytppahekbgbbidab
open Go.ChangeShapes Go.WideShapes Go.ChangeAt Go.RowKit Go.Joins N

def orderF (n s m : Int) : List Int := if tok n s = true ∧ 1 ≤ m ∧ m ≤ n then ordT n s m.toNat else []

theorem orderF_yes {n s : Int} {m : Nat} (h : tok n s = true) (h0 : 1 ≤ m) (h1 : (m : Int) ≤ n) : orderF n s m = ordT n s m := by
  unfold orderF
  rw [if_pos ⟨h, by omega, h1⟩, Int.toNat_natCast]

theorem orderF_no {n s m : Int} (h : ¬ (tok n s = true ∧ 1 ≤ m ∧ m ≤ n)) : orderF n s m = [] := if_neg h

theorem orderF_len (n s m : Int) : (orderF n s m).length ≤ 60 := by
  unfold orderF
  split
  · rename_i h
    have := tok_bd h.1
    rw [ordT_length]; omega
  · simp

/-- each place holds the time whose place it is -/
theorem place_ordT {n s : Int} (ht : tok n s = true) {m : Nat} (hm : (m : Int) ≤ n) {i : Nat} (hi : i < m) : ∃ t : Nat, t < m ∧ (ordT n s m).getD i 0 = t ∧ lessT n s (pt n s t) m = i := by
  obtain ⟨t, t1, t2, t3⟩ := ordT_at ht hm hi
  obtain ⟨p1, _, p3⟩ := place_at ht hm t1
  refine ⟨t, t1, t2, ?_⟩
  generalize lessT n s (pt n s t) m = j at *
  have h := srt_asc (turns_of ht) hm
  rcases Nat.lt_trichotomy i j with c | c | c
  · have := asc_getD h n c (by rw [srt_length]; exact p1); omega
  · exact c.symm
  · have := asc_getD h n c (by rw [srt_length]; exact hi); omega

set_option maxHeartbeats 2000000 in
theorem orderOf_any (n s m : Int) (w : World) :
    Calls Try.prog 34 #[(.agg #[.int .i64 (n), .int .i64 (s)]), .int .i64 m] w (ListPost (orderF n s m) w) := by
  
  have hp := firstPoints_any n s m (w.alloc (.cells #[.int .i64 n, .int .i64 s] 24))
  by_cases hc : tok n s = true ∧ 1 ≤ m ∧ m ≤ n
  · obtain ⟨ht, h0, h1⟩ := hc
    have hb := tok_bd ht
    obtain ⟨m, rfl⟩ := Int.eq_ofNat_of_zero_le (by omega : 0 ≤ m)
    rw [firstF_yes ht h0 h1, Int.toNat_natCast] at hp
    rw [orderF_yes ht (by omega) h1]
    have HP : Hid (∀ k, k < m → lessT n s (pt n s k) m < m) := fun k hk => (place_at ht h1 hk).1
    have HO : Hid (∀ i, i < m → ∃ t : Nat, t < m ∧ (ordT n s m).getD i 0 = t ∧ lessT n s (pt n s t) m = i) := fun i hi => place_ordT ht h1 hi
    have HI : Hid (∀ i k, i < k → k < m → lessT n s (pt n s i) m ≠ lessT n s (pt n s k) m) := fun i k hik hk e => by
      obtain ⟨_, _, p3⟩ := place_at ht h1 (by omega : i < m)
      obtain ⟨_, _, q3⟩ := place_at ht h1 hk
      rw [e, ← q3] at p3
      have := (turns_of ht).inj i k (by omega) (by omega) (by omega) (by omega) p3
      omega
    obtain ⟨i0, hi, iz0, iz1, iz2⟩ := info_parts infoInt
    have Hi := Lib.hid hi
    have hm0 : ((m : Int) == 0) = false := by simp; omega
    clear hi ht
    go_enter Try.func34, Try.ntmps34
    go_wp2_with fail
    refine (hp).mono ?_; rintro e w1 ⟨v1, rfl, ho1, hb1⟩
    have hz1 := hb1.size
    try simp at hz1
    clear hp
    have hR := ho1.reads
    obtain ⟨g, off, cap, rfl, HC⟩ := pts_cells ho1.reads (by omega)
    have hg1 : g < w1.heap.size := World.block_lt_of_cell? w1 _ (HC.out 0 (by omega))
    have hBw : Below w.heap.size w w1 := (by repeat (first | exact Below.refl _ _ | assumption | (refine Below.trans ?_ (Below.mono (by assumption) (by first | omega | (simp <;> omega)))) | (refine Below.alloc ?_ (by first | omega | (simp <;> omega)) _) | (refine below_drewN ?_ _) | (refine Below.drew ?_) | (refine Below.setCell ?_ (by first | omega | (simp <;> omega)) _)))
    have hlen := ptsL_length n s m
    clear ho1 hb1
    go_wp2_with (at_make; refine wpList_make_full _ rfl _ _ 26 rfl w.heap.size 3 i0 (.int .i64 0) 1 Try.underlying26 Hi.out iz0 iz1 .i64 .i64 _ _ m rfl rfl rfl rfl (by rw [iz2]; omega) (by unfold maxLen; omega) (by omega) ?_)
    intro w2 hown hgrow
    have hz2' := hgrow.size
    have hB2 : Below w1.heap.size w1 w2 := ⟨hgrow.os, hgrow.tape, hgrow.output, hgrow.size, fun k hk => hgrow.block k hk (by simp)⟩
    obtain ⟨cur0, hr0, hs0, _⟩ := RowAt.of_own hown
    have hsz1 := hBw.size
    clear hown hgrow
    obtain ⟨G, hG⟩ : ∃ G, w1.heap.size = G := ⟨_, rfl⟩
    rw [hG] at hg1 hB2 hr0 hsz1 ⊢
    go_wp2_with fail
    go_loopw [20] (fun x wr => ∃ (k : Nat) (cur : Array Value), x = .int .i64 k ∧ k ≤ m ∧ RowAt wr G cur ∧ cur.size = m ∧ Hid (∀ i, i < k → cur[lessT n s (pt n s i) m]? = some (.int .i64 (i : Int))) ∧ Below G w1 wr) (fun x _ => m - (intOf x).toNat)
    case atStart => exact ⟨0, cur0, rfl, by omega, hr0, hs0, fun i hi => by omega, hB2⟩
    case round =>
      obtain ⟨k, cur, rfl, hk, hr, hs, HD, hB⟩ := hrel
      clear hr0 hs0 hB2
      by_cases hkm : k < m
      · have hkm' : (k : Int) < m := by omega
        have ck := (hB.cell (p := ⟨g, off + k, none⟩) hg1).trans (HC.out k hkm)
        have hRk := hR.below (show Below w1.heap.size w1 wr by rw [hG]; exact hB)
        have hpl := HP.out k hkm
        have HJ : Hid (∀ i, i < k → lessT n s (pt n s i) m ≠ lessT n s (pt n s k) m) := fun i hi e => by
          exact HI.out i k hi hkm e
        go_wp2_with fail
        refine (countBelow_any _ (ptsL n s m) (pt n s k) _ hRk (by omega)).mono ?_; rintro e w3 ⟨rfl, rfl⟩
        rw [cntB_pts]
        obtain ⟨c, hcc⟩ : ∃ c, lessT n s (pt n s k) m = c := ⟨_, rfl⟩
        have HCC := Lib.hid hcc
        rw [hcc] at hpl ⊢
        have hc' : (c : Int) < m := by omega
        have c4 := hr.cell c
        obtain ⟨z4, e4⟩ : ∃ z, cur[c]? = some z := ⟨_, Array.getElem?_eq_getElem (by omega)⟩
        rw [e4] at c4
        have f4 := hr.free c
        have r5 := hr.set c (.int .i64 (k : Int))
        have hB5 := hB.setCell (p := ⟨G, c, none⟩) (Nat.le_refl _) (.int .i64 (k : Int))
        clear hcc hr hB ck hRk e4
        go_wp2_with fail
        go_roundw
        case rel =>
          refine ⟨k + 1, cur.setIfInBounds c (.int .i64 (k : Int)), by go_num, by omega, r5, by simp [hs], fun i hi => ?_, hB5⟩
          by_cases hik : i = k
          · subst hik
            rw [HCC.out]
            simp [hs, hpl]
          · rw [Array.getElem?_setIfInBounds, if_neg (by rw [← HCC.out]; exact fun e => HJ.out i (by omega) e.symm)]
            exact HD.out i (by omega)
        case measure => simp only [intOf]; omega
      · obtain rfl : k = m := by omega
        have hkm' : decide ((k : Int) < k) = false := by simp
        have ho : OwnL wr w.heap.size (.slice (some ⟨G, 0, none⟩) k k) (ordT n s k) := by
          have h := RowAt.own (b := w.heap.size) (xs := ordT n s k) hr (by omega) (by rw [ordT_length]; omega) (by rw [ordT_length]; exact hs) (fun i hi => by
            rw [ordT_length] at hi
            obtain ⟨t, t1, t2, t3⟩ := HO.out i hi
            have h := HD.out t t1
            rw [t3] at h
            rw [t2]
            exact h)
          rwa [ordT_length] at h
        have hBf : Below w.heap.size w wr := hBw.trans (hB.mono (by omega))
        clear hr HD hB
        go_wp2
        go_ret
        exact ⟨_, rfl, ho, hBf⟩
  · rw [firstF_no hc] at hp
    rw [orderF_no hc]
    clear hc
    go_enter Try.func34, Try.ntmps34
    go_wp2_with fail
    refine (hp).mono ?_; rintro e w1 ⟨v1, rfl, ho1, hb1⟩
    have hz1 := hb1.size
    try simp at hz1
    clear hp
    obtain ⟨a, cap, rfl⟩ := nil_cells ho1.reads
    go_wp2
    go_ret
    exact ⟨_, rfl, World.ownsRow_nil _ _ _ _, (by repeat (first | exact Below.refl _ _ | assumption | (refine Below.trans ?_ (Below.mono (by assumption) (by first | omega | (simp <;> omega)))) | (refine Below.alloc ?_ (by first | omega | (simp <;> omega)) _) | (refine below_drewN ?_ _) | (refine Below.drew ?_) | (refine Below.setCell ?_ (by first | omega | (simp <;> omega)) _)))⟩
end Go.Proofs.Ytppahekbgbbidab

set_option linter.unusedVariables false
namespace Go.Proofs.Ytppahekbgbbidab
open Go.ChangeShapes Go.WideShapes Go.ChangeAt Go.RowKit Go.Joins N

theorem ordT_put {n s : Int} (ht : tok n s = true) {m : Nat} (hm : (m : Int) < n) :
    ordT n s (m + 1) = (ordT n s m).take (lessT n s (pt n s m) m) ++ (m : Int) :: (ordT n s m).drop (lessT n s (pt n s m) m) := by
  have e : timeF n s (pt n s m) = m := timeF_of ht (by omega) (by omega) rfl
  unfold ordT
  rw [srt_more (turns_of ht) hm, List.map_append, List.map_cons, e, List.map_take, List.map_drop]

set_option maxHeartbeats 4000000 in
theorem specOrderOf_any (n s m : Int) (w : World) :
    Calls Try.prog 35 #[(.agg #[.int .i64 (n), .int .i64 (s)]), .int .i64 m] w (ListPost (orderF n s m) w) := by
  
  have hp := specFirstPoints_any n s m (w.alloc (.cells #[.int .i64 n, .int .i64 s] 24))
  by_cases hc : tok n s = true ∧ 1 ≤ m ∧ m ≤ n
  · obtain ⟨ht, h0, h1⟩ := hc
    have hb := tok_bd ht
    obtain ⟨m, rfl⟩ := Int.eq_ofNat_of_zero_le (by omega : 0 ≤ m)
    rw [firstF_yes ht h0 h1, Int.toNat_natCast] at hp
    rw [orderF_yes ht (by omega) h1]
    have HPut : Hid (∀ k, k < m → ordT n s (k + 1) = (ordT n s k).take (lessT n s (pt n s k) k) ++ (k : Int) :: (ordT n s k).drop (lessT n s (pt n s k) k)) := fun k hk => ordT_put ht (by omega)
    have HAt : Hid (∀ k, k ≤ m → ∀ j, j < k → ∃ t : Nat, t < k ∧ (ordT n s k).getD j 0 = t ∧ (j < lessT n s (pt n s k) k ↔ pt n s t < pt n s k)) := fun k hk j hj => by
      obtain ⟨t, t1, t2, t3⟩ := ordT_at ht (by omega : (k : Int) ≤ n) hj
      refine ⟨t, t1, t2, ?_⟩
      rw [t3]
      exact less_iff (turns_of ht) (by omega) _ hj n
    obtain ⟨i0, hi, iz0, iz1, iz2⟩ := info_parts infoInt
    have Hi := Lib.hid hi
    clear hi ht
    go_enter Try.func35, Try.ntmps35
    go_wp2_with fail
    refine (hp).mono ?_; rintro e w1 ⟨v1, rfl, ho1, hb1⟩
    have hz1 := hb1.size
    try simp at hz1
    clear hp
    obtain ⟨gp, offp, capp, rfl, HCP⟩ := pts_cells ho1.reads (by omega)
    have hgp : gp < w1.heap.size := World.block_lt_of_cell? w1 _ (HCP.out 0 (by omega))
    have hBw : Below w.heap.size w w1 := (by repeat (first | exact Below.refl _ _ | assumption | (refine Below.trans ?_ (Below.mono (by assumption) (by first | omega | (simp <;> omega)))) | (refine Below.alloc ?_ (by first | omega | (simp <;> omega)) _) | (refine below_drewN ?_ _) | (refine Below.drew ?_) | (refine Below.setCell ?_ (by first | omega | (simp <;> omega)) _)))
    have hsw1 := hBw.size
    have hnil := OwnL.mono (b' := w.heap.size) (made_nil w1) hsw1
    have hB0 : Below w1.heap.size w1 (w1.alloc (.cells #[] 3)) := (by repeat (first | exact Below.refl _ _ | assumption | (refine Below.trans ?_ (Below.mono (by assumption) (by first | omega | (simp <;> omega)))) | (refine Below.alloc ?_ (by first | omega | (simp <;> omega)) _) | (refine below_drewN ?_ _) | (refine Below.drew ?_) | (refine Below.setCell ?_ (by first | omega | (simp <;> omega)) _)))
    clear ho1 hb1
    go_wp2_with fail
    go_loopw [6, 7] (fun y x wr => ∃ (k : Nat) (v0 : Value), x = .int .i64 k ∧ v0 = y ∧ k ≤ m ∧ OwnL wr w.heap.size v0 (ordT n s k) ∧ v0 ≠ .slice none 0 0 ∧ Below w1.heap.size w1 wr) (fun _ x _ => m - (intOf x).toNat)
    case atStart => exact ⟨0, _, rfl, rfl, by omega, hnil, by simp, hB0⟩
    case round =>
      obtain ⟨k, v0, rfl, rfl, hk, ho, hne, hB⟩ := hrel
      clear hnil hB0
      by_cases hkm : k < m
      · have hkm' : (k : Int) < m := by omega
        have ckp := (hB.cell (p := ⟨gp, offp + k, none⟩) hgp).trans (HCP.out k hkm)
        have HCK : Hid (∀ t : Nat, t < k → wr.cell? ⟨gp, offp + t, none⟩ = some (.int .i64 (pt n s t))) := fun t ht => (hB.cell (p := ⟨gp, offp + t, none⟩) hgp).trans (HCP.out t (by omega))
        have hlen := ordT_length n s k
        have hS := HPut.out k hkm
        have hAt := HAt.out k hk
        have hTk := lessT_le n s (pt n s k) k
        generalize hT2 : ordT n s (k + 1) = S2 at *
        generalize hT1 : ordT n s k = S at *
        generalize hTT : lessT n s (pt n s k) k = T at *
        have HS := Lib.hid hS
        have HT2 := Lib.hid hT2
        have HLn := Lib.hid hlen
        have HA := Lib.hid hAt
        obtain ⟨g, cap0, cur, rfl, hbg, hr, hs, hn, hm, hcur⟩ := ho.row hlen hne
        have hC := Lib.hid hcur
        have HM := Lib.hid hm
        clear hS hT2 hT1 hTT hlen ho hne hcur hm hAt
        go_wp2_with fail
        go_loopw [8] (fun y wi => ∃ (j q : Nat), y = .int .i64 j ∧ j ≤ T ∧ wi = wr.drewN q) (fun y _ => k - (intOf y).toNat)
        case atStart => exact ⟨0, 0, rfl, by omega, rfl⟩
        case round =>
          obtain ⟨j, q, rfl, hj, rfl⟩ := hrel
          by_cases hjk : j < k
          · have hjk' : (j : Int) < k := by omega
            obtain ⟨t, t1, t2, t3⟩ := HA.out j hjk
            have cj := hr.cell j
            rw [hC.out j hjk, t2] at cj
            have ct := HCK.out t t1
            have htm : (t : Int) < m := by omega
            have ht0 : (0 : Int) ≤ t := by omega
            have HT3 := Lib.hid t3
            clear t2 t3
            by_cases hxy : pt n s t < pt n s k
            · have hj2 : j < T := HT3.out.2 hxy
              go_wp2_with fail
              go_quiet (fail)
              go_wp2_with fail
              go_roundw
              case rel => exact ⟨j + 1, q + nq, by go_num, by omega, by simp⟩
              case measure => simp only [intOf]; omega
            · have d : decide (pt n s t < pt n s k) = false := by simpa using hxy
              have HTj : T = j := by
                have : ¬ j < T := fun h => hxy (HT3.out.1 h)
                omega
              have HTJ := Lib.hid HTj
              clear HTj
              go_wp2_with fail
              go_quiet (fail)
              have HTj := HTJ.out
              clear HTJ
              have hg0 := hr.lt
              have hj1 : (j : Int) ≤ cap0 := by omega
              have hj2 : (j : Int) ≤ k := by omega
              have hj0 : (0 : Int) ≤ j := by omega
              have hown1 : ((wr.drewN (q + nq)).alloc (.cells #[] 3)).ownsRow wr.heap.size 3 1 (.slice (some ⟨wr.heap.size, 0, none⟩) 0 0) 0 [] := World.ownsRow_made (base := wr.heap.size) (e := 3) (size := 1) (wr.drewN (q + nq)) #[] 0 (by simp) (by unfold maxLen; omega) rfl
              have hB1 : Below wr.heap.size wr ((wr.drewN (q + nq)).alloc (.cells #[] 3)) := (by repeat (first | exact Below.refl _ _ | assumption | (refine Below.trans ?_ (Below.mono (by assumption) (by first | omega | (simp <;> omega)))) | (refine Below.alloc ?_ (by first | omega | (simp <;> omega)) _) | (refine below_drewN ?_ _) | (refine Below.drew ?_) | (refine Below.setCell ?_ (by first | omega | (simp <;> omega)) _)))
              have hr1 := hr.below hB1 hg0
              have htl : ((S.take j).map (Value.int .i64)).length = j * 1 := by rw [List.length_map, List.length_take, HLn.out]; omega
              have HTL := Lib.hid htl
              clear htl
              go_wp2_with (at_builtin; refine wpList_append_own _ rfl _ _ 26 rfl wr.heap.size 3 i0 (.int .i64 0) 1 8 Try.underlying26 Hi.out iz0 iz1 iz2 rfl (by decide) _ _ _ rfl hown1 ⟨g, 0, none⟩ j cap0 ((S.take j).map (Value.int .i64)) rfl HTL.out ?c1 ?c2 ?c3 ?c4 (by first | omega | (simp <;> omega)) ?_)
              case c1 => simpa [addr_add] using hr1.newsTake HLn.out hC.out j
              case c2 => simpa using oneCells (S.take j)
              case c3 => unfold maxLen; omega
              case c4 => omega
              intro v6 w6 hown6 hgrow6 hnn6
              have hB6 : Below wr.heap.size wr w6 := hB1.grown hgrow6 (by simp) (fun q hq => by simp [Value.ownBlock] at hq; omega)
              have hr6 := hr.below hB6 hg0
              have hown6' : (w6.alloc (.cells #[.int .i64 (k : Int)] 3)).ownsRow wr.heap.size 3 1 v6 j ((S.take j).map (Value.int .i64)) := by
                rw [List.map_take]
                exact World.ownsRow.alloc hown6 _
              have hs6 := hB6.size
              clear hown1 hB1 hr1 hgrow6 hown6
              go_wp2_with (at_builtin; refine wpList_append_own _ rfl _ _ 26 rfl wr.heap.size 3 i0 (.int .i64 0) 1 8 Try.underlying26 Hi.out iz0 iz1 iz2 rfl (by decide) _ _ _ rfl hown6' ⟨w6.heap.size, 0, none⟩ 1 1 [.int .i64 (k : Int)] rfl rfl ?d1 ?d2 ?d3 ?d4 (by first | omega | (simp <;> omega)) ?_)
              case d1 =>
                intro j u hj
                match j, hj with
                | 0, hj => simp at hj; subst hj; exact cell_of_one (heap_alloc_new w6 _)
                | j + 1, hj => simp at hj
              case d2 => simp [Value.oneCell']
              case d3 => unfold maxLen; omega
              case d4 => omega
              intro v7 w7 hown7 hgrow7 hnn7
              have hB7 : Below wr.heap.size wr w7 := (hB6.alloc hs6 (.cells #[.int .i64 (k : Int)] 3)).grown hgrow7 (by simp; omega) (fun q hq => (World.ownsRow.lt hown6' q hq).1)
              have hr7 := hr.below hB7 hg0
              have hs7 := hB7.size
              have hkj : ((S.drop j).map (Value.int .i64)).length = (k - j) * 1 := by rw [List.length_map, List.length_drop, HLn.out]; omega
              have HKJ := Lib.hid hkj
              clear hkj hown6' hgrow7 hr6 hB6
              go_wp2_with (at_builtin; refine wpList_append_own _ rfl _ _ 26 rfl wr.heap.size 3 i0 (.int .i64 0) 1 8 Try.underlying26 Hi.out iz0 iz1 iz2 rfl (by decide) _ _ _ rfl hown7 ⟨g, j, none⟩ (k - j) (cap0 - j) ((S.drop j).map (Value.int .i64)) rfl HKJ.out ?e1 ?e2 ?e3 ?e4 (by first | omega | (simp <;> omega)) ?_)
              case e1 => simpa [addr_add] using hr7.news HLn.out hC.out j
              case e2 => simpa using oneCells (S.drop j)
              case e3 => unfold maxLen; omega
              case e4 => omega
              intro v8 w8 hown8 hgrow8 hnn8
              have hB8 : Below wr.heap.size wr w8 := hB7.grown hgrow8 (by omega) (fun q hq => (World.ownsRow.lt hown7 q hq).1)
              have hS2 : S2 = S.take j ++ (k : Int) :: S.drop j := by have h := HS.out; rw [HTj] at h; exact h
              have ho8 : OwnL w8 w.heap.size v8 S2 := by
                refine OwnL.mono (b := wr.heap.size) ?_ (Nat.le_trans hsw1 hB.size)
                unfold OwnL
                have e1 : S2.length = j + 1 + (k - j) := by rw [hS2, List.length_append, List.length_cons, List.length_take, List.length_drop, HLn.out]; omega
                have e2 : S2.map (Value.int .i64) = (S.take j).map (Value.int .i64) ++ [.int .i64 (k : Int)] ++ (S.drop j).map (Value.int .i64) := by rw [hS2, List.map_append, List.map_cons, List.append_assoc]; rfl
                rw [e1, e2]
                first | exact hown8 | simpa using hown8
              have hne8 : v8 ≠ .slice none 0 0 := ho8.some_of_len (by rw [hS2, List.length_append, List.length_cons]; omega)
              have hB8' := hB.trans (hB8.mono hB.size)
              clear hown7 hown8 hgrow8 hB7 hB8 hr7
              go_wp2_with fail
              go_roundw
              case rel => exact ⟨k + 1, v8, by go_num, rfl, by omega, by rw [HT2.out]; exact ho8, hne8, hB8'⟩
              case measure => simp only [intOf]; omega
          · have hjk' : decide ((j : Int) < k) = false := by simp; omega
            have HTj : T = j := by omega
            have HTJ := Lib.hid HTj
            clear HTj
            go_wp2_with fail
            go_quiet (fail)
            have HTj := HTJ.out
            clear HTJ
            have hg0 := hr.lt
            have hj1 : (j : Int) ≤ cap0 := by omega
            have hj2 : (j : Int) ≤ k := by omega
            have hj0 : (0 : Int) ≤ j := by omega
            have hown1 : ((wr.drewN (q + nq)).alloc (.cells #[] 3)).ownsRow wr.heap.size 3 1 (.slice (some ⟨wr.heap.size, 0, none⟩) 0 0) 0 [] := World.ownsRow_made (base := wr.heap.size) (e := 3) (size := 1) (wr.drewN (q + nq)) #[] 0 (by simp) (by unfold maxLen; omega) rfl
            have hB1 : Below wr.heap.size wr ((wr.drewN (q + nq)).alloc (.cells #[] 3)) := (by repeat (first | exact Below.refl _ _ | assumption | (refine Below.trans ?_ (Below.mono (by assumption) (by first | omega | (simp <;> omega)))) | (refine Below.alloc ?_ (by first | omega | (simp <;> omega)) _) | (refine below_drewN ?_ _) | (refine Below.drew ?_) | (refine Below.setCell ?_ (by first | omega | (simp <;> omega)) _)))
            have hr1 := hr.below hB1 hg0
            have htl : ((S.take j).map (Value.int .i64)).length = j * 1 := by rw [List.length_map, List.length_take, HLn.out]; omega
            have HTL := Lib.hid htl
            clear htl
            go_wp2_with (at_builtin; refine wpList_append_own _ rfl _ _ 26 rfl wr.heap.size 3 i0 (.int .i64 0) 1 8 Try.underlying26 Hi.out iz0 iz1 iz2 rfl (by decide) _ _ _ rfl hown1 ⟨g, 0, none⟩ j cap0 ((S.take j).map (Value.int .i64)) rfl HTL.out ?c1 ?c2 ?c3 ?c4 (by first | omega | (simp <;> omega)) ?_)
            case c1 => simpa [addr_add] using hr1.newsTake HLn.out hC.out j
            case c2 => simpa using oneCells (S.take j)
            case c3 => unfold maxLen; omega
            case c4 => omega
            intro v6 w6 hown6 hgrow6 hnn6
            have hB6 : Below wr.heap.size wr w6 := hB1.grown hgrow6 (by simp) (fun q hq => by simp [Value.ownBlock] at hq; omega)
            have hr6 := hr.below hB6 hg0
            have hown6' : (w6.alloc (.cells #[.int .i64 (k : Int)] 3)).ownsRow wr.heap.size 3 1 v6 j ((S.take j).map (Value.int .i64)) := by
              rw [List.map_take]
              exact World.ownsRow.alloc hown6 _
            have hs6 := hB6.size
            clear hown1 hB1 hr1 hgrow6 hown6
            go_wp2_with (at_builtin; refine wpList_append_own _ rfl _ _ 26 rfl wr.heap.size 3 i0 (.int .i64 0) 1 8 Try.underlying26 Hi.out iz0 iz1 iz2 rfl (by decide) _ _ _ rfl hown6' ⟨w6.heap.size, 0, none⟩ 1 1 [.int .i64 (k : Int)] rfl rfl ?d1 ?d2 ?d3 ?d4 (by first | omega | (simp <;> omega)) ?_)
            case d1 =>
              intro j u hj
              match j, hj with
              | 0, hj => simp at hj; subst hj; exact cell_of_one (heap_alloc_new w6 _)
              | j + 1, hj => simp at hj
            case d2 => simp [Value.oneCell']
            case d3 => unfold maxLen; omega
            case d4 => omega
            intro v7 w7 hown7 hgrow7 hnn7
            have hB7 : Below wr.heap.size wr w7 := (hB6.alloc hs6 (.cells #[.int .i64 (k : Int)] 3)).grown hgrow7 (by simp; omega) (fun q hq => (World.ownsRow.lt hown6' q hq).1)
            have hr7 := hr.below hB7 hg0
            have hs7 := hB7.size
            have hkj : ((S.drop j).map (Value.int .i64)).length = (k - j) * 1 := by rw [List.length_map, List.length_drop, HLn.out]; omega
            have HKJ := Lib.hid hkj
            clear hkj hown6' hgrow7 hr6 hB6
            by_cases hcj : cap0 = j
            · go_wp2_with (at_builtin; refine wpList_append_own _ rfl _ _ 26 rfl wr.heap.size 3 i0 (.int .i64 0) 1 8 Try.underlying26 Hi.out iz0 iz1 iz2 rfl (by decide) _ _ _ rfl hown7 ⟨g, 0, none⟩ (k - j) _ ((S.drop j).map (Value.int .i64)) rfl HKJ.out ?f1 ?f2 ?f3 ?f4 (by first | omega | (simp <;> omega)) ?_)
              case f1 =>
                intro i u hu
                exfalso
                have e : S.drop j = [] := List.drop_eq_nil_of_le (by rw [HLn.out]; omega)
                first | (rw [← List.map_drop, e] at hu; simp at hu) | (rw [e] at hu; simp at hu) | (simp [e] at hu)
              case f2 => simpa using oneCells (S.drop j)
              case f3 => unfold maxLen; omega
              case f4 => omega
              intro v8 w8 hown8 hgrow8 hnn8
              have hB8 : Below wr.heap.size wr w8 := hB7.grown hgrow8 (by omega) (fun q hq => (World.ownsRow.lt hown7 q hq).1)
              have hS2 : S2 = S.take j ++ (k : Int) :: S.drop j := by have h := HS.out; rw [HTj] at h; exact h
              have ho8 : OwnL w8 w.heap.size v8 S2 := by
                refine OwnL.mono (b := wr.heap.size) ?_ (Nat.le_trans hsw1 hB.size)
                unfold OwnL
                have e1 : S2.length = j + 1 + (k - j) := by rw [hS2, List.length_append, List.length_cons, List.length_take, List.length_drop, HLn.out]; omega
                have e2 : S2.map (Value.int .i64) = (S.take j).map (Value.int .i64) ++ [.int .i64 (k : Int)] ++ (S.drop j).map (Value.int .i64) := by rw [hS2, List.map_append, List.map_cons, List.append_assoc]; rfl
                rw [e1, e2]
                first | exact hown8 | simpa using hown8
              have hne8 : v8 ≠ .slice none 0 0 := ho8.some_of_len (by rw [hS2, List.length_append, List.length_cons]; omega)
              have hB8' := hB.trans (hB8.mono hB.size)
              clear hown7 hown8 hgrow8 hB7 hB8 hr7
              go_wp2_with fail
              go_roundw
              case rel => exact ⟨k + 1, v8, by go_num, rfl, by omega, by rw [HT2.out]; exact ho8, hne8, hB8'⟩
              case measure => simp only [intOf]; omega
            · go_wp2_with (at_builtin; refine wpList_append_own _ rfl _ _ 26 rfl wr.heap.size 3 i0 (.int .i64 0) 1 8 Try.underlying26 Hi.out iz0 iz1 iz2 rfl (by decide) _ _ _ rfl hown7 ⟨g, j, none⟩ (k - j) (cap0 - j) ((S.drop j).map (Value.int .i64)) rfl HKJ.out ?e1 ?e2 ?e3 ?e4 (by first | omega | (simp <;> omega)) ?_)
              case e1 => simpa [addr_add] using hr7.news HLn.out hC.out j
              case e2 => simpa using oneCells (S.drop j)
              case e3 => unfold maxLen; omega
              case e4 => omega
              intro v8 w8 hown8 hgrow8 hnn8
              have hB8 : Below wr.heap.size wr w8 := hB7.grown hgrow8 (by omega) (fun q hq => (World.ownsRow.lt hown7 q hq).1)
              have hS2 : S2 = S.take j ++ (k : Int) :: S.drop j := by have h := HS.out; rw [HTj] at h; exact h
              have ho8 : OwnL w8 w.heap.size v8 S2 := by
                refine OwnL.mono (b := wr.heap.size) ?_ (Nat.le_trans hsw1 hB.size)
                unfold OwnL
                have e1 : S2.length = j + 1 + (k - j) := by rw [hS2, List.length_append, List.length_cons, List.length_take, List.length_drop, HLn.out]; omega
                have e2 : S2.map (Value.int .i64) = (S.take j).map (Value.int .i64) ++ [.int .i64 (k : Int)] ++ (S.drop j).map (Value.int .i64) := by rw [hS2, List.map_append, List.map_cons, List.append_assoc]; rfl
                rw [e1, e2]
                first | exact hown8 | simpa using hown8
              have hne8 : v8 ≠ .slice none 0 0 := ho8.some_of_len (by rw [hS2, List.length_append, List.length_cons]; omega)
              have hB8' := hB.trans (hB8.mono hB.size)
              clear hown7 hown8 hgrow8 hB7 hB8 hr7
              go_wp2_with fail
              go_roundw
              case rel => exact ⟨k + 1, v8, by go_num, rfl, by omega, by rw [HT2.out]; exact ho8, hne8, hB8'⟩
              case measure => simp only [intOf]; omega
      · obtain rfl : k = m := by omega
        have hkm' : decide ((k : Int) < k) = false := by simp
        have hBf : Below w.heap.size w wr := hBw.trans (hB.mono hsw1)
        clear hB
        go_wp2
        go_ret
        exact ⟨_, rfl, ho, hBf⟩
  · rw [firstF_no hc] at hp
    rw [orderF_no hc]
    clear hc
    go_enter Try.func35, Try.ntmps35
    go_wp2_with fail
    refine (hp).mono ?_; rintro e w1 ⟨v1, rfl, ho1, hb1⟩
    have hz1 := hb1.size
    try simp at hz1
    clear hp
    obtain ⟨a, cap, rfl⟩ := nil_cells ho1.reads
    have hBw : Below w.heap.size w w1 := (by repeat (first | exact Below.refl _ _ | assumption | (refine Below.trans ?_ (Below.mono (by assumption) (by first | omega | (simp <;> omega)))) | (refine Below.alloc ?_ (by first | omega | (simp <;> omega)) _) | (refine below_drewN ?_ _) | (refine Below.drew ?_) | (refine Below.setCell ?_ (by first | omega | (simp <;> omega)) _)))
    have hnil := OwnL.mono (b' := w.heap.size) (made_nil w1) hBw.size
    have hBf : Below w.heap.size w (w1.alloc (.cells #[] 3)) := hBw.alloc hBw.size _
    go_wp2_with fail
    go_loopw [6, 7] (fun y x wr => y = .slice (some ⟨w1.heap.size, 0, none⟩) 0 0 ∧ x = .int .i64 0 ∧ wr = w1.alloc (.cells #[] 3)) (fun _ x _ => 0)
    case atStart => exact ⟨rfl, rfl, rfl⟩
    case round =>
      obtain ⟨rfl, rfl, rfl⟩ := hrel
      go_wp2
      go_ret
      exact ⟨_, rfl, hnil, hBf⟩
end Go.Proofs.Ytppahekbgbbidab
