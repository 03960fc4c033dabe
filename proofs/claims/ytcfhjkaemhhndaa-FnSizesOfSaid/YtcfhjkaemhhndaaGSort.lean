/- Contracts of NextAfter and NearAbove of the program. Contracts of insertSorted and sortedPoints of the program. Contract of l2Sorted of the model. -/
import Derived.Test.YtcfhjkaemhhndaaGList
import Derived.Test.YtcfhjkaemhhndaaGMath
import Derived.BigRegion
set_option linter.unusedVariables false
namespace Go.Proofs.Ytcfhjkaemhhndaa
open Go.ChangeShapes Go.WideShapes Go.ChangeAt Go.RowKit Go.Joins N

def IntPost (x : Int) (w : World) (e : Ending) (w' : World) : Prop := e = .returned (.int .i64 x) ∧ Below w.heap.size w w'

/-- what a list of points reads as: its cells -/
theorem pts_cells {n s : Int} {m : Nat} {w : World} {v : Value} (h : Reads w v (ptsL n s m)) (hm : 1 ≤ m) : ∃ g off cap, v = .slice (some ⟨g, off, none⟩) m cap ∧ Hid (∀ j, j < m → w.cell? ⟨g, off + j, none⟩ = some (.int .i64 (pt n s j))) := by
  obtain ⟨a, cap, e, h⟩ := h
  obtain ⟨g, off, rfl, hc⟩ := h (fun e => by have := ptsL_length n s m; rw [e] at this; simp at this; omega)
  rw [ptsL_length] at e hc
  exact ⟨g, off, cap, e, fun j hj => by rw [hc j hj, ptsL_getD _ _ _ _ hj]; rfl⟩

theorem nil_cells {w : World} {v : Value} (h : Reads w v []) : ∃ a cap, v = .slice a 0 cap := by
  obtain ⟨a, cap, e, _⟩ := h
  exact ⟨a, cap, e⟩

set_option maxHeartbeats 1000000 in
theorem nextAfter_any (n s m i : Int) (w : World) :
    Calls Try.prog 46 #[(.agg #[.int .i64 (n), .int .i64 (s)]), .int .i64 m, .int .i64 i] w (IntPost (nextT n s m i) w) := by
  
  by_cases hc : tok n s = true ∧ 1 ≤ m ∧ m ≤ n
  · obtain ⟨ht, h0, h1⟩ := hc
    have hb := tok_bd ht
    obtain ⟨m, rfl⟩ := Int.eq_ofNat_of_zero_le (by omega : 0 ≤ m)
    have hp := firstPoints_any n s m (w.alloc (.cells #[.int .i64 n, .int .i64 s] 24))
    rw [firstF_yes ht h0 h1, Int.toNat_natCast] at hp
    by_cases i0 : i < 0
    · rw [nextT_no (by omega)]
      clear ht
      go_enter Try.func46, Try.ntmps46
      go_wp2_with fail
      refine (hp).mono ?_; rintro e w1 ⟨v1, rfl, ho1, hb1⟩
      have hz1 := hb1.size
      try simp at hz1
      clear hp
      obtain ⟨g, off, cap, rfl, HC⟩ := pts_cells ho1.reads (by omega)
      go_wp2
      go_ret
      exact ⟨rfl, (by repeat (first | exact Below.refl _ _ | assumption | (refine Below.trans ?_ (Below.mono (by assumption) (by first | omega | (simp <;> omega)))) | (refine Below.alloc ?_ (by first | omega | (simp <;> omega)) _) | (refine below_drewN ?_ _) | (refine Below.drew ?_) | (refine Below.setCell ?_ (by first | omega | (simp <;> omega)) _)))⟩
    by_cases i1 : m ≤ i
    · rw [nextT_no (by omega)]
      clear ht
      go_enter Try.func46, Try.ntmps46
      go_wp2_with fail
      refine (hp).mono ?_; rintro e w1 ⟨v1, rfl, ho1, hb1⟩
      have hz1 := hb1.size
      try simp at hz1
      clear hp
      obtain ⟨g, off, cap, rfl, HC⟩ := pts_cells ho1.reads (by omega)
      go_wp2
      go_ret
      exact ⟨rfl, (by repeat (first | exact Below.refl _ _ | assumption | (refine Below.trans ?_ (Below.mono (by assumption) (by first | omega | (simp <;> omega)))) | (refine Below.alloc ?_ (by first | omega | (simp <;> omega)) _) | (refine below_drewN ?_ _) | (refine Below.drew ?_) | (refine Below.setCell ?_ (by first | omega | (simp <;> omega)) _)))⟩
    obtain ⟨i, rfl⟩ := Int.eq_ofNat_of_zero_le (by omega : 0 ≤ i)
    have HT := Lib.hid ht
    clear ht
    go_enter Try.func46, Try.ntmps46
    go_wp2_with fail
    refine (hp).mono ?_; rintro e w1 ⟨v1, rfl, ho1, hb1⟩
    have hz1 := hb1.size
    try simp at hz1
    clear hp
    obtain ⟨g, off, cap, rfl, HC⟩ := pts_cells ho1.reads (by omega)
    have hB1 : Below w.heap.size w w1 := (by repeat (first | exact Below.refl _ _ | assumption | (refine Below.trans ?_ (Below.mono (by assumption) (by first | omega | (simp <;> omega)))) | (refine Below.alloc ?_ (by first | omega | (simp <;> omega)) _) | (refine below_drewN ?_ _) | (refine Below.drew ?_) | (refine Below.setCell ?_ (by first | omega | (simp <;> omega)) _)))
    clear ho1 hb1
    go_wp2_with fail
    go_loopw [8, 24] (fun y x wr => ∃ (k b : Nat), x = .int .i64 k ∧ y = .int .i64 b ∧ k ≤ m ∧ b < m ∧ Hid (IsNext n s k i b) ∧ wr = w1) (fun _ x _ => m - (intOf x).toNat)
    case atStart => exact ⟨0, 0, rfl, rfl, by omega, by omega, .inl ⟨rfl, fun j j0 j1 => by omega⟩, rfl⟩
    case round =>
      obtain ⟨k, b, rfl, rfl, hk, hbm, HI, rfl⟩ := hrel
      by_cases hkm : k < m
      · have hkm' : (k : Int) < m := by omega
        have ck := HC.out k hkm
        have ci := HC.out i (by omega)
        have cb := HC.out b hbm
        by_cases c1 : pt n s i < pt n s k
        · by_cases c2 : b = 0
          · subst c2
            have HN := Lib.hid (next_step_yes HT.out (by omega) HI.out c1 (.inl rfl))
            go_wp2_with fail
            go_roundw
            case rel => exact ⟨k + 1, k, by go_num, rfl, by omega, by omega, HN.out, by trivial⟩
            case measure => simp only [intOf]; omega
          · have c2' : ((b : Int) == 0) = false := by simp; omega
            by_cases c3 : pt n s k < pt n s b
            · have HN := Lib.hid (next_step_yes HT.out (by omega) HI.out c1 (.inr c3))
              go_wp2_with fail
              go_roundw
              case rel => exact ⟨k + 1, k, by go_num, rfl, by omega, by omega, HN.out, by trivial⟩
              case measure => simp only [intOf]; omega
            · have HN := Lib.hid (next_step_no HI.out fun _ => ⟨by omega, by omega⟩)
              go_wp2_with fail
              go_roundw
              case rel => exact ⟨k + 1, b, by go_num, rfl, by omega, by omega, HN.out, by trivial⟩
              case measure => simp only [intOf]; omega
        · have HN := Lib.hid (next_step_no HI.out fun h => absurd h c1)
          go_wp2_with fail
          go_roundw
          case rel => exact ⟨k + 1, b, by go_num, rfl, by omega, by omega, HN.out, by trivial⟩
          case measure => simp only [intOf]; omega
      · obtain rfl : k = m := by omega
        have hkm' : decide ((k : Int) < k) = false := by simp
        have HE := Lib.hid (nextT_of HT.out h0 h1 (by omega) (by omega) HI.out)
        go_wp2
        go_ret
        exact ⟨by rw [HE.out]; rfl, hB1⟩
  · have hp := firstPoints_any n s m (w.alloc (.cells #[.int .i64 n, .int .i64 s] 24))
    rw [firstF_no hc] at hp
    rw [nextT_no (fun h => hc ⟨h.1, h.2.1, h.2.2.1⟩)]
    clear hc
    by_cases i0 : i < 0
    · go_enter Try.func46, Try.ntmps46
      go_wp2_with fail
      refine (hp).mono ?_; rintro e w1 ⟨v1, rfl, ho1, hb1⟩
      have hz1 := hb1.size
      try simp at hz1
      clear hp
      obtain ⟨a, cap, rfl⟩ := nil_cells ho1.reads
      go_wp2
      go_ret
      exact ⟨rfl, (by repeat (first | exact Below.refl _ _ | assumption | (refine Below.trans ?_ (Below.mono (by assumption) (by first | omega | (simp <;> omega)))) | (refine Below.alloc ?_ (by first | omega | (simp <;> omega)) _) | (refine below_drewN ?_ _) | (refine Below.drew ?_) | (refine Below.setCell ?_ (by first | omega | (simp <;> omega)) _)))⟩
    · go_enter Try.func46, Try.ntmps46
      go_wp2_with fail
      refine (hp).mono ?_; rintro e w1 ⟨v1, rfl, ho1, hb1⟩
      have hz1 := hb1.size
      try simp at hz1
      clear hp
      obtain ⟨a, cap, rfl⟩ := nil_cells ho1.reads
      have i1 : (0 : Int) ≤ i := by omega
      go_wp2
      go_ret
      exact ⟨rfl, (by repeat (first | exact Below.refl _ _ | assumption | (refine Below.trans ?_ (Below.mono (by assumption) (by first | omega | (simp <;> omega)))) | (refine Below.alloc ?_ (by first | omega | (simp <;> omega)) _) | (refine below_drewN ?_ _) | (refine Below.drew ?_) | (refine Below.setCell ?_ (by first | omega | (simp <;> omega)) _)))⟩

set_option maxHeartbeats 1000000 in
theorem nearAbove_any (n s m : Int) (w : World) :
    Calls Try.prog 19 #[(.agg #[.int .i64 (n), .int .i64 (s)]), .int .i64 m] w (IntPost (nearA n s m) w) := by
  by_cases h2 : m < 2
  · rw [nearA_no (by omega)]
    go_enter Try.func19, Try.ntmps19
    go_wp2
    go_ret
    exact ⟨rfl, (by repeat (first | exact Below.refl _ _ | assumption | (refine Below.trans ?_ (Below.mono (by assumption) (by first | omega | (simp <;> omega)))) | (refine Below.alloc ?_ (by first | omega | (simp <;> omega)) _) | (refine below_drewN ?_ _) | (refine Below.drew ?_) | (refine Below.setCell ?_ (by first | omega | (simp <;> omega)) _)))⟩
  · have hp := nextAfter_any n s m 0 (w.alloc (.cells #[.int .i64 n, .int .i64 s] 24))
    rw [nextT_zero (by omega)] at hp
    go_enter Try.func19, Try.ntmps19
    go_wp2_with fail
    refine (hp).mono ?_; rintro e w1 ⟨rfl, hb1⟩
    have hz1 := hb1.size
    try simp at hz1
    go_wp2
    go_ret
    exact ⟨rfl, (by repeat (first | exact Below.refl _ _ | assumption | (refine Below.trans ?_ (Below.mono (by assumption) (by first | omega | (simp <;> omega)))) | (refine Below.alloc ?_ (by first | omega | (simp <;> omega)) _) | (refine below_drewN ?_ _) | (refine Below.drew ?_) | (refine Below.setCell ?_ (by first | omega | (simp <;> omega)) _)))⟩
end Go.Proofs.Ytcfhjkaemhhndaa

set_option linter.unusedVariables false
namespace Go.Proofs.Ytcfhjkaemhhndaa
open Go.ChangeShapes Go.WideShapes Go.ChangeAt Go.RowKit Go.Joins N

theorem getD_take_map {cur : Array Value} {xs : List Int} (ht : cur.toList.take (xs.length * 1) = xs.map (Value.int .i64)) (i : Nat) (hi : i < xs.length) : cur[i]? = some (.int .i64 (xs.getD i 0)) := by
  have e : (cur.toList.take (xs.length * 1))[i]? = (xs.map (Value.int .i64))[i]? := by rw [ht]
  rw [Nat.mul_one, List.getElem?_take_of_lt hi] at e
  have e2 : cur[i]? = cur.toList[i]? := by simp
  rw [e2, e, List.getElem?_map, List.getD_eq_getElem?_getD, List.getElem?_eq_getElem hi]
  simp

/-- the block of a row that is the call's own and not empty -/
theorem OwnL.row {w : World} {b : Nat} {v : Value} {xs : List Int} {N : Nat} (h : OwnL w b v xs) (hN : xs.length = N) (h0 : v ≠ .slice none 0 0) :
    ∃ g cap cur, v = .slice (some ⟨g, 0, none⟩) N cap ∧ b ≤ g ∧ RowAt w g cur ∧ cur.size = cap ∧ N ≤ cap ∧ cap ≤ maxLen ∧ ∀ i, i < N → cur[i]? = some (.int .i64 (xs.getD i 0)) := by
  subst hN
  obtain ⟨_, h⟩ := h
  rcases h with ⟨rfl, _⟩ | ⟨g, cap, cur, rfl, hb, hg, hn, hm, hs, ht⟩
  · exact absurd rfl h0
  · exact ⟨g, cap, cur, rfl, hb, hg, by omega, hn, hm, getD_take_map ht⟩

theorem OwnL.some_of_len {w : World} {b : Nat} {v : Value} {xs : List Int} (h : OwnL w b v xs) (h0 : xs.length ≠ 0) : v ≠ .slice none 0 0 := by
  rintro rfl
  obtain ⟨_, h⟩ := h
  rcases h with ⟨_, h⟩ | ⟨g, cap, cur, hv, _⟩
  · exact h0 h
  · cases hv

theorem RowAt.ownL {w : World} {g b cap N : Nat} {cur : Array Value} {xs : List Int} (h : RowAt w g cur) (hb : b ≤ g) (hN : xs.length = N) (hs : cur.size = cap) (hn : N ≤ cap) (hm : cap ≤ maxLen) (hc : ∀ i, i < N → cur[i]? = some (.int .i64 (xs.getD i 0))) : OwnL w b (.slice (some ⟨g, 0, none⟩) N cap) xs := by
  subst hN
  refine ⟨by simp, .inr ⟨g, cap, cur, rfl, hb, h, hn, hm, by omega, ?_⟩⟩
  apply List.ext_getElem?
  intro i
  by_cases hi : i < xs.length
  · rw [Nat.mul_one, List.getElem?_take_of_lt hi, List.getElem?_map, List.getElem?_eq_getElem hi]
    have e := hc i hi
    rw [List.getD_eq_getElem?_getD, List.getElem?_eq_getElem hi] at e
    simpa using e
  · rw [List.getElem?_eq_none (by simp; omega), List.getElem?_eq_none (by simp; omega)]

/-- the row while a number moves down to its place -/
def midAt (xs : List Int) (x : Int) (p i : Nat) : Int := if i < p then xs.getD i 0 else if i = p then x else xs.getD (i - 1) 0

theorem midAt_end {xs : List Int} {x : Int} {p L : Nat} (hL : xs.length = L) (hp : p ≤ L) (hw : xs.Pairwise (· ≤ ·)) (h1 : p = 0 ∨ xs.getD (p - 1) 0 ≤ x) (h2 : ∀ i, p ≤ i → i < L → x < xs.getD i 0) (i : Nat) (hi : i < L + 1) : midAt xs x p i = (ins x xs).getD i 0 := by
  subst hL
  have e : ins x xs = xs.take p ++ x :: xs.drop p := by
    have h := ins_above x (xs.take p) (xs.drop p) (hw.sublist (List.take_sublist _ _)) ?_ ?_
    · rwa [List.take_append_drop] at h
    · intro y hy
      obtain ⟨j, hj, e⟩ := mem_getD 0 hy
      rw [List.length_take] at hj
      rw [List.getD_eq_getElem?_getD, List.getElem?_take_of_lt (by omega), List.getElem?_eq_getElem (by omega)] at e
      rcases h1 with h1 | h1
      · omega
      · rw [List.getD_eq_getElem?_getD, List.getElem?_eq_getElem (by omega)] at h1
        simp at e h1
        rcases Nat.lt_or_ge j (p - 1) with hlt | hge
        · have := List.pairwise_iff_getElem.1 hw j (p - 1) (by omega) (by omega) hlt
          omega
        · have ej : j = p - 1 := by omega
          subst ej
          omega
    · intro y hy
      obtain ⟨j, hj, e⟩ := mem_getD 0 hy
      rw [List.length_drop] at hj
      have h3 := h2 (p + j) (by omega) (by omega)
      rw [List.getD_eq_getElem?_getD] at h3 e
      rw [List.getElem?_drop] at e
      omega
  rw [e, List.getD_eq_getElem?_getD]
  unfold midAt
  by_cases h : i < p
  · rw [if_pos h, List.getElem?_append_left (by simp; omega), List.getElem?_take_of_lt h, List.getD_eq_getElem?_getD]
  · rw [if_neg h, List.getElem?_append_right (by simp; omega)]
    have hl : (xs.take p).length = p := by simp; omega
    rw [hl]
    by_cases h3 : i = p
    · rw [if_pos h3]; subst h3; simp
    · rw [if_neg h3]
      obtain ⟨j, rfl⟩ : ∃ j, i = p + j + 1 := ⟨i - p - 1, by omega⟩
      have e1 : p + j + 1 - p = j + 1 := by omega
      rw [e1, List.getElem?_cons_succ, List.getElem?_drop, List.getD_eq_getElem?_getD]
      rfl

def InsPost (b : Nat) (xs : List Int) (w : World) (e : Ending) (w' : World) : Prop := ∃ v, e = .returned v ∧ OwnL w' b v xs ∧ Below b w w'

set_option maxHeartbeats 2000000 in
theorem insertSorted_any (v : Value) (x : Int) (xs : List Int) (b : Nat) (w : World) (ho : OwnL w b v xs) (hbw : b ≤ w.heap.size) (hw : xs.Pairwise (· ≤ ·)) (hx : xs.length ≤ 100000) :
    Calls Try.prog 66 #[v, .int .i64 x] w (InsPost b (ins x xs) w) := by
  obtain ⟨i0, hi, iz0, iz1, iz2⟩ := info_parts infoInt
  have Hi := Lib.hid hi
  clear hi
  have hown : (w.alloc (.cells #[.int .i64 x] 3)).ownsRow b 3 1 v xs.length (xs.map (Value.int .i64)) := World.ownsRow.alloc ho _
  have hlb := World.ownsRow.lt hown
  obtain ⟨L, hL⟩ : ∃ L, xs.length = L := ⟨_, rfl⟩
  have HW := Lib.hid hw
  have HL := Lib.hid hL
  clear ho hw
  rw [hL] at hx hown
  clear hL
  go_enter Try.func66, Try.ntmps66
  go_wp2_with (at_builtin; refine wpList_append_own _ rfl _ _ 29 rfl b 3 i0 (.int .i64 0) 1 8 Try.underlying29 Hi.out iz0 iz1 iz2 rfl (by decide) _ _ _ rfl hown ⟨w.heap.size, 0, none⟩ 1 1 [.int .i64 x] rfl rfl ?c1 ?c2 ?c3 ?c4 ?c5 ?_)
  case c1 =>
    intro j u hj
    match j, hj with
    | 0, hj => simp at hj; subst hj; exact cell_of_one (heap_alloc_new w _)
    | j + 1, hj => simp at hj
  case c2 => simp [Value.oneCell']
  case c3 => unfold maxLen; omega
  case c4 => omega
  case c5 => simp; omega
  intro v' w5 hown' hgrow _
  have ho5 : OwnL w5 b v' (xs ++ [x]) := by
    unfold OwnL
    rw [List.length_append, List.map_append, HL.out]
    exact hown'
  have hB5 : Below b w w5 := ((Below.refl b w).alloc hbw (.cells #[.int .i64 x] 3)).grown hgrow (by simp; omega) (fun q hq => (hlb q hq).1)
  have hl5 : (xs ++ [x]).length = L + 1 := by rw [List.length_append, HL.out]; rfl
  obtain ⟨g, cap, cur0, rfl, hbg, hr0, hs0, hn, hm, hc0⟩ := ho5.row hl5 (ho5.some_of_len (by omega))
  clear hown hown' hgrow ho5 hlb
  have hC0 : Hid (∀ i, i < L + 1 → cur0[i]? = some (.int .i64 (midAt xs x L i))) := fun i hi => by
    rw [hc0 i hi]
    unfold midAt
    rw [List.getD_eq_getElem?_getD]
    by_cases h : i < L
    · rw [if_pos h, List.getElem?_append_left (by rw [HL.out]; exact h), List.getD_eq_getElem?_getD]
    · have e : i = L := by omega
      rw [if_neg h, if_pos e, List.getElem?_append_right (by rw [HL.out]; omega), HL.out, e]
      simp
  clear hc0 hl5
  have HM := Lib.hid hm
  clear hm
  go_wp2_with fail
  go_loopw [5] (fun y wr => ∃ (p : Nat) (cur : Array Value), y = .int .i64 p ∧ p ≤ L ∧ RowAt wr g cur ∧ cur.size = cap ∧ Hid (∀ i, i < L + 1 → cur[i]? = some (.int .i64 (midAt xs x p i))) ∧ Hid (∀ i, p ≤ i → i < L → x < xs.getD i 0) ∧ Below b w wr) (fun y _ => (intOf y).toNat)
  case atStart => exact ⟨L, cur0, by go_num, by omega, hr0, hs0, hC0, fun i h1 h2 => by omega, hB5⟩
  case round =>
    obtain ⟨p, cur, rfl, hp, hr, hs, HC, HG, hB⟩ := hrel
    clear hr0 hs0 hC0 hB5
    by_cases hp0 : p = 0
    · subst hp0
      have hE : OwnL wr b (.slice (some ⟨g, 0, none⟩) (L + 1) cap) (ins x xs) := RowAt.ownL hr hbg (by rw [ins_length, HL.out]) hs hn HM.out (fun i hi => by rw [HC.out i hi, midAt_end HL.out (by omega) HW.out (.inl rfl) HG.out i hi])
      clear hr HC HG
      go_wp2
      go_ret
      exact ⟨_, rfl, hE, hB⟩
    · obtain ⟨q, rfl⟩ : ∃ q, p = q + 1 := ⟨p - 1, by omega⟩
      have c0 := hr.cell q
      have c1 := hr.cell (q + 1)
      rw [HC.out q (by omega)] at c0
      rw [HC.out (q + 1) (by omega)] at c1
      have e0 : midAt xs x (q + 1) q = xs.getD q 0 := by unfold midAt; rw [if_pos (by omega)]
      have e1 : midAt xs x (q + 1) (q + 1) = x := by unfold midAt; rw [if_neg (by omega), if_pos rfl]
      rw [e0] at c0
      rw [e1] at c1
      have eq1 : ((q + 1 : Nat) : Int) = (q : Int) + 1 := by omega
      rw [eq1]
      obtain ⟨Y, hY⟩ : ∃ Y, xs.getD q 0 = Y := ⟨_, rfl⟩
      rw [hY] at c0
      have HY := Lib.hid hY
      have q0 : (0 : Int) < (q : Int) + 1 := by omega
      have q1 : (q : Int) < (L : Int) + 1 := by omega
      have q2 : (q : Int) + 1 < (L : Int) + 1 := by omega
      have f0 := hr.free q
      have f1 := hr.free (q + 1)
      clear hY e0 e1 eq1
      by_cases hxy : x < Y
      · have hr2 := (hr.set q (.int .i64 x)).set (q + 1) (.int .i64 Y)
        have hB2 : Below b w ((wr.setCell ⟨g, q, none⟩ (.int .i64 x)).setCell ⟨g, q + 1, none⟩ (.int .i64 Y)) := (hB.setCell hbg _).setCell hbg _
        have HC2 : Hid (∀ i, i < L + 1 → ((cur.setIfInBounds q (.int .i64 x)).setIfInBounds (q + 1) (.int .i64 Y))[i]? = some (.int .i64 (midAt xs x q i))) := fun i hi => by
          unfold midAt
          rw [Array.getElem?_setIfInBounds, Array.getElem?_setIfInBounds]
          by_cases h1 : q + 1 = i
          · rw [if_pos h1, if_pos (by simp; omega), if_neg (by omega), if_neg (by omega)]
            have : i - 1 = q := by omega
            rw [this, HY.out]
          · rw [if_neg h1]
            by_cases h2 : q = i
            · rw [if_pos h2, if_pos (by omega), if_neg (by omega), if_pos h2.symm]
            · rw [if_neg h2, HC.out i hi]
              unfold midAt
              by_cases h3 : i < q
              · rw [if_pos (by omega), if_pos h3]
              · rw [if_neg (by omega), if_neg (by omega), if_neg h3, if_neg (by omega)]
        have HG2 : Hid (∀ i, q ≤ i → i < L → x < xs.getD i 0) := fun i h1 h2 => by
          by_cases h3 : i = q
          · rw [h3, HY.out]; exact hxy
          · exact HG.out i (by omega) h2
        clear HC HG hr hB
        go_wp2_with fail
        go_region
        go_wp2_with fail
        go_roundw
        case rel => exact ⟨q, _, by go_num, by omega, hr2, by simp [hs], HC2.out, HG2.out, Below.drew hB2⟩
        case measure => simp only [intOf]; omega
      · have hE : OwnL wr b (.slice (some ⟨g, 0, none⟩) (L + 1) cap) (ins x xs) := RowAt.ownL hr hbg (by rw [ins_length, HL.out]) hs hn HM.out (fun i hi => by rw [HC.out i hi, midAt_end HL.out (by omega) HW.out (.inr (by show xs.getD q 0 ≤ x; rw [HY.out]; omega)) HG.out i hi])
        clear hr HC HG
        have d : decide (x < Y) = false := by simpa using hxy
        go_wp2
        go_ret
        exact ⟨_, rfl, hE, hB⟩

theorem isort_len_pts (n s : Int) (m : Nat) : (isort (ptsL n s m)).length = m := by rw [isort_length, ptsL_length]

set_option maxHeartbeats 1000000 in
theorem sortedPoints_any (n s m : Int) (w : World) :
    Calls Try.prog 64 #[(.agg #[.int .i64 (n), .int .i64 (s)]), .int .i64 m] w (ListPost (isort (firstF n s m)) w) := by
  
  have hp := firstPoints_any n s m (w.alloc (.cells #[.int .i64 n, .int .i64 s] 24))
  by_cases hc : tok n s = true ∧ 1 ≤ m ∧ m ≤ n
  · obtain ⟨ht, h0, h1⟩ := hc
    have hb := tok_bd ht
    obtain ⟨m, rfl⟩ := Int.eq_ofNat_of_zero_le (by omega : 0 ≤ m)
    rw [firstF_yes ht h0 h1, Int.toNat_natCast] at hp ⊢
    clear ht
    go_enter Try.func64, Try.ntmps64
    go_wp2_with fail
    refine (hp).mono ?_; rintro e w1 ⟨v1, rfl, ho1, hb1⟩
    have hz1 := hb1.size
    try simp at hz1
    clear hp
    obtain ⟨g, off, cap, rfl, HC⟩ := pts_cells ho1.reads (by omega)
    have hB1 : Below w.heap.size w w1 := (by repeat (first | exact Below.refl _ _ | assumption | (refine Below.trans ?_ (Below.mono (by assumption) (by first | omega | (simp <;> omega)))) | (refine Below.alloc ?_ (by first | omega | (simp <;> omega)) _) | (refine below_drewN ?_ _) | (refine Below.drew ?_) | (refine Below.setCell ?_ (by first | omega | (simp <;> omega)) _)))
    clear ho1 hb1
    go_wp2_with fail
    go_loopw [5, 12] (fun y x wr => ∃ (k : Nat) (v0 : Value), x = .int .i64 k ∧ v0 = y ∧ k ≤ m ∧ OwnL wr w1.heap.size v0 (isort (ptsL n s k)) ∧ Below w1.heap.size w1 wr) (fun _ x _ => m - (intOf x).toNat)
    case atStart => exact ⟨0, _, rfl, rfl, by omega, World.ownsRow_nil _ _ _ _, Below.refl _ _⟩
    case round =>
      obtain ⟨k, v0, rfl, rfl, hk, ho, hB⟩ := hrel
      by_cases hkm : k < m
      · have hkm' : (k : Int) < m := by omega
        have c1 := HC.out k hkm
        have ck := (hB.cell (p := ⟨g, off + k, none⟩) (World.block_lt_of_cell? w1 _ c1)).trans c1
        have hS := isort_snoc (ptsL n s k) (pt n s k)
        have hS2 : isort (ptsL n s (k + 1)) = ins (pt n s k) (isort (ptsL n s k)) := by rw [ptsL_succ]; exact hS
        have hwk := isort_wk (ptsL n s k)
        have hlen := isort_len_pts n s k
        clear c1 hS
        go_wp2_with fail
        refine (insertSorted_any v0 (pt n s k) _ w1.heap.size _ ho hB.size hwk (by omega)).mono ?_; rintro e w3 ⟨v3, rfl, ho3, hb3⟩
        rw [← hS2] at ho3
        have hB3 := hB.trans hb3
        clear ck ho hb3 hwk hS2 hlen hB
        go_wp2_with fail
        go_roundw
        case rel => exact ⟨k + 1, _, by go_num, rfl, by omega, ho3, hB3⟩
        case measure => simp only [intOf]; omega
      · obtain rfl : k = m := by omega
        have hkm' : decide ((k : Int) < k) = false := by simp
        have hsz := hB1.size
        have ho' : OwnL wr w.heap.size v0 (isort (ptsL n s k)) := OwnL.mono (b := w1.heap.size) ho hsz
        have hB' : Below w.heap.size w wr := hB1.trans (hB.mono hsz)
        clear ho hB
        go_wp2
        go_ret
        exact ⟨_, rfl, ho', hB'⟩
  · rw [firstF_no hc] at hp ⊢
    clear hc
    go_enter Try.func64, Try.ntmps64
    go_wp2_with fail
    refine (hp).mono ?_; rintro e w1 ⟨v1, rfl, ho1, hb1⟩
    have hz1 := hb1.size
    try simp at hz1
    clear hp
    obtain ⟨a, cap, rfl⟩ := nil_cells ho1.reads
    go_wp2_with fail
    go_loopw [5, 12] (fun y x wr => y = .slice none 0 0 ∧ x = .int .i64 0 ∧ wr = w1) (fun _ x _ => 0)
    case atStart => exact ⟨rfl, rfl, rfl⟩
    case round =>
      obtain ⟨rfl, rfl, rfl⟩ := hrel
      go_wp2
      go_ret
      exact ⟨_, rfl, World.ownsRow_nil _ _ _ _, (by repeat (first | exact Below.refl _ _ | assumption | (refine Below.trans ?_ (Below.mono (by assumption) (by first | omega | (simp <;> omega)))) | (refine Below.alloc ?_ (by first | omega | (simp <;> omega)) _) | (refine below_drewN ?_ _) | (refine Below.drew ?_) | (refine Below.setCell ?_ (by first | omega | (simp <;> omega)) _)))⟩
end Go.Proofs.Ytcfhjkaemhhndaa

set_option linter.unusedVariables false
namespace Go.Proofs.Ytcfhjkaemhhndaa
open Go.ChangeShapes Go.WideShapes Go.ChangeAt Go.RowKit Go.Joins N

theorem addr_add (g o j : Nat) : (⟨g, o, none⟩ : Addr).add j = ⟨g, o + j, none⟩ := by unfold Addr.add; split <;> simp_all

/-- the cells of a row from a place on are the row from that place on -/
theorem RowAt.news {w : World} {g : Nat} {cur : Array Value} {xs : List Int} {N : Nat} (h : RowAt w g cur) (hN : xs.length = N) (hc : ∀ i, i < N → cur[i]? = some (.int .i64 (xs.getD i 0))) (at' : Nat) :
    ∀ j u, ((xs.drop at').map (Value.int .i64))[j]? = some u → w.cell? ⟨g, at' + j, none⟩ = some u := by
  intro j u hu
  subst hN
  rw [List.getElem?_map, List.getElem?_drop] at hu
  by_cases hj : at' + j < xs.length
  · rw [List.getElem?_eq_getElem hj] at hu
    simp at hu
    have e := h.cell (at' + j)
    rw [hc _ hj, List.getD_eq_getElem?_getD, List.getElem?_eq_getElem hj] at e
    simp at e
    rw [hu] at e
    exact e
  · rw [List.getElem?_eq_none (by omega)] at hu
    simp at hu

theorem RowAt.newsTake {w : World} {g : Nat} {cur : Array Value} {xs : List Int} {N : Nat} (h : RowAt w g cur) (hN : xs.length = N) (hc : ∀ i, i < N → cur[i]? = some (.int .i64 (xs.getD i 0))) (m : Nat) :
    ∀ j u, ((xs.take m).map (Value.int .i64))[j]? = some u → w.cell? ⟨g, j, none⟩ = some u := by
  intro j u hu
  have h0 := h.news hN hc 0 j u
  rw [Nat.zero_add] at h0
  refine h0 ?_
  rw [List.map_take, List.getElem?_take] at hu
  split at hu
  · simpa using hu
  · cases hu

theorem oneCells (xs : List Int) : ∀ u ∈ xs.map (Value.int .i64), u.oneCell' = true := by
  intro u hu
  obtain ⟨x, _, rfl⟩ := List.mem_map.1 hu
  rfl

set_option maxHeartbeats 4000000 in
theorem l2Sorted_any (v : Value) (xs : List Int) (w : World) (hv : Reads w v xs) (hx : xs.length ≤ 100000) :
    Calls Try.prog 57 #[v] w (ListPost (isort xs) w) := by
  obtain ⟨i0, hi, iz0, iz1, iz2⟩ := info_parts infoInt
  have Hi := Lib.hid hi
  clear hi
  obtain ⟨a, cap, rfl, ha⟩ := hv
  have hnil : OwnL (w.alloc (.cells #[] 3)) w.heap.size (.slice (some ⟨w.heap.size, 0, none⟩) 0 0) [] :=
    World.ownsRow_made (base := w.heap.size) (e := 3) (size := 1) w #[] 0 (by omega) (by unfold maxLen; omega) rfl
  have hB0 : Below w.heap.size w (w.alloc (.cells #[] 3)) := (by repeat (first | exact Below.refl _ _ | assumption | (refine Below.trans ?_ (Below.mono (by assumption) (by first | omega | (simp <;> omega)))) | (refine Below.alloc ?_ (by first | omega | (simp <;> omega)) _) | (refine below_drewN ?_ _) | (refine Below.drew ?_) | (refine Below.setCell ?_ (by first | omega | (simp <;> omega)) _)))
  obtain ⟨N, hN⟩ : ∃ N, xs.length = N := ⟨_, rfl⟩
  have HA : Hid (∀ k, k < N → ∃ g off, a = some ⟨g, off, none⟩ ∧ w.cell? ⟨g, off + k, none⟩ = some (.int .i64 (xs.getD k 0))) := fun k hk => by
    obtain ⟨g, off, e, h⟩ := ha (fun e => by rw [e] at hN; simp at hN; omega)
    exact ⟨g, off, e, h k (by omega)⟩
  have HN := Lib.hid hN
  rw [hN] at hx ⊢
  clear ha hN
  go_enter Try.func57, Try.ntmps57
  go_wp2_with fail
  go_loopw [3, 4] (fun y x wr => ∃ (k : Nat) (v0 : Value), x = .int .i64 k ∧ v0 = y ∧ k ≤ N ∧ OwnL wr w.heap.size v0 (isort (xs.take k)) ∧ v0 ≠ .slice none 0 0 ∧ Below w.heap.size w wr) (fun _ x _ => N - (intOf x).toNat)
  case atStart => exact ⟨0, _, rfl, rfl, by omega, hnil, by simp, hB0⟩
  case round =>
    obtain ⟨k, v0, rfl, rfl, hk, ho, hne, hB⟩ := hrel
    clear hnil hB0
    by_cases hkm : k < N
    · have hkm' : (k : Int) < N := by omega
      obtain ⟨ga, offa, rfl, ca⟩ := HA.out k hkm
      obtain ⟨X, hX⟩ : ∃ X, xs.getD k 0 = X := ⟨_, rfl⟩
      rw [hX] at ca
      have ck := (hB.cell (p := ⟨ga, offa + k, none⟩) (World.block_lt_of_cell? w _ ca)).trans ca
      have hS : isort (xs.take (k + 1)) = ins X (isort (xs.take k)) := by
        rw [List.take_succ_eq_append_getElem (by rw [HN.out]; exact hkm), isort_snoc]
        congr 1
        rw [← hX, List.getD_eq_getElem?_getD, List.getElem?_eq_getElem (by rw [HN.out]; exact hkm)]
        rfl
      have hlen : (isort (xs.take k)).length = k := by rw [isort_length, List.length_take, HN.out]; omega
      generalize hT : isort (xs.take k) = S at *
      generalize hT2 : isort (xs.take (k + 1)) = S2 at *
      have HS := Lib.hid hS
      have HT2 := Lib.hid hT2
      have HLn := Lib.hid hlen
      obtain ⟨g, cap0, cur, rfl, hbg, hr, hs, hn, hm, hcur⟩ := ho.row hlen hne
      have hC := Lib.hid hcur
      clear ca hX hS hT hT2 hlen ho hne hcur
      have HM := Lib.hid hm
      clear hm
      go_wp2_with fail
      go_loopw [5] (fun y wi => ∃ (j q : Nat), y = .int .i64 j ∧ j ≤ k ∧ Hid (∀ i, i < j → S.getD i 0 < X) ∧ wi = wr.drewN q) (fun y _ => k - (intOf y).toNat)
      case atStart => exact ⟨0, 0, rfl, by omega, fun i hi => by omega, rfl⟩
      case round =>
        obtain ⟨j, q, rfl, hj, HJ, rfl⟩ := hrel
        by_cases hjk : j < k
        · have hjk' : (j : Int) < k := by omega
          have cj := hr.cell j
          rw [hC.out j hjk] at cj
          obtain ⟨Y, hY⟩ : ∃ Y, S.getD j 0 = Y := ⟨_, rfl⟩
          rw [hY] at cj
          have HY := Lib.hid hY
          clear hY
          by_cases hxy : Y < X
          · have HJ2 : Hid (∀ i, i < j + 1 → S.getD i 0 < X) := fun i hi => by
              by_cases h : i = j
              · rw [h, HY.out]; exact hxy
              · exact HJ.out i (by omega)
            go_wp2_with fail
            go_quiet (fail)
            go_wp2_with fail
            go_roundw
            case rel => exact ⟨j + 1, q + nq, by go_num, by omega, HJ2.out, by simp⟩
            case measure => simp only [intOf]; omega
          · have d : decide (Y < X) = false := by simpa using hxy
            have HLow : Hid (∀ x ∈ S.take j, x < X) := fun x hx => by
              obtain ⟨i, hi, e⟩ := mem_getD 0 hx
              rw [List.length_take] at hi
              have h := HJ.out i (by omega)
              rw [List.getD_eq_getElem?_getD, List.getElem?_take_of_lt (by omega)] at e
              rw [List.getD_eq_getElem?_getD] at h
              omega
            have HHigh : Hid (∀ y ∈ (S.drop j).head?, X ≤ y) := fun y hy => by
              rw [List.head?_drop] at hy
              have h := HY.out
              rw [List.getD_eq_getElem?_getD] at h
              rw [Option.mem_def] at hy
              rw [hy] at h
              simp at h
              omega
            go_wp2_with fail
            go_quiet (fail)
            have hg0 := hr.lt
            have j1 : (j : Int) ≤ cap0 := by omega
            have j2 : (j : Int) ≤ k := by omega
            have j0 : (0 : Int) ≤ j := by omega
            have hga := World.block_lt_of_cell? wr _ ck
            have hown1 : ((wr.drewN (q + nq)).alloc (.cells #[] 3)).ownsRow wr.heap.size 3 1 (.slice (some ⟨wr.heap.size, 0, none⟩) 0 0) 0 [] := World.ownsRow_made (base := wr.heap.size) (e := 3) (size := 1) (wr.drewN (q + nq)) #[] 0 (by simp) (by unfold maxLen; omega) rfl
            have hB1 : Below wr.heap.size wr ((wr.drewN (q + nq)).alloc (.cells #[] 3)) := (by repeat (first | exact Below.refl _ _ | assumption | (refine Below.trans ?_ (Below.mono (by assumption) (by first | omega | (simp <;> omega)))) | (refine Below.alloc ?_ (by first | omega | (simp <;> omega)) _) | (refine below_drewN ?_ _) | (refine Below.drew ?_) | (refine Below.setCell ?_ (by first | omega | (simp <;> omega)) _)))
            have hr1 := hr.below hB1 hg0
            have htl : ((S.take j).map (Value.int .i64)).length = j * 1 := by rw [List.length_map, List.length_take, HLn.out]; omega
            have HTL := Lib.hid htl
            clear htl
            go_wp2_with (at_builtin; refine wpList_append_own _ rfl _ _ 29 rfl wr.heap.size 3 i0 (.int .i64 0) 1 8 Try.underlying29 Hi.out iz0 iz1 iz2 rfl (by decide) _ _ _ rfl hown1 ⟨g, 0, none⟩ j cap0 ((S.take j).map (Value.int .i64)) rfl HTL.out ?c1 ?c2 ?c3 ?c4 (by first | omega | (simp <;> omega)) ?_)
            case c1 => simpa using hr1.newsTake HLn.out hC.out j
            case c2 => simpa using oneCells (S.take j)
            case c3 => unfold maxLen; omega
            case c4 => omega
            intro v6 w6 hown6 hgrow6 hnn6
            have hB6 : Below wr.heap.size wr w6 := hB1.grown hgrow6 (by simp) (fun q hq => by simp [Value.ownBlock] at hq; omega)
            have hr6 := hr.below hB6 hg0
            have ck6 := (hB6.cell (p := ⟨ga, offa + k, none⟩) hga).trans ck
            have hown6' : (w6.alloc (.cells #[.int .i64 X] 3)).ownsRow wr.heap.size 3 1 v6 j ((S.take j).map (Value.int .i64)) := by
              rw [List.map_take]
              exact World.ownsRow.alloc hown6 _
            have hs6 := hB6.size
            clear hown1 hB1 hr1 hgrow6 hown6
            go_wp2_with (at_builtin; refine wpList_append_own _ rfl _ _ 29 rfl wr.heap.size 3 i0 (.int .i64 0) 1 8 Try.underlying29 Hi.out iz0 iz1 iz2 rfl (by decide) _ _ _ rfl hown6' ⟨w6.heap.size, 0, none⟩ 1 1 [.int .i64 X] rfl rfl ?d1 ?d2 ?d3 ?d4 (by first | omega | (simp <;> omega)) ?_)
            case d1 =>
              intro j u hj
              match j, hj with
              | 0, hj => simp at hj; subst hj; exact cell_of_one (heap_alloc_new w6 _)
              | j + 1, hj => simp at hj
            case d2 => simp [Value.oneCell']
            case d3 => unfold maxLen; omega
            case d4 => omega
            intro v7 w7 hown7 hgrow7 hnn7
            have hB7 : Below wr.heap.size wr w7 := (hB6.alloc hs6 (.cells #[.int .i64 X] 3)).grown hgrow7 (by simp; omega) (fun q hq => (World.ownsRow.lt hown6' q hq).1)
            have hr7 := hr.below hB7 hg0
            have hs7 := hB7.size
            have hkj : ((S.drop j).map (Value.int .i64)).length = (k - j) * 1 := by rw [List.length_map, List.length_drop, HLn.out]; omega
            have HKJ := Lib.hid hkj
            clear hkj hown6' hgrow7 hr6 ck6 hB6
            go_wp2_with (at_builtin; refine wpList_append_own _ rfl _ _ 29 rfl wr.heap.size 3 i0 (.int .i64 0) 1 8 Try.underlying29 Hi.out iz0 iz1 iz2 rfl (by decide) _ _ _ rfl hown7 ⟨g, j, none⟩ (k - j) (cap0 - j) ((S.drop j).map (Value.int .i64)) rfl HKJ.out ?e1 ?e2 ?e3 ?e4 (by first | omega | (simp <;> omega)) ?_)
            case e1 => simpa [addr_add] using hr7.news HLn.out hC.out j
            case e2 => simpa using oneCells (S.drop j)
            case e3 => unfold maxLen; omega
            case e4 => omega
            intro v8 w8 hown8 hgrow8 hnn8
            have hB8 : Below wr.heap.size wr w8 := hB7.grown hgrow8 (by omega) (fun q hq => (World.ownsRow.lt hown7 q hq).1)
            have hS2 : S2 = S.take j ++ X :: S.drop j := by
              rw [HS.out]
              have h := ins_below X (S.take j) (S.drop j) HLow.out HHigh.out
              rwa [List.take_append_drop] at h
            have ho8 : OwnL w8 w.heap.size v8 S2 := by
              refine OwnL.mono (b := wr.heap.size) ?_ hB.size
              unfold OwnL
              have e1 : S2.length = j + 1 + (k - j) := by rw [hS2, List.length_append, List.length_cons, List.length_take, List.length_drop, HLn.out]; omega
              have e2 : S2.map (Value.int .i64) = (S.take j).map (Value.int .i64) ++ [.int .i64 X] ++ (S.drop j).map (Value.int .i64) := by rw [hS2, List.map_append, List.map_cons, List.append_assoc]; rfl
              rw [e1, e2]
              first | exact hown8 | simpa using hown8
            have hne8 : v8 ≠ .slice none 0 0 := ho8.some_of_len (by rw [hS2, List.length_append, List.length_cons]; omega)
            have hB8' := hB.trans (hB8.mono hB.size)
            clear hown7 hown8 hgrow8 hB7 hB8 hr7
            go_wp2_with fail
            go_roundw
            case rel => exact ⟨k + 1, v8, by go_num, rfl, by omega, by rw [HT2.out]; exact ho8, hne8, hB8'⟩
            case measure => simp only [intOf]; omega
        · have hjk' : decide ((j : Int) < k) = false := by simp; omega
          have HLow : Hid (∀ x ∈ S.take j, x < X) := fun x hx => by
            obtain ⟨i, hi, e⟩ := mem_getD 0 hx
            rw [List.length_take] at hi
            have h := HJ.out i (by omega)
            rw [List.getD_eq_getElem?_getD, List.getElem?_take_of_lt (by omega)] at e
            rw [List.getD_eq_getElem?_getD] at h
            omega
          have HHigh : Hid (∀ y ∈ (S.drop j).head?, X ≤ y) := fun y hy => by
            rw [List.head?_drop, List.getElem?_eq_none (by rw [HLn.out]; omega)] at hy
            simp at hy
          go_wp2_with fail
          go_quiet (fail)
          have hg0 := hr.lt
          have j1 : (j : Int) ≤ cap0 := by omega
          have j2 : (j : Int) ≤ k := by omega
          have j0 : (0 : Int) ≤ j := by omega
          have hga := World.block_lt_of_cell? wr _ ck
          have hown1 : ((wr.drewN (q + nq)).alloc (.cells #[] 3)).ownsRow wr.heap.size 3 1 (.slice (some ⟨wr.heap.size, 0, none⟩) 0 0) 0 [] := World.ownsRow_made (base := wr.heap.size) (e := 3) (size := 1) (wr.drewN (q + nq)) #[] 0 (by simp) (by unfold maxLen; omega) rfl
          have hB1 : Below wr.heap.size wr ((wr.drewN (q + nq)).alloc (.cells #[] 3)) := (by repeat (first | exact Below.refl _ _ | assumption | (refine Below.trans ?_ (Below.mono (by assumption) (by first | omega | (simp <;> omega)))) | (refine Below.alloc ?_ (by first | omega | (simp <;> omega)) _) | (refine below_drewN ?_ _) | (refine Below.drew ?_) | (refine Below.setCell ?_ (by first | omega | (simp <;> omega)) _)))
          have hr1 := hr.below hB1 hg0
          have htl : ((S.take j).map (Value.int .i64)).length = j * 1 := by rw [List.length_map, List.length_take, HLn.out]; omega
          have HTL := Lib.hid htl
          clear htl
          go_wp2_with (at_builtin; refine wpList_append_own _ rfl _ _ 29 rfl wr.heap.size 3 i0 (.int .i64 0) 1 8 Try.underlying29 Hi.out iz0 iz1 iz2 rfl (by decide) _ _ _ rfl hown1 ⟨g, 0, none⟩ j cap0 ((S.take j).map (Value.int .i64)) rfl HTL.out ?cc1 ?cc2 ?cc3 ?cc4 (by first | omega | (simp <;> omega)) ?_)
          case cc1 => simpa using hr1.newsTake HLn.out hC.out j
          case cc2 => simpa using oneCells (S.take j)
          case cc3 => unfold maxLen; omega
          case cc4 => omega
          intro v6 w6 hown6 hgrow6 hnn6
          have hB6 : Below wr.heap.size wr w6 := hB1.grown hgrow6 (by simp) (fun q hq => by simp [Value.ownBlock] at hq; omega)
          have hr6 := hr.below hB6 hg0
          have ck6 := (hB6.cell (p := ⟨ga, offa + k, none⟩) hga).trans ck
          have hown6' : (w6.alloc (.cells #[.int .i64 X] 3)).ownsRow wr.heap.size 3 1 v6 j ((S.take j).map (Value.int .i64)) := by
            rw [List.map_take]
            exact World.ownsRow.alloc hown6 _
          have hs6 := hB6.size
          clear hown1 hB1 hr1 hgrow6 hown6
          go_wp2_with (at_builtin; refine wpList_append_own _ rfl _ _ 29 rfl wr.heap.size 3 i0 (.int .i64 0) 1 8 Try.underlying29 Hi.out iz0 iz1 iz2 rfl (by decide) _ _ _ rfl hown6' ⟨w6.heap.size, 0, none⟩ 1 1 [.int .i64 X] rfl rfl ?dd1 ?dd2 ?dd3 ?dd4 (by first | omega | (simp <;> omega)) ?_)
          case dd1 =>
            intro j u hj
            match j, hj with
            | 0, hj => simp at hj; subst hj; exact cell_of_one (heap_alloc_new w6 _)
            | j + 1, hj => simp at hj
          case dd2 => simp [Value.oneCell']
          case dd3 => unfold maxLen; omega
          case dd4 => omega
          intro v7 w7 hown7 hgrow7 hnn7
          have hB7 : Below wr.heap.size wr w7 := (hB6.alloc hs6 (.cells #[.int .i64 X] 3)).grown hgrow7 (by simp; omega) (fun q hq => (World.ownsRow.lt hown6' q hq).1)
          have hr7 := hr.below hB7 hg0
          have hs7 := hB7.size
          have hkj : ((S.drop j).map (Value.int .i64)).length = (k - j) * 1 := by rw [List.length_map, List.length_drop, HLn.out]; omega
          have HKJ := Lib.hid hkj
          clear hkj hown6' hgrow7 hr6 ck6 hB6
          by_cases hcj : cap0 = j
          · go_wp2_with (at_builtin; refine wpList_append_own _ rfl _ _ 29 rfl wr.heap.size 3 i0 (.int .i64 0) 1 8 Try.underlying29 Hi.out iz0 iz1 iz2 rfl (by decide) _ _ _ rfl hown7 ⟨g, 0, none⟩ (k - j) _ ((S.drop j).map (Value.int .i64)) rfl HKJ.out ?ff1 ?ff2 ?ff3 ?ff4 (by first | omega | (simp <;> omega)) ?_)
            case ff1 =>
              intro i u hu
              exfalso
              have e : S.drop j = [] := List.drop_eq_nil_of_le (by rw [HLn.out]; omega)
              first | (rw [← List.map_drop, e] at hu; simp at hu) | (rw [e] at hu; simp at hu) | (simp [e] at hu)
            case ff2 => simpa using oneCells (S.drop j)
            case ff3 => unfold maxLen; omega
            case ff4 => omega
            intro v8 w8 hown8 hgrow8 hnn8
            have hB8 : Below wr.heap.size wr w8 := hB7.grown hgrow8 (by omega) (fun q hq => (World.ownsRow.lt hown7 q hq).1)
            have hS2 : S2 = S.take j ++ X :: S.drop j := by
              rw [HS.out]
              have h := ins_below X (S.take j) (S.drop j) HLow.out HHigh.out
              rwa [List.take_append_drop] at h
            have ho8 : OwnL w8 w.heap.size v8 S2 := by
              refine OwnL.mono (b := wr.heap.size) ?_ hB.size
              unfold OwnL
              have e1 : S2.length = j + 1 + (k - j) := by rw [hS2, List.length_append, List.length_cons, List.length_take, List.length_drop, HLn.out]; omega
              have e2 : S2.map (Value.int .i64) = (S.take j).map (Value.int .i64) ++ [.int .i64 X] ++ (S.drop j).map (Value.int .i64) := by rw [hS2, List.map_append, List.map_cons, List.append_assoc]; rfl
              rw [e1, e2]
              first | exact hown8 | simpa using hown8
            have hne8 : v8 ≠ .slice none 0 0 := ho8.some_of_len (by rw [hS2, List.length_append, List.length_cons]; omega)
            have hB8' := hB.trans (hB8.mono hB.size)
            clear hown7 hown8 hgrow8 hB7 hB8 hr7
            go_wp2_with fail
            go_roundw
            case rel => exact ⟨k + 1, v8, by go_num, rfl, by omega, by rw [HT2.out]; exact ho8, hne8, hB8'⟩
            case measure => simp only [intOf]; omega
          · go_wp2_with (at_builtin; refine wpList_append_own _ rfl _ _ 29 rfl wr.heap.size 3 i0 (.int .i64 0) 1 8 Try.underlying29 Hi.out iz0 iz1 iz2 rfl (by decide) _ _ _ rfl hown7 ⟨g, j, none⟩ (k - j) (cap0 - j) ((S.drop j).map (Value.int .i64)) rfl HKJ.out ?ee1 ?ee2 ?ee3 ?ee4 (by first | omega | (simp <;> omega)) ?_)
            case ee1 => simpa [addr_add] using hr7.news HLn.out hC.out j
            case ee2 => simpa using oneCells (S.drop j)
            case ee3 => unfold maxLen; omega
            case ee4 => omega
            intro v8 w8 hown8 hgrow8 hnn8
            have hB8 : Below wr.heap.size wr w8 := hB7.grown hgrow8 (by omega) (fun q hq => (World.ownsRow.lt hown7 q hq).1)
            have hS2 : S2 = S.take j ++ X :: S.drop j := by
              rw [HS.out]
              have h := ins_below X (S.take j) (S.drop j) HLow.out HHigh.out
              rwa [List.take_append_drop] at h
            have ho8 : OwnL w8 w.heap.size v8 S2 := by
              refine OwnL.mono (b := wr.heap.size) ?_ hB.size
              unfold OwnL
              have e1 : S2.length = j + 1 + (k - j) := by rw [hS2, List.length_append, List.length_cons, List.length_take, List.length_drop, HLn.out]; omega
              have e2 : S2.map (Value.int .i64) = (S.take j).map (Value.int .i64) ++ [.int .i64 X] ++ (S.drop j).map (Value.int .i64) := by rw [hS2, List.map_append, List.map_cons, List.append_assoc]; rfl
              rw [e1, e2]
              first | exact hown8 | simpa using hown8
            have hne8 : v8 ≠ .slice none 0 0 := ho8.some_of_len (by rw [hS2, List.length_append, List.length_cons]; omega)
            have hB8' := hB.trans (hB8.mono hB.size)
            clear hown7 hown8 hgrow8 hB7 hB8 hr7
            go_wp2_with fail
            go_roundw
            case rel => exact ⟨k + 1, v8, by go_num, rfl, by omega, by rw [HT2.out]; exact ho8, hne8, hB8'⟩
            case measure => simp only [intOf]; omega
    · obtain rfl : k = N := by omega
      have hkm' : decide ((k : Int) < k) = false := by simp
      have hE : OwnL wr w.heap.size v0 (isort xs) := by rwa [List.take_of_length_le (by rw [HN.out]; omega)] at ho
      clear ho
      go_wp2
      go_ret
      exact ⟨_, rfl, hE, hB⟩
end Go.Proofs.Ytcfhjkaemhhndaa
