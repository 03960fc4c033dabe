/- Contracts of insertSorted and sortedPoints of the program. -/
import Derived.Test.YtkhnnbgmckeoaaaNear2
import Derived.Test.YtkhnnbgmckeoaaaGaps
import Derived.BigRegion
set_option linter.unusedVariables false
namespace Go.Proofs.Ytkhnnbgmckeoaaa
open Go.ChangeShapes Go.WideShapes Go.ChangeAt Go.RowKit Go.Joins N

theorem getD_take_map {cur : Array Value} {xs : List Int} (ht : cur.toList.take (xs.length * 1) = xs.map (Value.int .i64)) (i : Nat) (hi : i < xs.length) : cur[i]? = some (.int .i64 (xs.getD i 0)) := by
  have e : (cur.toList.take (xs.length * 1))[i]? = (xs.map (Value.int .i64))[i]? := by rw [ht]
  rw [Nat.mul_one, List.getElem?_take_of_lt hi] at e
  have e2 : cur[i]? = cur.toList[i]? := by simp
  rw [e2, e, List.getElem?_map, List.getD_eq_getElem?_getD, List.getElem?_eq_getElem hi]
  simp

/-- the block of a row that is the call's own and not empty -/
theorem OwnL.row {w : World} {b : Nat} {v : Value} {xs : List Int} {N : Nat} (h : OwnL w b v xs) (hN : xs.length = N) (h0 : v ≠ .slice none 0 0) :
    ∃ g cap cur, v = .slice (some ⟨g, 0, none⟩) N cap ∧ b ≤ g ∧ RowAt w g cur ∧ cur.size = cap ∧ N ≤ cap ∧ cap ≤ maxLen ∧ ∀ i, i < N → cur[i]? = some (.int .i64 (xs.getD i 0)) := by
  subst hN
  obtain ⟨_, h⟩ := h
  rcases h with ⟨rfl, _⟩ | ⟨g, cap, cur, rfl, hb, hg, hn, hm, hs, ht⟩
  · exact absurd rfl h0
  · exact ⟨g, cap, cur, rfl, hb, hg, by omega, hn, hm, getD_take_map ht⟩

theorem OwnL.some_of_len {w : World} {b : Nat} {v : Value} {xs : List Int} (h : OwnL w b v xs) (h0 : xs.length ≠ 0) : v ≠ .slice none 0 0 := by
  rintro rfl
  obtain ⟨_, h⟩ := h
  rcases h with ⟨_, h⟩ | ⟨g, cap, cur, hv, _⟩
  · exact h0 h
  · cases hv

theorem RowAt.ownL {w : World} {g b cap N : Nat} {cur : Array Value} {xs : List Int} (h : RowAt w g cur) (hb : b ≤ g) (hN : xs.length = N) (hs : cur.size = cap) (hn : N ≤ cap) (hm : cap ≤ maxLen) (hc : ∀ i, i < N → cur[i]? = some (.int .i64 (xs.getD i 0))) : OwnL w b (.slice (some ⟨g, 0, none⟩) N cap) xs := by
  subst hN
  refine ⟨by simp, .inr ⟨g, cap, cur, rfl, hb, h, hn, hm, by omega, ?_⟩⟩
  apply List.ext_getElem?
  intro i
  by_cases hi : i < xs.length
  · rw [Nat.mul_one, List.getElem?_take_of_lt hi, List.getElem?_map, List.getElem?_eq_getElem hi]
    have e := hc i hi
    rw [List.getD_eq_getElem?_getD, List.getElem?_eq_getElem hi] at e
    simpa using e
  · rw [List.getElem?_eq_none (by simp; omega), List.getElem?_eq_none (by simp; omega)]

/-- the row while a number moves down to its place -/
def midAt (xs : List Int) (x : Int) (p i : Nat) : Int := if i < p then xs.getD i 0 else if i = p then x else xs.getD (i - 1) 0

theorem midAt_end {xs : List Int} {x : Int} {p L : Nat} (hL : xs.length = L) (hp : p ≤ L) (hw : xs.Pairwise (· ≤ ·)) (h1 : p = 0 ∨ xs.getD (p - 1) 0 ≤ x) (h2 : ∀ i, p ≤ i → i < L → x < xs.getD i 0) (i : Nat) (hi : i < L + 1) : midAt xs x p i = (ins x xs).getD i 0 := by
  subst hL
  have e : ins x xs = xs.take p ++ x :: xs.drop p := by
    have h := ins_above x (xs.take p) (xs.drop p) (hw.sublist (List.take_sublist _ _)) ?_ ?_
    · rwa [List.take_append_drop] at h
    · intro y hy
      obtain ⟨j, hj, e⟩ := mem_getD 0 hy
      rw [List.length_take] at hj
      rw [List.getD_eq_getElem?_getD, List.getElem?_take_of_lt (by omega), List.getElem?_eq_getElem (by omega)] at e
      rcases h1 with h1 | h1
      · omega
      · rw [List.getD_eq_getElem?_getD, List.getElem?_eq_getElem (by omega)] at h1
        simp at e h1
        rcases Nat.lt_or_ge j (p - 1) with hlt | hge
        · have := List.pairwise_iff_getElem.1 hw j (p - 1) (by omega) (by omega) hlt
          omega
        · have ej : j = p - 1 := by omega
          subst ej
          omega
    · intro y hy
      obtain ⟨j, hj, e⟩ := mem_getD 0 hy
      rw [List.length_drop] at hj
      have h3 := h2 (p + j) (by omega) (by omega)
      rw [List.getD_eq_getElem?_getD] at h3 e
      rw [List.getElem?_drop] at e
      omega
  rw [e, List.getD_eq_getElem?_getD]
  unfold midAt
  by_cases h : i < p
  · rw [if_pos h, List.getElem?_append_left (by simp; omega), List.getElem?_take_of_lt h, List.getD_eq_getElem?_getD]
  · rw [if_neg h, List.getElem?_append_right (by simp; omega)]
    have hl : (xs.take p).length = p := by simp; omega
    rw [hl]
    by_cases h3 : i = p
    · rw [if_pos h3]; subst h3; simp
    · rw [if_neg h3]
      obtain ⟨j, rfl⟩ : ∃ j, i = p + j + 1 := ⟨i - p - 1, by omega⟩
      have e1 : p + j + 1 - p = j + 1 := by omega
      rw [e1, List.getElem?_cons_succ, List.getElem?_drop, List.getD_eq_getElem?_getD]
      rfl

def InsPost (b : Nat) (xs : List Int) (w : World) (e : Ending) (w' : World) : Prop := ∃ v, e = .returned v ∧ OwnL w' b v xs ∧ Below b w w'

set_option maxHeartbeats 2000000 in
theorem insertSorted_any (v : Value) (x : Int) (xs : List Int) (b : Nat) (w : World) (ho : OwnL w b v xs) (hbw : b ≤ w.heap.size) (hw : xs.Pairwise (· ≤ ·)) (hx : xs.length ≤ 100000) :
    Calls Try.prog 90 #[v, .int .i64 x] w (InsPost b (ins x xs) w) := by
  obtain ⟨i0, hi, iz0, iz1, iz2⟩ := info_parts infoInt
  have Hi := Lib.hid hi
  clear hi
  have hown : (w.alloc (.cells #[.int .i64 x] 3)).ownsRow b 3 1 v xs.length (xs.map (Value.int .i64)) := World.ownsRow.alloc ho _
  have hlb := World.ownsRow.lt hown
  obtain ⟨L, hL⟩ : ∃ L, xs.length = L := ⟨_, rfl⟩
  have HW := Lib.hid hw
  have HL := Lib.hid hL
  clear ho hw
  rw [hL] at hx hown
  clear hL
  go_enter Try.func90, Try.ntmps90
  go_wp2_with (at_builtin; refine wpList_append_own _ rfl _ _ 32 rfl b 3 i0 (.int .i64 0) 1 8 Try.underlying32 Hi.out iz0 iz1 iz2 rfl (by decide) _ _ _ rfl hown ⟨w.heap.size, 0, none⟩ 1 1 [.int .i64 x] rfl rfl ?c1 ?c2 ?c3 ?c4 ?c5 ?_)
  case c1 =>
    intro j u hj
    match j, hj with
    | 0, hj => simp at hj; subst hj; exact cell_of_one (heap_alloc_new w _)
    | j + 1, hj => simp at hj
  case c2 => simp [Value.oneCell']
  case c3 => unfold maxLen; omega
  case c4 => omega
  case c5 => simp; omega
  intro v' w5 hown' hgrow _
  have ho5 : OwnL w5 b v' (xs ++ [x]) := by
    unfold OwnL
    rw [List.length_append, List.map_append, HL.out]
    exact hown'
  have hB5 : Below b w w5 := ((Below.refl b w).alloc hbw (.cells #[.int .i64 x] 3)).grown hgrow (by simp; omega) (fun q hq => (hlb q hq).1)
  have hl5 : (xs ++ [x]).length = L + 1 := by rw [List.length_append, HL.out]; rfl
  obtain ⟨g, cap, cur0, rfl, hbg, hr0, hs0, hn, hm, hc0⟩ := ho5.row hl5 (ho5.some_of_len (by omega))
  clear hown hown' hgrow ho5 hlb
  have hC0 : Hid (∀ i, i < L + 1 → cur0[i]? = some (.int .i64 (midAt xs x L i))) := fun i hi => by
    rw [hc0 i hi]
    unfold midAt
    rw [List.getD_eq_getElem?_getD]
    by_cases h : i < L
    · rw [if_pos h, List.getElem?_append_left (by rw [HL.out]; exact h), List.getD_eq_getElem?_getD]
    · have e : i = L := by omega
      rw [if_neg h, if_pos e, List.getElem?_append_right (by rw [HL.out]; omega), HL.out, e]
      simp
  clear hc0 hl5
  have HM := Lib.hid hm
  clear hm
  go_wp2_with fail
  go_loopw [5] (fun y wr => ∃ (p : Nat) (cur : Array Value), y = .int .i64 p ∧ p ≤ L ∧ RowAt wr g cur ∧ cur.size = cap ∧ Hid (∀ i, i < L + 1 → cur[i]? = some (.int .i64 (midAt xs x p i))) ∧ Hid (∀ i, p ≤ i → i < L → x < xs.getD i 0) ∧ Below b w wr) (fun y _ => (intOf y).toNat)
  case atStart => exact ⟨L, cur0, by go_num, by omega, hr0, hs0, hC0, fun i h1 h2 => by omega, hB5⟩
  case round =>
    obtain ⟨p, cur, rfl, hp, hr, hs, HC, HG, hB⟩ := hrel
    clear hr0 hs0 hC0 hB5
    by_cases hp0 : p = 0
    · subst hp0
      have hE : OwnL wr b (.slice (some ⟨g, 0, none⟩) (L + 1) cap) (ins x xs) := RowAt.ownL hr hbg (by rw [ins_length, HL.out]) hs hn HM.out (fun i hi => by rw [HC.out i hi, midAt_end HL.out (by omega) HW.out (.inl rfl) HG.out i hi])
      clear hr HC HG
      go_wp2
      go_ret
      exact ⟨_, rfl, hE, hB⟩
    · obtain ⟨q, rfl⟩ : ∃ q, p = q + 1 := ⟨p - 1, by omega⟩
      have c0 := hr.cell q
      have c1 := hr.cell (q + 1)
      rw [HC.out q (by omega)] at c0
      rw [HC.out (q + 1) (by omega)] at c1
      have e0 : midAt xs x (q + 1) q = xs.getD q 0 := by unfold midAt; rw [if_pos (by omega)]
      have e1 : midAt xs x (q + 1) (q + 1) = x := by unfold midAt; rw [if_neg (by omega), if_pos rfl]
      rw [e0] at c0
      rw [e1] at c1
      have eq1 : ((q + 1 : Nat) : Int) = (q : Int) + 1 := by omega
      rw [eq1]
      obtain ⟨Y, hY⟩ : ∃ Y, xs.getD q 0 = Y := ⟨_, rfl⟩
      rw [hY] at c0
      have HY := Lib.hid hY
      have q0 : (0 : Int) < (q : Int) + 1 := by omega
      have q1 : (q : Int) < (L : Int) + 1 := by omega
      have q2 : (q : Int) + 1 < (L : Int) + 1 := by omega
      have f0 := hr.free q
      have f1 := hr.free (q + 1)
      clear hY e0 e1 eq1
      by_cases hxy : x < Y
      · have hr2 := (hr.set q (.int .i64 x)).set (q + 1) (.int .i64 Y)
        have hB2 : Below b w ((wr.setCell ⟨g, q, none⟩ (.int .i64 x)).setCell ⟨g, q + 1, none⟩ (.int .i64 Y)) := (hB.setCell hbg _).setCell hbg _
        have HC2 : Hid (∀ i, i < L + 1 → ((cur.setIfInBounds q (.int .i64 x)).setIfInBounds (q + 1) (.int .i64 Y))[i]? = some (.int .i64 (midAt xs x q i))) := fun i hi => by
          unfold midAt
          rw [Array.getElem?_setIfInBounds, Array.getElem?_setIfInBounds]
          by_cases h1 : q + 1 = i
          · rw [if_pos h1, if_pos (by simp; omega), if_neg (by omega), if_neg (by omega)]
            have : i - 1 = q := by omega
            rw [this, HY.out]
          · rw [if_neg h1]
            by_cases h2 : q = i
            · rw [if_pos h2, if_pos (by omega), if_neg (by omega), if_pos h2.symm]
            · rw [if_neg h2, HC.out i hi]
              unfold midAt
              by_cases h3 : i < q
              · rw [if_pos (by omega), if_pos h3]
              · rw [if_neg (by omega), if_neg (by omega), if_neg h3, if_neg (by omega)]
        have HG2 : Hid (∀ i, q ≤ i → i < L → x < xs.getD i 0) := fun i h1 h2 => by
          by_cases h3 : i = q
          · rw [h3, HY.out]; exact hxy
          · exact HG.out i (by omega) h2
        clear HC HG hr hB
        go_wp2_with fail
        go_region
        go_wp2_with fail
        go_roundw
        case rel => exact ⟨q, _, by go_num, by omega, hr2, by simp [hs], HC2.out, HG2.out, Below.drew hB2⟩
        case measure => simp only [intOf]; omega
      · have hE : OwnL wr b (.slice (some ⟨g, 0, none⟩) (L + 1) cap) (ins x xs) := RowAt.ownL hr hbg (by rw [ins_length, HL.out]) hs hn HM.out (fun i hi => by rw [HC.out i hi, midAt_end HL.out (by omega) HW.out (.inr (by show xs.getD q 0 ≤ x; rw [HY.out]; omega)) HG.out i hi])
        clear hr HC HG
        have d : decide (x < Y) = false := by simpa using hxy
        go_wp2
        go_ret
        exact ⟨_, rfl, hE, hB⟩

theorem isort_len_pts (n s : Int) (m : Nat) : (isort (ptsL n s m)).length = m := by rw [isort_length, ptsL_length]

set_option maxHeartbeats 1000000 in
theorem sortedPoints_any (n s m : Int) (w : World) :
    Calls Try.prog 92 #[(.agg #[.int .i64 (n), .int .i64 (s)]), .int .i64 m] w (ListPost (isort (firstF n s m)) w) := by
  
  have hp := firstPoints_any n s m (w.alloc (.cells #[.int .i64 n, .int .i64 s] 24))
  by_cases hc : tok n s = true ∧ 1 ≤ m ∧ m ≤ n
  · obtain ⟨ht, h0, h1⟩ := hc
    have hb := tok_bd ht
    obtain ⟨m, rfl⟩ := Int.eq_ofNat_of_zero_le (by omega : 0 ≤ m)
    rw [firstF_yes ht h0 h1, Int.toNat_natCast] at hp ⊢
    clear ht
    go_enter Try.func92, Try.ntmps92
    go_wp2_with fail
    refine (hp).mono ?_; rintro e w1 ⟨v1, rfl, ho1, hb1⟩
    have hz1 := hb1.size
    try simp at hz1
    clear hp
    obtain ⟨g, off, cap, rfl, HC⟩ := pts_cells ho1.reads (by omega)
    have hB1 : Below w.heap.size w w1 := (by repeat (first | exact Below.refl _ _ | assumption | (refine Below.trans ?_ (Below.mono (by assumption) (by first | omega | (simp <;> omega)))) | (refine Below.alloc ?_ (by first | omega | (simp <;> omega)) _) | (refine below_drewN ?_ _) | (refine Below.drew ?_) | (refine Below.setCell ?_ (by first | omega | (simp <;> omega)) _)))
    clear ho1 hb1
    go_wp2_with fail
    go_loopw [5, 12] (fun y x wr => ∃ (k : Nat) (v0 : Value), x = .int .i64 k ∧ v0 = y ∧ k ≤ m ∧ OwnL wr w1.heap.size v0 (isort (ptsL n s k)) ∧ Below w1.heap.size w1 wr) (fun _ x _ => m - (intOf x).toNat)
    case atStart => exact ⟨0, _, rfl, rfl, by omega, World.ownsRow_nil _ _ _ _, Below.refl _ _⟩
    case round =>
      obtain ⟨k, v0, rfl, rfl, hk, ho, hB⟩ := hrel
      by_cases hkm : k < m
      · have hkm' : (k : Int) < m := by omega
        have c1 := HC.out k hkm
        have ck := (hB.cell (p := ⟨g, off + k, none⟩) (World.block_lt_of_cell? w1 _ c1)).trans c1
        have hS := isort_snoc (ptsL n s k) (pt n s k)
        have hS2 : isort (ptsL n s (k + 1)) = ins (pt n s k) (isort (ptsL n s k)) := by rw [ptsL_succ]; exact hS
        have hwk := isort_wk (ptsL n s k)
        have hlen := isort_len_pts n s k
        clear c1 hS
        go_wp2_with fail
        refine (insertSorted_any v0 (pt n s k) _ w1.heap.size _ ho hB.size hwk (by omega)).mono ?_; rintro e w3 ⟨v3, rfl, ho3, hb3⟩
        rw [← hS2] at ho3
        have hB3 := hB.trans hb3
        clear ck ho hb3 hwk hS2 hlen hB
        go_wp2_with fail
        go_roundw
        case rel => exact ⟨k + 1, _, by go_num, rfl, by omega, ho3, hB3⟩
        case measure => simp only [intOf]; omega
      · obtain rfl : k = m := by omega
        have hkm' : decide ((k : Int) < k) = false := by simp
        have hsz := hB1.size
        have ho' : OwnL wr w.heap.size v0 (isort (ptsL n s k)) := OwnL.mono (b := w1.heap.size) ho hsz
        have hB' : Below w.heap.size w wr := hB1.trans (hB.mono hsz)
        clear ho hB
        go_wp2
        go_ret
        exact ⟨_, rfl, ho', hB'⟩
  · rw [firstF_no hc] at hp ⊢
    clear hc
    go_enter Try.func92, Try.ntmps92
    go_wp2_with fail
    refine (hp).mono ?_; rintro e w1 ⟨v1, rfl, ho1, hb1⟩
    have hz1 := hb1.size
    try simp at hz1
    clear hp
    obtain ⟨a, cap, rfl⟩ := nil_cells ho1.reads
    go_wp2_with fail
    go_loopw [5, 12] (fun y x wr => y = .slice none 0 0 ∧ x = .int .i64 0 ∧ wr = w1) (fun _ x _ => 0)
    case atStart => exact ⟨rfl, rfl, rfl⟩
    case round =>
      obtain ⟨rfl, rfl, rfl⟩ := hrel
      go_wp2
      go_ret
      exact ⟨_, rfl, World.ownsRow_nil _ _ _ _, (by repeat (first | exact Below.refl _ _ | assumption | (refine Below.trans ?_ (Below.mono (by assumption) (by first | omega | (simp <;> omega)))) | (refine Below.alloc ?_ (by first | omega | (simp <;> omega)) _) | (refine below_drewN ?_ _) | (refine Below.drew ?_) | (refine Below.setCell ?_ (by first | omega | (simp <;> omega)) _)))⟩
end Go.Proofs.Ytkhnnbgmckeoaaa
