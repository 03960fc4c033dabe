/- Rows of texts in memory: blocks, lists of the call's own, one text put behind. Rows of texts, continued: lists of the call's own, one text put behind, looked for, put in its place. -/
import Derived.Test.YtppahekbgbbidabGDraw
import Derived.Test.YtppahekbgbbidabGCode
import Derived.BigRegion
import Derived.Laws.Cover1
set_option linter.unusedVariables false
namespace Go.Proofs.Ytppahekbgbbidab
open Go.ChangeShapes Go.WideShapes Go.ChangeAt Go.RowKit Go.Joins

theorem infoStr : (Try.prog.info? 9).map (fun i => (i.zero, i.size, i.bytes)) = some (some (.string ⟨#[]⟩), 1, 16) := by kernel_rfl

/-- block g holds the cells cur of texts -/
def RowS (w : World) (g : Nat) (cur : Array Value) : Prop := w.heap[g]? = some (.cells cur 9 (0, 0))

theorem RowS.cell {w : World} {g : Nat} {cur : Array Value} (h : RowS w g cur) (i : Nat) : w.cell? ⟨g, i, none⟩ = cur[i]? := by unfold RowS at h; simp [World.cell?, h]

theorem RowS.free {w : World} {g : Nat} {cur : Array Value} (h : RowS w g cur) (i : Nat) : w.frozen? ⟨g, i, none⟩ = false := by unfold RowS at h; simp [World.frozen?, h]

theorem RowS.lt {w : World} {g : Nat} {cur : Array Value} (h : RowS w g cur) : g < w.heap.size := by unfold RowS at h; exact (Array.getElem?_eq_some_iff.1 h).1

theorem RowS.below {w w' : World} {g B : Nat} {cur : Array Value} (h : RowS w g cur) (hb : Below B w w') (hg : g < B) : RowS w' g cur := by unfold RowS at *; rw [hb.block g hg]; exact h

theorem RowS.onlyR {w w' : World} {g r : Nat} {cur : Array Value} (h : RowS w g cur) (hb : OnlyR r w w') (hg : g ≠ r) : RowS w' g cur := by
  have := h.lt
  unfold RowS at *; rw [hb.block g this hg]; exact h

theorem RowS.new (w : World) (cur : Array Value) : RowS (w.alloc (.cells cur 9)) w.heap.size cur := by
  exact heap_alloc_new w _

theorem RowS.set {w : World} {g : Nat} {cur : Array Value} (h : RowS w g cur) (i : Nat) (v : Value) : RowS (w.setCell ⟨g, i, none⟩ v) g (cur.setIfInBounds i v) := by
  unfold RowS at *
  simp [World.setCell, Array.getElem?_modify, h]
end Go.Proofs.Ytppahekbgbbidab

set_option linter.unusedVariables false
namespace Go.Proofs.Ytppahekbgbbidab

set_option maxRecDepth 4000
open Go.ChangeShapes Go.WideShapes Go.ChangeAt Go.RowKit Go.Joins

def OwnS (w : World) (b : Nat) (v : Value) (xs : List ByteArray) : Prop := w.ownsRow b 9 1 v xs.length (xs.map Value.string)

theorem OwnS.below {w w' : World} {b : Nat} {v : Value} {xs : List ByteArray} (h : OwnS w b v xs) (hb : Below w.heap.size w w') : OwnS w' b v xs := by
  refine World.ownsRow.kept h (row := none) ⟨hb.os, hb.tape, hb.output, hb.size, fun k hk _ => hb.block k hk⟩ ?_
  cases e : v.ownBlock with
  | none => exact .inl rfl
  | some g => exact .inr (by simp)

theorem OwnS.mono {w : World} {b b' : Nat} {v : Value} {xs : List ByteArray} (h : OwnS w b v xs) (hb : b' ≤ b) : OwnS w b' v xs := by
  obtain ⟨h1, h2⟩ := h
  refine ⟨h1, ?_⟩
  rcases h2 with h2 | ⟨g, cap, cur, e, hg, h3⟩
  · exact .inl h2
  · exact .inr ⟨g, cap, cur, e, by omega, h3⟩

theorem getD_take_mapS {cur : Array Value} {xs : List ByteArray} (ht : cur.toList.take (xs.length * 1) = xs.map Value.string) (i : Nat) (hi : i < xs.length) : cur[i]? = some (.string (xs.getD i ⟨#[]⟩)) := by
  have e : (cur.toList.take (xs.length * 1))[i]? = (xs.map Value.string)[i]? := by rw [ht]
  rw [Nat.mul_one, List.getElem?_take_of_lt hi, List.getElem?_map, List.getElem?_eq_getElem hi] at e
  have e2 : cur[i]? = cur.toList[i]? := by simp
  rw [e2, e, List.getD_eq_getElem?_getD, List.getElem?_eq_getElem hi]
  rfl

/-- the block of a row that is the call's own and not empty -/
theorem OwnS.row {w : World} {b : Nat} {v : Value} {xs : List ByteArray} {N : Nat} (h : OwnS w b v xs) (hN : xs.length = N) (h0 : v ≠ .slice none 0 0) :
    ∃ g cap cur, v = .slice (some ⟨g, 0, none⟩) N cap ∧ b ≤ g ∧ RowS w g cur ∧ cur.size = cap ∧ N ≤ cap ∧ cap ≤ maxLen ∧ ∀ i, i < N → cur[i]? = some (.string (xs.getD i ⟨#[]⟩)) := by
  subst hN
  obtain ⟨_, h⟩ := h
  rcases h with ⟨rfl, _⟩ | ⟨g, cap, cur, rfl, hb, hg, hn, hm, hs, ht⟩
  · exact absurd rfl h0
  · exact ⟨g, cap, cur, rfl, hb, hg, by omega, hn, hm, getD_take_mapS ht⟩

theorem OwnS.some_of_len {w : World} {b : Nat} {v : Value} {xs : List ByteArray} (h : OwnS w b v xs) (h0 : xs.length ≠ 0) : v ≠ .slice none 0 0 := by
  rintro rfl
  obtain ⟨_, h⟩ := h
  rcases h with ⟨_, h⟩ | ⟨g, cap, cur, hv, _⟩
  · exact h0 h
  · cases hv

theorem RowS.ownS {w : World} {g b cap N : Nat} {cur : Array Value} {xs : List ByteArray} (h : RowS w g cur) (hb : b ≤ g) (hN : xs.length = N) (hs : cur.size = cap) (hn : N ≤ cap) (hm : cap ≤ maxLen) (hc : ∀ i, i < N → cur[i]? = some (.string (xs.getD i ⟨#[]⟩))) : OwnS w b (.slice (some ⟨g, 0, none⟩) N cap) xs := by
  subst hN
  refine ⟨by simp, .inr ⟨g, cap, cur, rfl, hb, h, hn, hm, by omega, ?_⟩⟩
  apply List.ext_getElem?
  intro i
  by_cases hi : i < xs.length
  · rw [Nat.mul_one, List.getElem?_take_of_lt hi, List.getElem?_map, List.getElem?_eq_getElem hi]
    have e := hc i hi
    rw [List.getD_eq_getElem?_getD, List.getElem?_eq_getElem hi] at e
    simpa using e
  · rw [List.getElem?_eq_none (by simp; omega), List.getElem?_eq_none (by simp; omega)]

/-- a list of the call's own, by its cells -/
theorem OwnS.cells {w : World} {b : Nat} {v : Value} {xs : List ByteArray} {N : Nat} (h : OwnS w b v xs) (hN : xs.length = N) :
    ∃ a cap, v = .slice a N cap ∧ Hid (∀ j, j < N → ∃ g, a = some ⟨g, 0, none⟩ ∧ w.cell? ⟨g, j, none⟩ = some (.string (xs.getD j ⟨#[]⟩))) := by
  by_cases h0 : v = .slice none 0 0
  · have hx : xs.length = 0 := by
      by_cases hx : xs.length = 0
      · exact hx
      · exact absurd h0 (h.some_of_len hx)
    refine ⟨none, 0, by rw [h0, ← hN, hx], fun j hj => by omega⟩
  · obtain ⟨g, cap, cur, rfl, _, hr, _, _, _, hc⟩ := h.row hN h0
    exact ⟨_, _, rfl, fun j hj => ⟨g, rfl, by rw [hr.cell, hc j hj]⟩⟩

theorem append_str {W : World} {x : ByteArray} {ops : Array Oper} {rest : List Oper} {o : Oper} {a : Act} {Q : Exit → Act → World → Prop} (hgd : o.guard = none) (S X : Operand)
    (ho : o.op = .call { callee := .builtin .append, args := #[S, X], argTypes := #[77, 77] })
    (b : Nat) (v : Value) (xs : List ByteArray) (L : Nat) (HL : Hid (xs.length = L)) (hL : L ≤ 100000) (hs : a.eval S = v) (hown : OwnS W b v xs) (hb : b ≤ W.heap.size)
    (hx : a.eval X = .slice (some ⟨W.heap.size, 0, none⟩) 1 1)
    (h : ∀ v' w', OwnS w' b v' (xs ++ [x]) → v' ≠ .slice none 0 0 → Below b W w' → wpList Try.prog ops Q rest (a.put o.dst v') w') :
    wpList Try.prog ops Q (o :: rest) a (W.alloc (.cells #[.string x] 9)) := by
  obtain ⟨i0, hi, iz0, iz1, iz2⟩ := info_parts infoStr
  have hown1 : (W.alloc (.cells #[.string x] 9)).ownsRow b 9 1 v L (xs.map Value.string) := by
    have h := World.ownsRow.alloc hown (.cells #[.string x] 9)
    rwa [HL.out] at h
  refine wpList_append_own _ hgd S X 77 ho b 9 i0 (.string ⟨#[]⟩) 1 16 Try.underlying77 hi iz0 iz1 iz2 rfl (by decide) v L _ hs hown1 ⟨W.heap.size, 0, none⟩ 1 1 [.string x] hx rfl ?c1 ?c2 ?c3 ?c4 ?c5 ?_
  case c1 =>
    intro j u hj
    match j, hj with
    | 0, hj => simp at hj; subst hj; exact cell_of_one (heap_alloc_new W _)
    | j + 1, hj => simp at hj
  case c2 => simp [Value.oneCell']
  case c3 => unfold maxLen; omega
  case c4 => omega
  case c5 => simp; omega
  intro v' w' h1 h2 h3
  have hlb := World.ownsRow.lt hown1
  have ho' : OwnS w' b v' (xs ++ [x]) := by
    unfold OwnS
    rw [List.length_append, List.map_append, HL.out]
    exact h1
  refine h v' w' ho' ?_ ?_
  · intro e
    have := (h3.1 e).2
    omega
  · exact ((Below.refl b W).alloc hb _).grown h2 (by simp; omega) (fun q hq => by have := hlb q hq; omega)

theorem bytes_beq (x y : ByteArray) : (x.toList == y.toList) = decide (x = y) := by
  by_cases e : x = y
  · subst e; simp
  · rw [decide_eq_false e, beq_eq_false_iff_ne]
    intro h
    apply e
    apply ByteArray.ext
    have e1 : x.data = x.toList.toArray := by rw [ByteArray.toList_eq]
    have e2 : y.data = y.toList.toArray := by rw [ByteArray.toList_eq]
    rw [e1, e2, h]

theorem take_one' {α : Type} (xs : List α) {k : Nat} (h : k < xs.length) (d : α) : xs.take (k + 1) = xs.take k ++ [xs.getD k d] := by
  rw [List.take_add_one, List.getElem?_eq_getElem h, List.getD_eq_getElem?_getD, List.getElem?_eq_getElem h]
  rfl

set_option maxHeartbeats 1000000 in
theorem indexS_any (v : Value) (xs : List ByteArray) (b : Nat) (n : ByteArray) (w : World) (hv : OwnS w b v xs) (hx : xs.length ≤ 1000000) :
    Calls Try.prog 97 #[v, .string n] w fun e w' => (∃ j : Int, e = .returned (.int .i64 j) ∧ (0 ≤ j ↔ n ∈ xs)) ∧ w = w' := by
  obtain ⟨N, hN⟩ : ∃ N, xs.length = N := ⟨_, rfl⟩
  obtain ⟨a, cap, rfl, HC⟩ := hv.cells hN
  rw [hN] at hx
  have HN := Lib.hid hN
  clear hv hN
  go_enter Try.func97, Try.ntmps97
  go_wp2_with fail
  go_loop [8] (fun i => ∃ k : Nat, i = .int .i64 k ∧ k ≤ N ∧ Hid (n ∉ xs.take k)) (fun i => N - (intOf i).toNat)
  case atStart => exact ⟨0, rfl, by omega, by show n ∉ xs.take 0; simp⟩
  case round =>
    obtain ⟨k, rfl, hk, hn⟩ := hrel
    by_cases hlt : k < N
    · have hlt' : (k : Int) < N := by omega
      obtain ⟨g, rfl, c1⟩ := HC.out k hlt
      have hm : xs.getD k ⟨#[]⟩ ∈ xs := by rw [List.getD_eq_getElem?_getD, List.getElem?_eq_getElem (by rw [HN.out]; exact hlt)]; simp
      have hs := take_one' xs (k := k) (by rw [HN.out]; exact hlt) ⟨#[]⟩
      generalize xs.getD k ⟨#[]⟩ = X at c1 hm hs
      have HM := Lib.hid hm
      have HS := Lib.hid hs
      clear hm hs
      have hbq := bytes_beq n X
      by_cases he : n = X
      · subst he
        rw [decide_eq_true rfl] at hbq
        have HI : Hid ((0 : Int) ≤ k ↔ n ∈ xs) := ⟨fun _ => HM.out, fun _ => by omega⟩
        go_wp2
        go_ret
        exact ⟨⟨_, rfl, HI.out⟩, rfl⟩
      · rw [decide_eq_false he] at hbq
        go_wp2_with fail
        go_round
        case rel => exact ⟨k + 1, by go_num, by omega, by show n ∉ xs.take (k + 1); rw [HS.out]; simp; exact ⟨hn.out, he⟩⟩
        case measure => simp only [intOf]; omega
    · have hlt' : decide ((k : Int) < N) = false := by simp; omega
      have HI : Hid (n ∉ xs) := by
        have := hn.out
        rwa [List.take_of_length_le (by rw [HN.out]; omega)] at this
      go_wp2
      go_ret
      exact ⟨⟨_, rfl, ⟨fun h => absurd h (by decide), fun h => absurd h HI.out⟩⟩, rfl⟩

set_option maxHeartbeats 400000 in
theorem containsS_any (v : Value) (xs : List ByteArray) (b : Nat) (n : ByteArray) (w : World) (hv : OwnS w b v xs) (hx : xs.length ≤ 1000000) :
    Calls Try.prog 91 #[v, .string n] w fun e w' => (∃ c : Bool, e = .returned (.bool c) ∧ (c = true ↔ n ∈ xs)) ∧ w = w' := by
  go_enter Try.func91, Try.ntmps91
  go_wp2_with fail
  refine (indexS_any v xs b n _ hv hx).mono ?_; rintro e w1 ⟨⟨j, rfl, hj⟩, rfl⟩
  have HJ := Lib.hid hj
  clear hj hv
  go_wp2
  go_ret
  exact ⟨⟨_, rfl, by rw [decide_eq_true_iff]; exact HJ.out⟩, rfl⟩

def PermPost (b : Nat) (xs : List ByteArray) (w : World) (e : Ending) (w' : World) : Prop := ∃ v ys, e = .returned v ∧ OwnS w' b v ys ∧ ys.Perm xs ∧ Below b w w'

set_option maxHeartbeats 2000000 in
theorem insertSortedS_any (v : Value) (x : ByteArray) (xs : List ByteArray) (b : Nat) (w : World) (ho : OwnS w b v xs) (hbw : b ≤ w.heap.size) (hx : xs.length ≤ 100000) :
    Calls Try.prog 92 #[v, .string x] w (PermPost b (xs ++ [x]) w) := by
  obtain ⟨L, hL⟩ : ∃ L, xs.length = L := ⟨_, rfl⟩
  have HL := Lib.hid hL
  rw [hL] at hx
  clear hL
  go_enter Try.func92, Try.ntmps92
  go_wp2_with (at_builtin; refine append_str rfl _ _ rfl b _ xs L HL (by omega) rfl ho hbw rfl ?_)
  intro v' w5 ho5 hnn hB5
  have hl5 : (xs ++ [x]).length = L + 1 := by rw [List.length_append, HL.out]; rfl
  obtain ⟨g, cap, cur0, rfl, hbg, hr0, hs0, hn, hm, hc0⟩ := ho5.row hl5 hnn
  clear ho5 hnn
  have HM := Lib.hid hm
  have HC0 := Lib.hid hc0
  clear hm hc0
  generalize xs ++ [x] = zs at *
  go_wp2_with fail
  go_loopw [5] (fun y wr => ∃ (p : Nat) (cur : Array Value) (ys : List ByteArray), y = .int .i64 p ∧ p ≤ L ∧ RowS wr g cur ∧ cur.size = cap ∧ ys.length = L + 1 ∧ ys.Perm zs ∧ Hid (∀ i, i < L + 1 → cur[i]? = some (.string (ys.getD i ⟨#[]⟩))) ∧ Below b w wr) (fun y _ => (intOf y).toNat)
  case atStart => exact ⟨L, cur0, zs, by go_num, by omega, hr0, hs0, hl5, List.Perm.refl _, HC0, hB5⟩
  case round =>
    obtain ⟨p, cur, ys, rfl, hp, hr, hs, hly, hpm, HC, hB⟩ := hrel
    clear hr0 hs0 HC0 hB5
    have hE : OwnS wr b (.slice (some ⟨g, 0, none⟩) (L + 1) cap) ys := RowS.ownS hr hbg hly hs hn HM.out HC.out
    by_cases hp0 : p = 0
    · subst hp0
      clear hr HC
      go_wp2
      go_ret
      exact ⟨_, _, rfl, hE, hpm, hB⟩
    · obtain ⟨q, rfl⟩ : ∃ q, p = q + 1 := ⟨p - 1, by omega⟩
      have c0 := hr.cell q
      have c1 := hr.cell (q + 1)
      rw [HC.out q (by omega)] at c0
      rw [HC.out (q + 1) (by omega)] at c1
      have eq1 : ((q + 1 : Nat) : Int) = (q : Int) + 1 := by omega
      rw [eq1]
      obtain ⟨Y, hY⟩ : ∃ Y, ys.getD q ⟨#[]⟩ = Y := ⟨_, rfl⟩
      obtain ⟨Z, hZ⟩ : ∃ Z, ys.getD (q + 1) ⟨#[]⟩ = Z := ⟨_, rfl⟩
      rw [hY] at c0
      rw [hZ] at c1
      have HY := Lib.hid hY
      have HZ := Lib.hid hZ
      have q0 : (0 : Int) < (q : Int) + 1 := by omega
      have q1 : (q : Int) < (L : Int) + 1 := by omega
      have q2 : (q : Int) + 1 < (L : Int) + 1 := by omega
      have f0 := hr.free q
      have f1 := hr.free (q + 1)
      clear hY hZ eq1
      cases h1 : Op.bytesLess Y.toList x.toList with
      | true =>
        clear hr HC
        go_wp2
        go_ret
        exact ⟨_, _, rfl, hE, hpm, hB⟩
      | false =>
        cases h2 : (Y.toList == x.toList) with
        | true =>
          clear hr HC
          go_wp2
          go_ret
          exact ⟨_, _, rfl, hE, hpm, hB⟩
        | false =>
          have hr2 := (hr.set q (.string Z)).set (q + 1) (.string Y)
          have hB2 : Below b w ((wr.setCell ⟨g, q, none⟩ (.string Z)).setCell ⟨g, q + 1, none⟩ (.string Y)) := (hB.setCell hbg _).setCell hbg _
          have hly2 : ((ys.set q Z).set (q + 1) Y).length = L + 1 := by simp [hly]
          have hpm2 : ((ys.set q Z).set (q + 1) Y).Perm zs := by
            have hq1 : q < ys.length := by omega
            have hq2 : q + 1 < ys.length := by omega
            have h3 := List.set_set_perm hq1 hq2
            have e1 : ys[q]'hq1 = Y := by
              have h := HY.out
              rwa [List.getD_eq_getElem?_getD, List.getElem?_eq_getElem hq1] at h
            have e2 : ys[q + 1]'hq2 = Z := by
              have h := HZ.out
              rwa [List.getD_eq_getElem?_getD, List.getElem?_eq_getElem hq2] at h
            rw [e1, e2] at h3
            exact h3.trans hpm
          have HC2 : Hid (∀ i, i < L + 1 → ((cur.setIfInBounds q (.string Z)).setIfInBounds (q + 1) (.string Y))[i]? = some (.string (((ys.set q Z).set (q + 1) Y).getD i ⟨#[]⟩))) := fun i hi => by
            rw [Array.getElem?_setIfInBounds, Array.getElem?_setIfInBounds, List.getD_eq_getElem?_getD, List.getElem?_set, List.getElem?_set]
            by_cases h1 : q + 1 = i
            · rw [if_pos h1, if_pos (by simp; omega), if_pos h1, if_pos (by simp; omega)]; rfl
            · rw [if_neg h1, if_neg h1]
              by_cases h2 : q = i
              · rw [if_pos h2, if_pos (by omega), if_pos h2, if_pos (by omega)]; rfl
              · rw [if_neg h2, if_neg h2, HC.out i hi, List.getD_eq_getElem?_getD]
          clear HC hr hB hE
          go_wp2_with fail
          go_region
          go_wp2_with fail
          go_roundw
          case rel => exact ⟨q, _, _, by go_num, by omega, hr2, by simp [hs], hly2, hpm2, HC2.out, Below.drew hB2⟩
          case measure => simp only [intOf]; omega

set_option maxHeartbeats 1000000 in
theorem insertOnceS_any (v : Value) (x : ByteArray) (xs : List ByteArray) (b : Nat) (w : World) (ho : OwnS w b v xs) (hbw : b ≤ w.heap.size) (hx : xs.length ≤ 100000) :
    Calls Try.prog 82 #[v, .string x] w fun e w' => ∃ v ys, e = .returned v ∧ OwnS w' b v ys ∧ Below b w w' ∧ (x ∈ xs ∧ ys = xs ∨ x ∉ xs ∧ ys.Perm (xs ++ [x])) := by
  go_enter Try.func82, Try.ntmps82
  go_wp2_with fail
  refine (containsS_any v xs b x _ ho (by omega)).mono ?_; rintro e w2 ⟨⟨c, rfl, hc⟩, rfl⟩
  cases c with
  | true =>
    have h := hc.1 rfl
    have HI := Lib.hid h
    clear h hc
    go_wp2
    go_ret
    exact ⟨_, _, rfl, ho, Below.refl _ _, .inl ⟨HI.out, rfl⟩⟩
  | false =>
    have h : x ∉ xs := fun h => by have := hc.2 h; cases this
    have HI := Lib.hid h
    clear h hc
    go_wp2_with fail
    refine (insertSortedS_any v x xs b _ ho hbw hx).mono ?_; rintro e w3 ⟨v3, ys, rfl, ho3, hp3, hb3⟩
    have HP := Lib.hid hp3
    clear hp3
    go_wp2
    go_ret
    exact ⟨_, _, rfl, ho3, hb3, .inr ⟨HI.out, HP.out⟩⟩
end Go.Proofs.Ytppahekbgbbidab
