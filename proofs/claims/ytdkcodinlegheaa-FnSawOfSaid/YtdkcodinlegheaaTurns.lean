/- Lists of turns in memory: what a slice of turns holds, one turn appended. -/
import Derived.Test.YtdkcodinlegheaaGList
import Derived.Test.YtdkcodinlegheaaGFun2
import Derived.BigRegion
import Derived.Maps.AppendAt
set_option linter.unusedVariables false
namespace Go.Proofs.Ytdkcodinlegheaa

set_option maxRecDepth 4000
open Go.ChangeShapes Go.WideShapes Go.ChangeAt Go.RowKit Go.Joins

theorem infoTurn : (Try.prog.info? 29).map (fun i => (i.zero, i.size, i.bytes)) = some (some (.agg #[.int .i64 0, .int .i64 0]), 2, 16) := by kernel_rfl

def flatT (ts : List (Int × Int)) : List Value := ts.flatMap fun t => [.int .i64 t.1, .int .i64 t.2]

theorem flatT_len (ts : List (Int × Int)) : (flatT ts).length = ts.length * 2 := by
  induction ts with
  | nil => rfl
  | cons t ts ih =>
    show (_ :: _ :: flatT ts).length = _
    rw [List.length_cons, List.length_cons, ih, List.length_cons]; omega

theorem flatT_append (xs ys : List (Int × Int)) : flatT (xs ++ ys) = flatT xs ++ flatT ys := by simp [flatT]

theorem flatT_get : ∀ (ts : List (Int × Int)) (i : Nat), i < ts.length →
    (flatT ts)[i * 2]? = some (.int .i64 (ts.getD i (0, 0)).1) ∧ (flatT ts)[i * 2 + 1]? = some (.int .i64 (ts.getD i (0, 0)).2) := by
  intro ts
  induction ts with
  | nil => intro i h; simp at h
  | cons t ts ih =>
    intro i h
    cases i with
    | zero => exact ⟨rfl, rfl⟩
    | succ i =>
      have h' := ih i (by rw [List.length_cons] at h; omega)
      rw [show (i + 1) * 2 = i * 2 + 1 + 1 by omega]
      exact h'

theorem flatT_ext (L : List Value) (ts : List (Int × Int)) (hl : L.length = ts.length * 2)
    (h : ∀ i, i < ts.length → L[i * 2]? = some (.int .i64 (ts.getD i (0, 0)).1) ∧ L[i * 2 + 1]? = some (.int .i64 (ts.getD i (0, 0)).2)) : L = flatT ts := by
  apply List.ext_getElem?
  intro j
  by_cases hj : j < ts.length * 2
  · have hm : j = j / 2 * 2 ∨ j = j / 2 * 2 + 1 := by omega
    have h1 := h (j / 2) (by omega)
    have h2 := flatT_get ts (j / 2) (by omega)
    generalize j / 2 = d at *
    rcases hm with rfl | rfl
    · rw [h1.1, h2.1]
    · rw [h1.2, h2.2]
  · rw [List.getElem?_eq_none (by omega), List.getElem?_eq_none (by rw [flatT_len]; omega)]

/-- block g holds the cells cur of turns -/
def RowT (w : World) (g : Nat) (cur : Array Value) : Prop := w.heap[g]? = some (.cells cur 29 (0, 0))

theorem RowT.cell {w : World} {g : Nat} {cur : Array Value} (h : RowT w g cur) (i : Nat) : w.cell? ⟨g, i, none⟩ = cur[i]? := by unfold RowT at h; simp [World.cell?, h]

theorem RowT.free {w : World} {g : Nat} {cur : Array Value} (h : RowT w g cur) (i : Nat) : w.frozen? ⟨g, i, none⟩ = false := by unfold RowT at h; simp [World.frozen?, h]

theorem RowT.lt {w : World} {g : Nat} {cur : Array Value} (h : RowT w g cur) : g < w.heap.size := by unfold RowT at h; exact (Array.getElem?_eq_some_iff.1 h).1

theorem RowT.below {w w' : World} {g B : Nat} {cur : Array Value} (h : RowT w g cur) (hb : Below B w w') (hg : g < B) : RowT w' g cur := by unfold RowT at *; rw [hb.block g hg]; exact h

theorem RowT.set {w : World} {g : Nat} {cur : Array Value} (h : RowT w g cur) (i : Nat) (v : Value) : RowT (w.setCell ⟨g, i, none⟩ v) g (cur.setIfInBounds i v) := by
  unfold RowT at *
  simp [World.setCell, Array.getElem?_modify, h]

/-- the slice v is the call's own, in a block from b on, and holds these turns -/
def OwnT (w : World) (b : Nat) (v : Value) (ts : List (Int × Int)) : Prop := w.ownsRow b 29 2 v ts.length (flatT ts)

theorem OwnT.nil (w : World) (b : Nat) : OwnT w b (.slice none 0 0) [] := World.ownsRow_nil _ _ _ _

theorem OwnT.below {w w' : World} {b : Nat} {v : Value} {xs : List (Int × Int)} (h : OwnT w b v xs) (hb : Below w.heap.size w w') : OwnT w' b v xs := by
  refine World.ownsRow.kept h (row := none) ⟨hb.os, hb.tape, hb.output, hb.size, fun k hk _ => hb.block k hk⟩ ?_
  cases e : v.ownBlock with
  | none => exact .inl rfl
  | some g => exact .inr (by simp)

theorem OwnT.mono {w : World} {b b' : Nat} {v : Value} {xs : List (Int × Int)} (h : OwnT w b v xs) (hb : b' ≤ b) : OwnT w b' v xs := by
  obtain ⟨h1, h2⟩ := h
  refine ⟨h1, ?_⟩
  rcases h2 with h2 | ⟨g, cap, cur, e, hg, h3⟩
  · exact .inl h2
  · exact .inr ⟨g, cap, cur, e, by omega, h3⟩

/-- a cell outside of the list's own block is written -/
theorem OwnT.apart {w : World} {b B : Nat} {v : Value} {xs : List (Int × Int)} (h : OwnT w b v xs) (hne : v.ownBlock ≠ some B) (i : Nat) (x : Value) : OwnT (w.setCell ⟨B, i, none⟩ x) b v xs := by
  refine World.ownsRow.kept (w := w) (row := some B) h ⟨rfl, rfl, rfl, by simp [World.setCell], fun k _ hk => Below.heap_setCell _ _ _ _ (fun (e : k = B) => hk (by rw [e]))⟩ (.inr hne)

theorem OwnT.away {w : World} {b B : Nat} {v : Value} {xs : List (Int × Int)} (h : OwnT w b v xs) (hB : B < b) (i : Nat) (x : Value) : OwnT (w.setCell ⟨B, i, none⟩ x) b v xs :=
  h.apart (fun e => by have := (World.ownsRow.lt h _ e).1; omega) i x

theorem OwnT.some_of_len {w : World} {b : Nat} {v : Value} {xs : List (Int × Int)} (h : OwnT w b v xs) (h0 : xs.length ≠ 0) : v ≠ .slice none 0 0 := by
  rintro rfl
  obtain ⟨_, h⟩ := h
  rcases h with ⟨_, h⟩ | ⟨g, cap, cur, hv, _⟩
  · exact h0 h
  · cases hv

/-- the block of a list that is the call's own and not empty -/
theorem OwnT.row {w : World} {b : Nat} {v : Value} {xs : List (Int × Int)} {N : Nat} (h : OwnT w b v xs) (hN : xs.length = N) (h0 : N ≠ 0) :
    ∃ g cap cur, v = .slice (some ⟨g, 0, none⟩) N cap ∧ b ≤ g ∧ RowT w g cur ∧ cur.size = cap * 2 ∧ N ≤ cap ∧ cap ≤ maxLen ∧
      ∀ i, i < N → cur[i * 2]? = some (.int .i64 (xs.getD i (0, 0)).1) ∧ cur[i * 2 + 1]? = some (.int .i64 (xs.getD i (0, 0)).2) := by
  subst hN
  have hne := h.some_of_len h0
  obtain ⟨_, h⟩ := h
  rcases h with ⟨rfl, _⟩ | ⟨g, cap, cur, rfl, hb, hg, hn, hm, hs, ht⟩
  · exact absurd rfl hne
  · refine ⟨g, cap, cur, rfl, hb, hg, hs, hn, hm, fun i hi => ?_⟩
    have h1 := flatT_get xs i hi
    rw [← ht, List.getElem?_take_of_lt (by omega), List.getElem?_take_of_lt (by omega)] at h1
    simpa using h1

theorem OwnT.cells {w : World} {b : Nat} {v : Value} {xs : List (Int × Int)} {N : Nat} (h : OwnT w b v xs) (hN : xs.length = N) :
    ∃ a cap, v = .slice a N cap ∧ Hid (N ≠ 0 → ∃ g, a = some ⟨g, 0, none⟩ ∧ ∀ i, i < N → w.cell? ⟨g, i * 2, none⟩ = some (.int .i64 (xs.getD i (0, 0)).1) ∧ w.cell? ⟨g, i * 2 + 1, none⟩ = some (.int .i64 (xs.getD i (0, 0)).2)) := by
  by_cases h0 : N = 0
  · obtain ⟨_, h'⟩ := h
    rcases h' with ⟨rfl, _⟩ | ⟨g, cap, cur, rfl, _⟩
    · exact ⟨none, 0, by rw [h0], fun h => absurd h0 h⟩
    · exact ⟨_, cap, by rw [hN], fun h => absurd h0 h⟩
  · obtain ⟨g, cap, cur, rfl, _, hr, _, _, _, hc⟩ := h.row hN h0
    exact ⟨_, cap, rfl, fun _ => ⟨g, rfl, fun i hi => by rw [hr.cell, hr.cell]; exact hc i hi⟩⟩

theorem RowT.own {w : World} {g b cap N : Nat} {cur : Array Value} {xs : List (Int × Int)} (h : RowT w g cur) (hb : b ≤ g) (hN : xs.length = N) (hs : cur.size = cap * 2) (hn : N ≤ cap) (hm : cap ≤ maxLen)
    (hc : ∀ i, i < N → cur[i * 2]? = some (.int .i64 (xs.getD i (0, 0)).1) ∧ cur[i * 2 + 1]? = some (.int .i64 (xs.getD i (0, 0)).2)) : OwnT w b (.slice (some ⟨g, 0, none⟩) N cap) xs := by
  subst hN
  refine ⟨flatT_len xs, .inr ⟨g, cap, cur, rfl, hb, h, hn, hm, hs, ?_⟩⟩
  refine flatT_ext _ _ (by simp [hs]; omega) (fun i hi => ?_)
  rw [List.getElem?_take_of_lt (by omega), List.getElem?_take_of_lt (by omega)]
  simpa using hc i hi

/-- what was not the list's own block is not the new list's own, and lies as it lay -/
def Apart (W : World) (v v' : Value) (w' : World) : Prop := ∀ k, k < W.heap.size → v.ownBlock ≠ some k → v'.ownBlock ≠ some k ∧ w'.heap[k]? = W.heap[k]?

theorem append_turn {W : World} {x y : Int} {ops : Array Oper} {rest : List Oper} {o : Oper} {a : Act} {Q : Exit → Act → World → Prop} (hgd : o.guard = none) (S X : Operand)
    (ho : o.op = .call { callee := .builtin .append, args := #[S, X], argTypes := #[68, 68] })
    (b : Nat) (v : Value) (xs : List (Int × Int)) (L : Nat) (HL : Hid (xs.length = L)) (hL : L ≤ 100000) (hs : a.eval S = v) (hown : OwnT W b v xs) (hb : b ≤ W.heap.size)
    (hx : a.eval X = .slice (some ⟨W.heap.size, 0, none⟩) 1 1)
    (h : ∀ v' w', OwnT w' b v' (xs ++ [(x, y)]) → Apart W v v' w' → Below b W w' → wpList Try.prog ops Q rest (a.put o.dst v') w') :
    wpList Try.prog ops Q (o :: rest) a (W.alloc (.cells #[.int .i64 x, .int .i64 y] 29)) := by
  obtain ⟨i0, hi, iz0, iz1, iz2⟩ := info_parts infoTurn
  have hown1 : (W.alloc (.cells #[.int .i64 x, .int .i64 y] 29)).ownsRow b 29 2 v L (flatT xs) := by
    have h := World.ownsRow.alloc hown (.cells #[.int .i64 x, .int .i64 y] 29)
    rwa [HL.out] at h
  refine wpList_append_own_at _ hgd S X 68 ho b 29 i0 (.agg #[.int .i64 0, .int .i64 0]) 2 16 Try.underlying68 hi iz0 iz1 iz2 rfl (by decide) v L _ hs hown1 ⟨W.heap.size, 0, none⟩ 1 1 [.int .i64 x, .int .i64 y] hx rfl ?c1 ?c2 ?c3 ?c4 ?c5 ?_
  case c1 =>
    intro j u hj
    have hn := Two.new W (.int .i64 x) (.int .i64 y) 29
    have a0 : (⟨W.heap.size, 0, none⟩ : Addr).add 0 = ⟨W.heap.size, 0, none⟩ := by simp [Addr.add]
    have a1 : (⟨W.heap.size, 0, none⟩ : Addr).add 1 = ⟨W.heap.size, 1, none⟩ := by simp [Addr.add]
    match j, hj with
    | 0, hj => simp at hj; subst hj; rw [a0]; exact hn.cell0
    | 1, hj => simp at hj; subst hj; rw [a1]; exact hn.cell1
    | j + 2, hj => simp at hj
  case c2 => simp [Value.oneCell']
  case c3 => unfold maxLen; omega
  case c4 => omega
  case c5 => simp; omega
  intro v' w' h1 h2 h3 h4
  have hlb := World.ownsRow.lt hown1
  have ho' : OwnT w' b v' (xs ++ [(x, y)]) := by
    unfold OwnT
    rw [List.length_append, flatT_append, HL.out]
    exact h1
  refine h v' w' ho' ?_ ?_
  · intro k hk hne
    refine ⟨?_, ?_⟩
    · rcases h4 with e | e
      · rw [e]; exact hne
      · rw [e]; simp; omega
    · rw [h2.block k (by simp; omega) (fun e => hne e.symm)]
      exact Below.heap_alloc _ _ _ hk
  · exact ((Below.refl b W).alloc hb _).grown h2 (by simp; omega) (fun q hq => by have := hlb q hq; omega)

theorem made_nilT (W : World) : OwnT (W.alloc (.cells #[] 29)) W.heap.size (.slice (some ⟨W.heap.size, 0, none⟩) 0 0) [] :=
  World.ownsRow_made (base := W.heap.size) (e := 29) (size := 2) W #[] 0 (by simp) (by unfold maxLen; omega) rfl
end Go.Proofs.Ytdkcodinlegheaa
