/- Lists of lists in memory: what they read as; one row appended to a list of the call's own. -/
import Derived.Test.YtckkgjgfjnfeoaaDoorGList
set_option linter.unusedVariables false
namespace Go.Proofs.YtckkgjgfjnfeoaaDoor
set_option maxRecDepth 4000
open Go.ChangeShapes Go.WideShapes Go.ChangeAt Go.RowKit Go.Joins

theorem infoRow : (Tryd.prog.info? 33).map (fun i => (i.zero, i.size, i.bytes)) = some (some (.slice none 0 0), 1, 24) := by kernel_rfl

/-- a list of lists, of the call's own: the rows lie in blocks of their own, from b on -/
def OwnLL (w : World) (b : Nat) (v : Value) (Ls : List (List Int)) : Prop :=
  ∃ rs : List Value, rs.length = Ls.length ∧ w.ownsRow b 33 1 v Ls.length rs ∧ (∀ i, i < Ls.length → OwnL w b (rs.getD i undef) (Ls.getD i [])) ∧
    ∀ i j, i < j → j < Ls.length → (rs.getD i undef).ownBlock = none ∨ (rs.getD i undef).ownBlock ≠ (rs.getD j undef).ownBlock

theorem OwnLL.below {w w' : World} {b : Nat} {v : Value} {Ls : List (List Int)} (h : OwnLL w b v Ls) (hb : Below w.heap.size w w') : OwnLL w' b v Ls := by
  obtain ⟨rs, h1, h2, h3, h4⟩ := h
  exact ⟨rs, h1, World.ownsRow.kept h2 (row := none) ⟨hb.os, hb.tape, hb.output, hb.size, fun k hk _ => hb.block k hk⟩ (by cases v.ownBlock <;> simp), fun i hi => (h3 i hi).below hb, h4⟩

theorem OwnLL.mono {w : World} {b b' : Nat} {v : Value} {Ls : List (List Int)} (h : OwnLL w b v Ls) (hb : b' ≤ b) : OwnLL w b' v Ls := by
  obtain ⟨rs, h1, ⟨h2, h5⟩, h3, h4⟩ := h
  refine ⟨rs, h1, ⟨h2, ?_⟩, fun i hi => (h3 i hi).mono hb, h4⟩
  rcases h5 with h5 | ⟨g, cap, cur, a1, a2, a3⟩
  · exact .inl h5
  · exact .inr ⟨g, cap, cur, a1, Nat.le_trans hb a2, a3⟩

theorem OwnLL.nil (w : World) (b : Nat) : OwnLL w b (.slice none 0 0) [] := ⟨[], rfl, World.ownsRow_nil _ _ _ _, fun i hi => by simp at hi, fun i j _ hj => by simp at hj⟩

theorem OwnLL.made (W : World) : OwnLL (W.alloc (.cells #[] 33)) W.heap.size (.slice (some ⟨W.heap.size, 0, none⟩) 0 0) [] :=
  ⟨[], rfl, World.ownsRow_made (base := W.heap.size) (e := 33) (size := 1) W #[] 0 (by simp) (by unfold maxLen; omega) rfl, fun i hi => by simp at hi, fun i j _ hj => by simp at hj⟩

/-- the cells of a list of lists -/
theorem OwnLL.cells {w : World} {b : Nat} {v : Value} {Ls : List (List Int)} (h : OwnLL w b v Ls) {N : Nat} (hN : Ls.length = N) :
    ∃ a cap, v = .slice a N cap ∧ (N ≠ 0 → ∃ g, a = some ⟨g, 0, none⟩ ∧ Hid (∀ i, i < N → ∃ r, w.cell? ⟨g, i, none⟩ = some r ∧ OwnL w b r (Ls.getD i []))) := by
  subst hN
  obtain ⟨rs, h1, ⟨h2, h5⟩, h3, _⟩ := h
  rcases h5 with ⟨rfl, h0⟩ | ⟨g, cap, cur, rfl, hb, hg, hn, hm, hs, ht⟩
  · exact ⟨none, 0, by rw [h0], fun h => absurd h0 h⟩
  · refine ⟨some ⟨g, 0, none⟩, cap, rfl, fun _ => ⟨g, rfl, fun i hi => ⟨rs.getD i undef, ?_, h3 i hi⟩⟩⟩
    have e : (cur.toList.take (Ls.length * 1))[i]? = rs[i]? := by rw [ht]
    rw [Nat.mul_one, List.getElem?_take_of_lt hi] at e
    have e2 : cur[i]? = cur.toList[i]? := by simp
    simp [World.cell?, hg]
    rw [e2, e, List.getElem?_eq_getElem (by omega)]
    simp

theorem own_types {w : World} {b b' : Nat} {v r : Value} {L : List Int} {n : Nat} {rs : List Value} (h : w.ownsRow b 33 1 v n rs) (h' : OwnL w b' r L) : r.ownBlock = none ∨ r.ownBlock ≠ v.ownBlock := by
  obtain ⟨_, h⟩ := h
  obtain ⟨_, h'⟩ := h'
  rcases h' with ⟨rfl, _⟩ | ⟨g', cap', cur', rfl, _, hg', _⟩
  · exact .inl rfl
  · right
    rcases h with ⟨rfl, _⟩ | ⟨g, cap, cur, rfl, _, hg, _⟩
    · simp [Value.ownBlock]
    · intro e
      simp [Value.ownBlock] at e
      subst e
      rw [hg] at hg'
      simp at hg'

theorem getD_left {rs : List Value} {r : Value} {i : Nat} (h : i < rs.length) : (rs ++ [r]).getD i undef = rs.getD i undef := by
  rw [List.getD_eq_getElem?_getD, List.getElem?_append_left h, List.getD_eq_getElem?_getD]

theorem getD_last {rs : List Value} {r : Value} {i : Nat} (h : i = rs.length) : (rs ++ [r]).getD i undef = r := by
  subst h; simp

theorem getL_left {Ls : List (List Int)} {L : List Int} {i : Nat} (h : i < Ls.length) : (Ls ++ [L]).getD i [] = Ls.getD i [] := by
  rw [List.getD_eq_getElem?_getD, List.getElem?_append_left h, List.getD_eq_getElem?_getD]

theorem getL_last {Ls : List (List Int)} {L : List Int} {i : Nat} (h : i = Ls.length) : (Ls ++ [L]).getD i [] = L := by
  subst h; simp

/-- one row, new since the world Wp, is appended -/
theorem append_row {W Wp : World} {r : Value} {L : List Int} {ops : Array Oper} {rest : List Oper} {o : Oper} {a : Act} {Q : Exit → Act → World → Prop} (hgd : o.guard = none) (S X : Operand)
    (ho : o.op = .call { callee := .builtin .append, args := #[S, X], argTypes := #[36, 36] })
    (b : Nat) (v : Value) (Ls : List (List Int)) (N : Nat) (HL : Hid (Ls.length = N)) (hL : N ≤ 100000) (hs : a.eval S = v) (hownp : OwnLL Wp b v Ls) (hB : Below Wp.heap.size Wp W) (hb : b ≤ Wp.heap.size)
    (hr : OwnL W Wp.heap.size r L) (H : Nat) (hH : W.heap.size = H) (hx : a.eval X = .slice (some ⟨H, 0, none⟩) 1 1)
    (h : ∀ v' w', OwnLL w' b v' (Ls ++ [L]) → v' ≠ .slice none 0 0 → Below b W w' → wpList Tryd.prog ops Q rest (a.put o.dst v') w') :
    wpList Tryd.prog ops Q (o :: rest) a (W.alloc (.cells #[r] 33)) := by
  subst hH
  obtain ⟨i0, hi, iz0, iz1, iz2⟩ := info_parts infoRow
  have hlt : ∀ i, i < Ls.length → ∀ g, (hownp.choose.getD i undef).ownBlock = some g → g < Wp.heap.size := fun i hi g hg => ((World.ownsRow.lt (hownp.choose_spec.2.2.1 i hi)) g hg).2
  have hown := hownp.below hB
  have hbW : b ≤ W.heap.size := Nat.le_trans hb hB.size
  obtain ⟨h1, h2p, h3p, h4⟩ := hownp.choose_spec
  generalize hownp.choose = rs at *
  have h2 : W.ownsRow b 33 1 v Ls.length rs := World.ownsRow.kept h2p (row := none) ⟨hB.os, hB.tape, hB.output, hB.size, fun k hk _ => hB.block k hk⟩ (by cases v.ownBlock <;> simp)
  have h3 : ∀ i, i < Ls.length → OwnL W b (rs.getD i undef) (Ls.getD i []) := fun i hi => (h3p i hi).below hB
  have hown1 : (W.alloc (.cells #[r] 33)).ownsRow b 33 1 v N rs := by
    have h := World.ownsRow.alloc h2 (.cells #[r] 33)
    rwa [HL.out] at h
  refine wpList_append_own _ hgd S X 36 ho b 33 i0 (.slice none 0 0) 1 24 Tryd.underlying36 hi iz0 iz1 iz2 rfl (by decide) v N _ hs hown1 ⟨W.heap.size, 0, none⟩ 1 1 [r] hx rfl ?c1 ?c2 ?c3 ?c4 ?c5 ?_
  case c1 =>
    intro j u hj
    match j, hj with
    | 0, hj => simp at hj; subst hj; exact cell_of_one (heap_alloc_new W _)
    | j + 1, hj => simp at hj
  case c2 =>
    intro u hu
    simp at hu
    subst hu
    rcases hr.2 with ⟨e, _⟩ | ⟨g, cap, cur, e, _⟩ <;> rw [e] <;> rfl
  case c3 => unfold maxLen; omega
  case c4 => omega
  case c5 => simp; omega
  intro v' w' a1 a2 a3
  have hlb := World.ownsRow.lt hown1
  refine h v' w' ?_ ?_ ?_
  · refine ⟨rs ++ [r], by simp [h1], ?_, fun i hi => ?_, fun i j hij hj => ?_⟩
    · rw [List.length_append, HL.out]; exact a1
    · rw [List.length_append, List.length_singleton] at hi
      by_cases c : i < Ls.length
      · rw [getD_left (by omega), getL_left c]
        exact World.ownsRow.kept (World.ownsRow.alloc (h3 i c) _) a2 (own_types h2 (h3 i c))
      · rw [getD_last (by omega), getL_last (by omega)]
        exact OwnL.mono (World.ownsRow.kept (World.ownsRow.alloc hr _) a2 (own_types h2 hr)) hb
    · rw [List.length_append, List.length_singleton] at hj
      by_cases c : j < Ls.length
      · rw [getD_left (by omega), getD_left (by omega)]
        exact h4 i j hij c
      · rw [getD_left (by omega), getD_last (by omega)]
        cases e : (rs.getD i undef).ownBlock with
        | none => exact .inl rfl
        | some g =>
          right
          intro e2
          have := hlt i (by omega) g e
          have := (World.ownsRow.lt hr g e2.symm).1
          omega
  · intro e
    have := (a3.1 e).2
    omega
  · exact ((Below.refl b W).alloc hbW _).grown a2 (by simp; omega) (fun q hq => by have := hlb q hq; omega)
end Go.Proofs.YtckkgjgfjnfeoaaDoor
