/- One number appended to a list of the call's own: what was not the list's own block lies as it lay. -/
import Derived.Test.YtnpaicdbmmfdhaaGList
import Derived.Maps.AppendAt
set_option linter.unusedVariables false
namespace Go.Proofs.Ytnpaicdbmmfdhaa
open Go.ChangeShapes Go.WideShapes Go.ChangeAt Go.RowKit Go.Joins

/-- what was not the list's own block is not the new list's own, and lies as it lay -/
def ApartI (W : World) (v v' : Value) (w' : World) : Prop := ∀ k, k < W.heap.size → v.ownBlock ≠ some k → v'.ownBlock ≠ some k ∧ w'.heap[k]? = W.heap[k]?

/-- two lists do not share their block -/
def Apart2 (v u : Value) : Prop := ∀ k, u.ownBlock = some k → v.ownBlock ≠ some k

theorem Apart2.symm {v u : Value} (h : Apart2 v u) : Apart2 u v := fun k hv hu => h k hu hv

theorem OwnL.other {w w' : World} {b : Nat} {u v v' : Value} {xs : List Int} (h : OwnL w b u xs) (hk : ApartI w v v' w') (hw : Below b w w') (hne : Apart2 v u) : OwnL w' b u xs ∧ Apart2 v' u := by
  have hlt := World.ownsRow.lt h
  refine ⟨?_, fun k hku => (hk k (hlt k hku).2 (hne k hku)).1⟩
  obtain ⟨h1, h2⟩ := h
  refine ⟨h1, ?_⟩
  rcases h2 with h2 | ⟨g, cap, cur, e, hg, h3, h4⟩
  · exact .inl h2
  · refine .inr ⟨g, cap, cur, e, hg, ?_, h4⟩
    have hu : u.ownBlock = some g := by rw [e]; rfl
    rw [(hk g (hlt g hu).2 (hne g hu)).2]
    exact h3

theorem append_intA {W : World} {x : Int} {ops : Array Oper} {rest : List Oper} {o : Oper} {a : Act} {Q : Exit → Act → World → Prop} (hgd : o.guard = none) (S X : Operand)
    (ho : o.op = .call { callee := .builtin .append, args := #[S, X], argTypes := #[30, 30] })
    (b : Nat) (v : Value) (xs : List Int) (L : Nat) (HL : Hid (xs.length = L)) (hL : L ≤ 100000) (hs : a.eval S = v) (hown : OwnL W b v xs) (hb : b ≤ W.heap.size)
    (hx : a.eval X = .slice (some ⟨W.heap.size, 0, none⟩) 1 1)
    (h : ∀ v' w', OwnL w' b v' (xs ++ [x]) → ApartI W v v' w' → Below b W w' → wpList Try.prog ops Q rest (a.put o.dst v') w') :
    wpList Try.prog ops Q (o :: rest) a (W.alloc (.cells #[.int .i64 x] 3)) := by
  obtain ⟨i0, hi, iz0, iz1, iz2⟩ := info_parts infoInt
  have hown1 : (W.alloc (.cells #[.int .i64 x] 3)).ownsRow b 3 1 v L (xs.map (Value.int .i64)) := by
    have h := World.ownsRow.alloc hown (.cells #[.int .i64 x] 3)
    rwa [HL.out] at h
  refine wpList_append_own_at _ hgd S X 30 ho b 3 i0 (.int .i64 0) 1 8 Try.underlying30 hi iz0 iz1 iz2 rfl (by decide) v L _ hs hown1 ⟨W.heap.size, 0, none⟩ 1 1 [.int .i64 x] hx rfl ?c1 ?c2 ?c3 ?c4 ?c5 ?_
  case c1 =>
    intro j u hj
    match j, hj with
    | 0, hj => simp at hj; subst hj; exact cell_of_one (heap_alloc_new W _)
    | j + 1, hj => simp at hj
  case c2 => simp [Value.oneCell']
  case c3 => unfold maxLen; omega
  case c4 => omega
  case c5 => simp; omega
  intro v' w' h1 h2 h3 h4
  have hlb := World.ownsRow.lt hown1
  have ho' : OwnL w' b v' (xs ++ [x]) := by
    unfold OwnL
    rw [List.length_append, List.map_append, HL.out]
    exact h1
  refine h v' w' ho' ?_ ?_
  · intro k hk hne
    refine ⟨?_, ?_⟩
    · rcases h4 with e | e
      · rw [e]; exact hne
      · rw [e]; simp; omega
    · rw [h2.block k (by simp; omega) (fun e => hne e.symm)]
      exact Below.heap_alloc _ _ _ hk
  · exact ((Below.refl b W).alloc hb _).grown h2 (by simp; omega) (fun q hq => by have := hlb q hq; omega)
end Go.Proofs.Ytnpaicdbmmfdhaa
