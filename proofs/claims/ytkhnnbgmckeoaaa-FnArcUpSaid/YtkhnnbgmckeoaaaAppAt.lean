/- One number appended to a list of the call's own that began as a literal: which blocks may have changed. -/
import Derived.Test.YtkhnnbgmckeoaaaApp
import Derived.Maps.AppendAt
set_option linter.unusedVariables false
namespace Go.Proofs.Ytkhnnbgmckeoaaa
open Go.ChangeShapes Go.WideShapes Go.ChangeAt Go.RowKit Go.Joins

/-- the list lies in block g or from c on -/
def OnlyAt (g c : Nat) (v : Value) : Prop := v.ownBlock = some g ∨ ∀ k, v.ownBlock = some k → c ≤ k

/-- all blocks below c but g lie as they lay -/
def SaveAt (g c : Nat) (W W' : World) : Prop := ∀ k, k < c → k ≠ g → W'.heap[k]? = W.heap[k]?

theorem SaveAt.refl (g c : Nat) (W : World) : SaveAt g c W W := fun _ _ _ => rfl

theorem SaveAt.trans {g c : Nat} {A B C : World} (h : SaveAt g c A B) (h' : SaveAt g c B C) : SaveAt g c A C := fun k h1 h2 => (h' k h1 h2).trans (h k h1 h2)

theorem SaveAt.cell {g c : Nat} {A B : World} (h : SaveAt g c A B) {k i : Nat} (h1 : k < c) (h2 : k ≠ g) : B.cell? ⟨k, i, none⟩ = A.cell? ⟨k, i, none⟩ := by
  simp [World.cell?, h k h1 h2]

theorem SaveAt.drewN {g c : Nat} {A B : World} (h : SaveAt g c A B) (n : Nat) : SaveAt g c A (B.drewN n) := fun k h1 h2 => by
  have := h k h1 h2
  simpa using this

theorem append_at {W : World} {x : Int} {ops : Array Oper} {rest : List Oper} {o : Oper} {a : Act} {Q : Exit → Act → World → Prop} (hgd : o.guard = none) (S X : Operand)
    (ho : o.op = .call { callee := .builtin .append, args := #[S, X], argTypes := #[32, 32] })
    (g c b : Nat) (v : Value) (xs : List Int) (L : Nat) (HL : Hid (xs.length = L)) (hL : L ≤ 100000) (hs : a.eval S = v) (hown : OwnL W b v xs) (hat : OnlyAt g c v) (hb : b ≤ W.heap.size) (hc : c ≤ W.heap.size)
    (hx : a.eval X = .slice (some ⟨W.heap.size, 0, none⟩) 1 1)
    (h : ∀ v' w', OwnL w' b v' (xs ++ [x]) → OnlyAt g c v' → v' ≠ .slice none 0 0 → Below b W w' → SaveAt g c W w' → wpList Try.prog ops Q rest (a.put o.dst v') w') :
    wpList Try.prog ops Q (o :: rest) a (W.alloc (.cells #[.int .i64 x] 3)) := by
  obtain ⟨i0, hi, iz0, iz1, iz2⟩ := info_parts infoInt
  have hown1 : (W.alloc (.cells #[.int .i64 x] 3)).ownsRow b 3 1 v L (xs.map (Value.int .i64)) := by
    have h := World.ownsRow.alloc hown (.cells #[.int .i64 x] 3)
    rwa [HL.out] at h
  refine wpList_append_own_at _ hgd S X 32 ho b 3 i0 (.int .i64 0) 1 8 Try.underlying32 hi iz0 iz1 iz2 rfl (by decide) v L _ hs hown1 ⟨W.heap.size, 0, none⟩ 1 1 [.int .i64 x] hx rfl ?c1 ?c2 ?c3 ?c4 ?c5 ?_
  case c1 =>
    intro j u hj
    match j, hj with
    | 0, hj => simp at hj; subst hj; exact cell_of_one (heap_alloc_new W _)
    | j + 1, hj => simp at hj
  case c2 => simp [Value.oneCell']
  case c3 => unfold maxLen; omega
  case c4 => omega
  case c5 => simp; omega
  intro v' w' h1 h2 h3 h4
  have hlb := World.ownsRow.lt hown1
  have ho' : OwnL w' b v' (xs ++ [x]) := by
    unfold OwnL
    rw [List.length_append, List.map_append, HL.out]
    exact h1
  refine h v' w' ho' ?_ ?_ ?_ ?_
  · rcases h4 with e | e
    · unfold OnlyAt; rw [e]; exact hat
    · right
      intro k hk
      rw [e] at hk
      simp at hk
      omega
  · intro e
    have := (h3.1 e).2
    omega
  · exact ((Below.refl b W).alloc hb _).grown h2 (by simp; omega) (fun q hq => by have := hlb q hq; omega)
  · intro k hk hg
    have hk2 : k < (W.alloc (.cells #[.int .i64 x] 3)).heap.size := by simp; omega
    rw [h2.block k hk2 (by
      rcases hat with e | e
      · rw [e]; simp [hg]
      · intro e2
        have := e k e2.symm
        omega)]
    exact Below.heap_alloc W _ k (by omega)

/-- the cells of a list of the call's own -/
theorem OwnL.cells {w : World} {b : Nat} {v : Value} {xs : List Int} {N : Nat} (h : OwnL w b v xs) (hN : xs.length = N) :
    ∃ a cap, v = .slice a N cap ∧ (N ≠ 0 → ∃ g, a = some ⟨g, 0, none⟩ ∧ b ≤ g ∧ g < w.heap.size ∧ Hid (∀ j, j < N → w.cell? ⟨g, j, none⟩ = some (.int .i64 (xs.getD j 0)))) := by
  obtain ⟨a, cap, rfl, hc0⟩ := h.reads.cells hN
  refine ⟨a, cap, rfl, fun h0 => ?_⟩
  obtain ⟨g, off, rfl, hc⟩ := hc0 h0
  obtain ⟨_, h⟩ := h
  rcases h with ⟨e, _⟩ | ⟨g', cap', cur, e, hb, hg, _⟩
  · cases e
  · injection e with e1
    injection e1 with e1
    injection e1 with e1 e2
    subst e1 e2
    exact ⟨g, rfl, hb, (Array.getElem?_eq_some_iff.1 hg).1, fun j hj => by have := hc.out j hj; rwa [Nat.zero_add] at this⟩
end Go.Proofs.Ytkhnnbgmckeoaaa
