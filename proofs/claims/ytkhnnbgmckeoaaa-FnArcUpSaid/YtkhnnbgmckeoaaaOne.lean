/- Blocks of one cell; a turn and a number in boxes of their own; two numbers appended at once. -/
import Derived.Test.YtkhnnbgmckeoaaaGFun
import Derived.Test.YtkhnnbgmckeoaaaGList
import Derived.BigQuiet
set_option linter.unusedVariables false
namespace Go.Proofs.Ytkhnnbgmckeoaaa
open Go.ChangeShapes Go.WideShapes Go.ChangeAt Go.RowKit Go.Joins

/-- block r holds one cell -/
def One (w : World) (r : Nat) (x : Value) (T : TypeId) : Prop := w.heap[r]? = some (.cells #[x] T (0, 0))

theorem One.cell {w : World} {r : Nat} {x : Value} {T : TypeId} (h : One w r x T) : w.cell? ⟨r, 0, none⟩ = some x := by unfold One at h; simp [World.cell?, h]

theorem One.lt {w : World} {r : Nat} {x : Value} {T : TypeId} (h : One w r x T) : r < w.heap.size := by unfold One at h; exact (Array.getElem?_eq_some_iff.1 h).1

theorem One.new (w : World) (x : Value) (T : TypeId) : One (w.alloc (.cells #[x] T)) w.heap.size x T := heap_alloc_new w _

theorem One.alloc {w : World} {r : Nat} {x : Value} {T : TypeId} (h : One w r x T) (o : Obj) : One (w.alloc o) r x T := by
  have := h.lt
  unfold One at *
  rw [Below.heap_alloc _ _ _ this]; exact h

theorem One.below {w w' : World} {g B : Nat} {x : Value} {T : TypeId} (h : One w g x T) (hb : Below B w w') (hg : g < B) : One w' g x T := by unfold One at *; rw [hb.block g hg]; exact h

theorem Two.drewS {w : World} {b : Nat} {x y : Value} {T : TypeId} (h : Two w b x y T) : Two w.drew b x y T := h

theorem Below.drewS {N : Nat} {a w : World} (h : Below N a w) : Below N a w.drew := below_drewN h 1

theorem One.drewS {w : World} {b : Nat} {x : Value} {T : TypeId} (h : One w b x T) : One w.drew b x T := h

/-- two blocks: a turn and a number -/
theorem two_boxes (n s f : Int) (w : World) : ∃ W, W = (w.alloc (.cells #[.int .i64 n, .int .i64 s] 24)).alloc (.cells #[.int .i64 f] 3) ∧
    Two W w.heap.size (.int .i64 n) (.int .i64 s) 24 ∧ One W (w.heap.size + 1) (.int .i64 f) 3 ∧ Below w.heap.size w W := by
  refine ⟨_, rfl, ?_, ?_, ?_⟩
  · exact (Two.new _ _ _ _).alloc _
  · have h := One.new (w.alloc (.cells #[.int .i64 n, .int .i64 s] 24)) (.int .i64 f) 3
    have e : (w.alloc (.cells #[.int .i64 n, .int .i64 s] 24)).heap.size = w.heap.size + 1 := by simp
    rwa [e] at h
  · exact (by repeat (first | exact Below.refl _ _ | assumption | (refine Below.trans ?_ (Below.mono (by assumption) (by first | omega | (simp <;> omega)))) | (refine Below.alloc ?_ (by first | omega | (simp <;> omega)) _) | (refine below_drewN ?_ _) | (refine Below.drew ?_) | (refine Below.setCell ?_ (by first | omega | (simp <;> omega)) _)))

/-- two numbers appended at once to a list of the call's own -/
theorem append_int2 {W : World} {x y : Int} {ops : Array Oper} {rest : List Oper} {o : Oper} {a : Act} {Q : Exit → Act → World → Prop} (hgd : o.guard = none) (S X : Operand)
    (ho : o.op = .call { callee := .builtin .append, args := #[S, X], argTypes := #[32, 32] })
    (b : Nat) (v : Value) (xs : List Int) (L : Nat) (HL : Hid (xs.length = L)) (hL : L ≤ 100000) (hs : a.eval S = v) (hown : OwnL W b v xs) (hb : b ≤ W.heap.size)
    (hx : a.eval X = .slice (some ⟨W.heap.size, 0, none⟩) 2 2)
    (h : ∀ v' w', OwnL w' b v' (xs ++ [x, y]) → v' ≠ .slice none 0 0 → Below b W w' → wpList Try.prog ops Q rest (a.put o.dst v') w') :
    wpList Try.prog ops Q (o :: rest) a (W.alloc (.cells #[.int .i64 x, .int .i64 y] 3)) := by
  obtain ⟨i0, hi, iz0, iz1, iz2⟩ := info_parts infoInt
  have hown1 : (W.alloc (.cells #[.int .i64 x, .int .i64 y] 3)).ownsRow b 3 1 v L (xs.map (Value.int .i64)) := by
    have h := World.ownsRow.alloc hown (.cells #[.int .i64 x, .int .i64 y] 3)
    rwa [HL.out] at h
  refine wpList_append_own _ hgd S X 32 ho b 3 i0 (.int .i64 0) 1 8 Try.underlying32 hi iz0 iz1 iz2 rfl (by decide) v L _ hs hown1 ⟨W.heap.size, 0, none⟩ 2 2 [.int .i64 x, .int .i64 y] hx rfl ?c1 ?c2 ?c3 ?c4 ?c5 ?_
  case c1 =>
    intro j u hj
    have hn := Two.new W (.int .i64 x) (.int .i64 y) 3
    have a0 : (⟨W.heap.size, 0, none⟩ : Addr).add 0 = ⟨W.heap.size, 0, none⟩ := by simp [Addr.add]
    have a1 : (⟨W.heap.size, 0, none⟩ : Addr).add 1 = ⟨W.heap.size, 1, none⟩ := by simp [Addr.add]
    match j, hj with
    | 0, hj => simp at hj; subst hj; rw [a0]; exact hn.cell0
    | 1, hj => simp at hj; subst hj; rw [a1]; exact hn.cell1
    | j + 2, hj => simp at hj
  case c2 => simp [Value.oneCell']
  case c3 => unfold maxLen; omega
  case c4 => omega
  case c5 => simp; omega
  intro v' w' h1 h2 h3
  have hlb := World.ownsRow.lt hown1
  have ho' : OwnL w' b v' (xs ++ [x, y]) := by
    unfold OwnL
    rw [List.length_append, List.map_append, HL.out]
    exact h1
  refine h v' w' ho' ?_ ?_
  · intro e
    have := (h3.1 e).2
    omega
  · exact ((Below.refl b W).alloc hb _).grown h2 (by simp; omega) (fun q hq => by have := hlb q hq; omega)
end Go.Proofs.Ytkhnnbgmckeoaaa
