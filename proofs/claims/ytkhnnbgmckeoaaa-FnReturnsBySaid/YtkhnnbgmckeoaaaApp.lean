/- Small laws of lists in memory: one number appended to a list of the call's own; an empty list that is made. -/
import Derived.Test.YtkhnnbgmckeoaaaFirst2
set_option linter.unusedVariables false
namespace Go.Proofs.Ytkhnnbgmckeoaaa
open Go.ChangeShapes Go.WideShapes Go.ChangeAt Go.RowKit Go.Joins

theorem append_int {W : World} {x : Int} {ops : Array Oper} {rest : List Oper} {o : Oper} {a : Act} {Q : Exit → Act → World → Prop} (hgd : o.guard = none) (S X : Operand)
    (ho : o.op = .call { callee := .builtin .append, args := #[S, X], argTypes := #[32, 32] })
    (b : Nat) (v : Value) (xs : List Int) (L : Nat) (HL : Hid (xs.length = L)) (hL : L ≤ 100000) (hs : a.eval S = v) (hown : OwnL W b v xs) (hb : b ≤ W.heap.size)
    (hx : a.eval X = .slice (some ⟨W.heap.size, 0, none⟩) 1 1)
    (h : ∀ v' w', OwnL w' b v' (xs ++ [x]) → v' ≠ .slice none 0 0 → Below b W w' → wpList Try.prog ops Q rest (a.put o.dst v') w') :
    wpList Try.prog ops Q (o :: rest) a (W.alloc (.cells #[.int .i64 x] 3)) := by
  obtain ⟨i0, hi, iz0, iz1, iz2⟩ := info_parts infoInt
  have hown1 : (W.alloc (.cells #[.int .i64 x] 3)).ownsRow b 3 1 v L (xs.map (Value.int .i64)) := by
    have h := World.ownsRow.alloc hown (.cells #[.int .i64 x] 3)
    rwa [HL.out] at h
  refine wpList_append_own _ hgd S X 32 ho b 3 i0 (.int .i64 0) 1 8 Try.underlying32 hi iz0 iz1 iz2 rfl (by decide) v L _ hs hown1 ⟨W.heap.size, 0, none⟩ 1 1 [.int .i64 x] hx rfl ?c1 ?c2 ?c3 ?c4 ?c5 ?_
  case c1 =>
    intro j u hj
    match j, hj with
    | 0, hj => simp at hj; subst hj; exact cell_of_one (heap_alloc_new W _)
    | j + 1, hj => simp at hj
  case c2 => simp [Value.oneCell']
  case c3 => unfold maxLen; omega
  case c4 => omega
  case c5 => simp; omega
  intro v' w' h1 h2 h3
  have hlb := World.ownsRow.lt hown1
  have ho' : OwnL w' b v' (xs ++ [x]) := by
    unfold OwnL
    rw [List.length_append, List.map_append, HL.out]
    exact h1
  refine h v' w' ho' ?_ ?_
  · intro e
    have := (h3.1 e).2
    omega
  · exact ((Below.refl b W).alloc hb _).grown h2 (by simp; omega) (fun q hq => by have := hlb q hq; omega)

theorem made_nil (W : World) : OwnL (W.alloc (.cells #[] 3)) W.heap.size (.slice (some ⟨W.heap.size, 0, none⟩) 0 0) [] :=
  World.ownsRow_made (base := W.heap.size) (e := 3) (size := 1) W #[] 0 (by simp) (by unfold maxLen; omega) rfl

/-- the cells of a list that is read -/
theorem Reads.cells {w : World} {v : Value} {xs : List Int} {N : Nat} (h : Reads w v xs) (hN : xs.length = N) :
    ∃ a cap, v = .slice a N cap ∧ (N ≠ 0 → ∃ g off, a = some ⟨g, off, none⟩ ∧ Hid (∀ j, j < N → w.cell? ⟨g, off + j, none⟩ = some (.int .i64 (xs.getD j 0)))) := by
  subst hN
  obtain ⟨a, cap, rfl, h⟩ := h
  refine ⟨a, cap, rfl, fun h0 => ?_⟩
  obtain ⟨g, off, e, hc⟩ := h (fun e => h0 (by rw [e]; rfl))
  exact ⟨g, off, e, fun j hj => hc j hj⟩

theorem nil_of_len {xs : List Int} (h : xs.length = 0) : xs = [] := List.length_eq_zero_iff.1 h

/-- a list that the call has begun: still the empty one that was made, or one in a block from c on -/
def OwnE (w : World) (b c : Nat) (v : Value) (xs : List Int) : Prop := (∃ g, v = .slice (some ⟨g, 0, none⟩) 0 0 ∧ xs = [] ∧ OwnL w b v xs) ∨ OwnL w c v xs

theorem OwnE.own {w : World} {b c : Nat} {v : Value} {xs : List Int} (h : OwnE w b c v xs) (hb : b ≤ c) : OwnL w b v xs := by
  rcases h with ⟨_, _, _, h⟩ | h
  · exact h
  · exact h.mono hb

theorem OwnE.below {w w' : World} {b c : Nat} {v : Value} {xs : List Int} (h : OwnE w b c v xs) (hb : Below w.heap.size w w') : OwnE w' b c v xs := by
  rcases h with ⟨g, e, e2, h⟩ | h
  · exact .inl ⟨g, e, e2, h.below hb⟩
  · exact .inr (h.below hb)

theorem OwnE.made (w : World) (c : Nat) : OwnE (w.alloc (.cells #[] 3)) w.heap.size c (.slice (some ⟨w.heap.size, 0, none⟩) 0 0) [] := .inl ⟨_, rfl, rfl, made_nil w⟩

theorem append_e {W : World} {x : Int} {ops : Array Oper} {rest : List Oper} {o : Oper} {a : Act} {Q : Exit → Act → World → Prop} (hgd : o.guard = none) (S X : Operand)
    (ho : o.op = .call { callee := .builtin .append, args := #[S, X], argTypes := #[32, 32] })
    (b c : Nat) (v : Value) (xs : List Int) (L : Nat) (HL : Hid (xs.length = L)) (hL : L ≤ 100000) (hs : a.eval S = v) (hown : OwnE W b c v xs) (hb : c ≤ W.heap.size)
    (hx : a.eval X = .slice (some ⟨W.heap.size, 0, none⟩) 1 1)
    (h : ∀ v' w', OwnE w' b c v' (xs ++ [x]) → v' ≠ .slice none 0 0 → Below c W w' → wpList Try.prog ops Q rest (a.put o.dst v') w') :
    wpList Try.prog ops Q (o :: rest) a (W.alloc (.cells #[.int .i64 x] 3)) := by
  rcases hown with ⟨g, rfl, rfl, _⟩ | hown
  · obtain ⟨i0, hi, iz0, iz1, iz2⟩ := info_parts infoInt
    refine wpList_plain hgd fun _ hK => ?_
    have hr := run_append_grow (P := Try.prog) (W.alloc (.cells #[.int .i64 x] 3)) 32 o.type 3 i0 (.int .i64 0) Try.underlying32 hi iz0 ⟨g, 0, none⟩ 0 0 [] (by simp) (by simp) ⟨W.heap.size, 0, none⟩ 1 1 [.int .i64 x] (by simp [iz1])
      (by
        intro j u hj
        match j, hj with
        | 0, hj => simp at hj; subst hj; exact cell_of_one (heap_alloc_new W _)
        | j + 1, hj => simp at hj) (by omega) (by omega) (growslice_fits (by omega) (by rw [iz2]; omega))
    unfold Oper.wp execOp
    simp only [ho, resolve, invoke, builtin, Sem.run_bind, Sem.run_pure, Result.andThen_ok, List.map_toArray, List.map_cons, List.map_nil, hs, hx, hr]
    refine hK _ _ (h _ _ (.inr ?_) (by simp) ?_)
    · refine ⟨by simp, .inr ⟨W.heap.size + 1, _, (([] : List Value).toArray ++ ([Value.int .i64 x] : List Value).toArray ++ Builtin.zeroCells (Value.int .i64 0).cells (grownCap (W.alloc (.cells #[.int .i64 x] 3)) (0 + 1) 0 3 - (0 + 1))), by simp, by omega, ?_, grownCap_ge (W.alloc (.cells #[.int .i64 x] 3)) 1 0 3, grownCap_le_maxLen _ _ _ _ (by unfold maxLen; omega), ?_, ?_⟩⟩
      · have h := heap_alloc_new (W.alloc (.cells #[.int .i64 x] 3)).drew (.cells (([] : List Value).toArray ++ ([Value.int .i64 x] : List Value).toArray ++ Builtin.zeroCells (Value.int .i64 0).cells (grownCap (W.alloc (.cells #[.int .i64 x] 3)) (0 + 1) 0 3 - (0 + 1))) 3)
        simpa using h
      · have hge := grownCap_ge (W.alloc (.cells #[.int .i64 x] 3)) 1 0 3
        simp [size_zeroCells, Value.cells]
        omega
      · simp [List.take_succ_cons]
    · exact ((((Below.refl c W).alloc hb _).drew).alloc (by simp; omega) _)
  · exact append_int hgd S X ho c v xs L HL hL hs hown hb hx fun v' w' h1 h2 h3 => h v' w' (.inr h1) h2 h3

end Go.Proofs.Ytkhnnbgmckeoaaa
