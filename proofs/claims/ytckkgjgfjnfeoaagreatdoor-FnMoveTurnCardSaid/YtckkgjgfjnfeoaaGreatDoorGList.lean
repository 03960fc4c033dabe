/- Contracts of FirstPoints, of the program and of the model. Contract of FirstPoints of the model. Small laws of lists in memory: one number appended to a list of the call's own; an empty list that is made. Two numbers appended at once. -/
import Derived.Test.YtckkgjgfjnfeoaaGreatDoorList
import Derived.Test.YtckkgjgfjnfeoaaGreatDoorGFun
set_option linter.unusedVariables false
namespace Go.Proofs.YtckkgjgfjnfeoaaGreatDoor
set_option maxRecDepth 4000
open Go.ChangeShapes Go.WideShapes Go.ChangeAt Go.RowKit Go.Joins

theorem infoInt : (Tryz.prog.info? 3).map (fun i => (i.zero, i.size, i.bytes)) = some (some (.int .i64 0), 1, 8) := by kernel_rfl

/-- the points at the first m times -/
def ptsL (n s : Int) (m : Nat) : List Int := (List.range m).map fun k : Nat => (k : Int) * s % n

theorem ptsL_length (n s : Int) (m : Nat) : (ptsL n s m).length = m := by simp [ptsL]

theorem ptsL_getD (n s : Int) (m k : Nat) (h : k < m) : (ptsL n s m).getD k 0 = (k : Int) * s % n := by
  simp [ptsL, List.getD_eq_getElem?_getD, h]

theorem ptsL_succ (n s : Int) (m : Nat) : ptsL n s (m + 1) = ptsL n s m ++ [(m : Int) * s % n] := by
  simp [ptsL, List.range_succ]

def firstF (n s m : Int) : List Int := if tok n s = true ∧ 1 ≤ m ∧ m ≤ n then ptsL n s m.toNat else []

theorem firstF_yes {n s m : Int} (h : tok n s = true) (h0 : 1 ≤ m) (h1 : m ≤ n) : firstF n s m = ptsL n s m.toNat := if_pos ⟨h, h0, h1⟩

theorem firstF_no {n s m : Int} (h : ¬ (tok n s = true ∧ 1 ≤ m ∧ m ≤ n)) : firstF n s m = [] := if_neg h

/-- block g holds the cells cur of integers -/
def RowAt (w : World) (g : Nat) (cur : Array Value) : Prop := w.heap[g]? = some (.cells cur 3 (0, 0))

theorem RowAt.cell {w : World} {g : Nat} {cur : Array Value} (h : RowAt w g cur) (i : Nat) : w.cell? ⟨g, i, none⟩ = cur[i]? := by unfold RowAt at h; simp [World.cell?, h]

theorem RowAt.free {w : World} {g : Nat} {cur : Array Value} (h : RowAt w g cur) (i : Nat) : w.frozen? ⟨g, i, none⟩ = false := by unfold RowAt at h; simp [World.frozen?, h]

theorem RowAt.lt {w : World} {g : Nat} {cur : Array Value} (h : RowAt w g cur) : g < w.heap.size := by unfold RowAt at h; exact (Array.getElem?_eq_some_iff.1 h).1

theorem RowAt.below {w w' : World} {g B : Nat} {cur : Array Value} (h : RowAt w g cur) (hb : Below B w w') (hg : g < B) : RowAt w' g cur := by unfold RowAt at *; rw [hb.block g hg]; exact h

theorem RowAt.set {w : World} {g : Nat} {cur : Array Value} (h : RowAt w g cur) (i : Nat) (v : Value) : RowAt (w.setCell ⟨g, i, none⟩ v) g (cur.setIfInBounds i v) := by
  unfold RowAt at *
  simp [World.setCell, Array.getElem?_modify, h]

theorem RowAt.own {w : World} {g b : Nat} {cur : Array Value} {xs : List Int} (h : RowAt w g cur) (hb : b ≤ g) (hm : xs.length ≤ 1000000) (hs : cur.size = xs.length) (hc : ∀ i, i < xs.length → cur[i]? = some (.int .i64 (xs.getD i 0))) : OwnL w b (.slice (some ⟨g, 0, none⟩) xs.length xs.length) xs := by
  refine ⟨by simp, .inr ⟨g, xs.length, cur, rfl, hb, h, Nat.le_refl _, by unfold maxLen; omega, by omega, ?_⟩⟩
  apply List.ext_getElem?
  intro i
  by_cases hi : i < xs.length
  · rw [Nat.mul_one, List.getElem?_take_of_lt hi, List.getElem?_map, List.getElem?_eq_getElem hi]
    have e := hc i hi
    rw [List.getD_eq_getElem?_getD, List.getElem?_eq_getElem hi] at e
    simpa using e
  · rw [List.getElem?_eq_none (by simp; omega), List.getElem?_eq_none (by simp; omega)]

theorem RowAt.of_own {w : World} {g b n cap : Nat} {xs : List Value} (h : w.ownsRow b 3 1 (.slice (some ⟨g, 0, none⟩) n cap) n xs) : ∃ cur, RowAt w g cur ∧ cur.size = cap ∧ n ≤ cap := by
  obtain ⟨_, h⟩ := h
  rcases h with ⟨h, _⟩ | ⟨g', cap', cur, hv, hb, hg, hn, hm, hs, ht⟩
  · cases h
  · injection hv with h1 h2 h3
    injection h1 with h1
    injection h1 with h1
    subst h1 h3
    exact ⟨cur, hg, by omega, hn⟩

def ListPost (xs : List Int) (w : World) (e : Ending) (w' : World) : Prop := ∃ v, e = .returned v ∧ OwnL w' w.heap.size v xs ∧ Below w.heap.size w w'

end Go.Proofs.YtckkgjgfjnfeoaaGreatDoor

set_option linter.unusedVariables false
namespace Go.Proofs.YtckkgjgfjnfeoaaGreatDoor
open Go.ChangeShapes Go.WideShapes Go.ChangeAt Go.RowKit Go.Joins

theorem OwnL.below {w w' : World} {b : Nat} {v : Value} {xs : List Int} (h : OwnL w b v xs) (hb : Below w.heap.size w w') : OwnL w' b v xs :=
  World.ownsRow.kept h (row := none) ⟨hb.os, hb.tape, hb.output, hb.size, fun k hk _ => hb.block k hk⟩ (by cases v.ownBlock <;> simp)

theorem OwnL.mono {w : World} {b b' : Nat} {v : Value} {xs : List Int} (h : OwnL w b v xs) (hb : b' ≤ b) : OwnL w b' v xs := by
  obtain ⟨h1, h2⟩ := h
  refine ⟨h1, ?_⟩
  rcases h2 with h2 | ⟨g, cap, cur, a1, a2, a3⟩
  · exact .inl h2
  · exact .inr ⟨g, cap, cur, a1, Nat.le_trans hb a2, a3⟩

end Go.Proofs.YtckkgjgfjnfeoaaGreatDoor

set_option linter.unusedVariables false
namespace Go.Proofs.YtckkgjgfjnfeoaaGreatDoor
open Go.ChangeShapes Go.WideShapes Go.ChangeAt Go.RowKit Go.Joins

theorem append_int {W : World} {x : Int} {ops : Array Oper} {rest : List Oper} {o : Oper} {a : Act} {Q : Exit → Act → World → Prop} (hgd : o.guard = none) (S X : Operand)
    (ho : o.op = .call { callee := .builtin .append, args := #[S, X], argTypes := #[128, 128] })
    (b : Nat) (v : Value) (xs : List Int) (L : Nat) (HL : Hid (xs.length = L)) (hL : L ≤ 100000) (hs : a.eval S = v) (hown : OwnL W b v xs) (hb : b ≤ W.heap.size)
    (hx : a.eval X = .slice (some ⟨W.heap.size, 0, none⟩) 1 1)
    (h : ∀ v' w', OwnL w' b v' (xs ++ [x]) → v' ≠ .slice none 0 0 → Below b W w' → wpList Tryz.prog ops Q rest (a.put o.dst v') w') :
    wpList Tryz.prog ops Q (o :: rest) a (W.alloc (.cells #[.int .i64 x] 3)) := by
  obtain ⟨i0, hi, iz0, iz1, iz2⟩ := info_parts infoInt
  have hown1 : (W.alloc (.cells #[.int .i64 x] 3)).ownsRow b 3 1 v L (xs.map (Value.int .i64)) := by
    have h := World.ownsRow.alloc hown (.cells #[.int .i64 x] 3)
    rwa [HL.out] at h
  refine wpList_append_own _ hgd S X 128 ho b 3 i0 (.int .i64 0) 1 8 Tryz.underlying128 hi iz0 iz1 iz2 rfl (by decide) v L _ hs hown1 ⟨W.heap.size, 0, none⟩ 1 1 [.int .i64 x] hx rfl ?c1 ?c2 ?c3 ?c4 ?c5 ?_
  case c1 =>
    intro j u hj
    match j, hj with
    | 0, hj => simp at hj; subst hj; exact cell_of_one (heap_alloc_new W _)
    | j + 1, hj => simp at hj
  case c2 => simp [Value.oneCell']
  case c3 => unfold maxLen; omega
  case c4 => omega
  case c5 => simp; omega
  intro v' w' h1 h2 h3
  have hlb := World.ownsRow.lt hown1
  have ho' : OwnL w' b v' (xs ++ [x]) := by
    unfold OwnL
    rw [List.length_append, List.map_append, HL.out]
    exact h1
  refine h v' w' ho' ?_ ?_
  · intro e
    have := (h3.1 e).2
    omega
  · exact ((Below.refl b W).alloc hb _).grown h2 (by simp; omega) (fun q hq => by have := hlb q hq; omega)

theorem made_nil (W : World) : OwnL (W.alloc (.cells #[] 3)) W.heap.size (.slice (some ⟨W.heap.size, 0, none⟩) 0 0) [] :=
  World.ownsRow_made (base := W.heap.size) (e := 3) (size := 1) W #[] 0 (by simp) (by unfold maxLen; omega) rfl

/-- the cells of a list that is read -/
theorem Reads.cells {w : World} {v : Value} {xs : List Int} {N : Nat} (h : Reads w v xs) (hN : xs.length = N) :
    ∃ a cap, v = .slice a N cap ∧ (N ≠ 0 → ∃ g off, a = some ⟨g, off, none⟩ ∧ Hid (∀ j, j < N → w.cell? ⟨g, off + j, none⟩ = some (.int .i64 (xs.getD j 0)))) := by
  subst hN
  obtain ⟨a, cap, rfl, h⟩ := h
  refine ⟨a, cap, rfl, fun h0 => ?_⟩
  obtain ⟨g, off, e, hc⟩ := h (fun e => h0 (by rw [e]; rfl))
  exact ⟨g, off, e, fun j hj => hc j hj⟩

theorem nil_of_len {xs : List Int} (h : xs.length = 0) : xs = [] := List.length_eq_zero_iff.1 h

/-- a list that the call has begun: still the empty one that was made, or one in a block from c on -/
def OwnE (w : World) (b c : Nat) (v : Value) (xs : List Int) : Prop := (∃ g, v = .slice (some ⟨g, 0, none⟩) 0 0 ∧ xs = [] ∧ OwnL w b v xs) ∨ OwnL w c v xs

theorem OwnE.own {w : World} {b c : Nat} {v : Value} {xs : List Int} (h : OwnE w b c v xs) (hb : b ≤ c) : OwnL w b v xs := by
  rcases h with ⟨_, _, _, h⟩ | h
  · exact h
  · exact h.mono hb

theorem OwnE.below {w w' : World} {b c : Nat} {v : Value} {xs : List Int} (h : OwnE w b c v xs) (hb : Below w.heap.size w w') : OwnE w' b c v xs := by
  rcases h with ⟨g, e, e2, h⟩ | h
  · exact .inl ⟨g, e, e2, h.below hb⟩
  · exact .inr (h.below hb)

theorem OwnE.made (w : World) (c : Nat) : OwnE (w.alloc (.cells #[] 3)) w.heap.size c (.slice (some ⟨w.heap.size, 0, none⟩) 0 0) [] := .inl ⟨_, rfl, rfl, made_nil w⟩

theorem append_e {W : World} {x : Int} {ops : Array Oper} {rest : List Oper} {o : Oper} {a : Act} {Q : Exit → Act → World → Prop} (hgd : o.guard = none) (S X : Operand)
    (ho : o.op = .call { callee := .builtin .append, args := #[S, X], argTypes := #[128, 128] })
    (b c : Nat) (v : Value) (xs : List Int) (L : Nat) (HL : Hid (xs.length = L)) (hL : L ≤ 100000) (hs : a.eval S = v) (hown : OwnE W b c v xs) (hb : c ≤ W.heap.size)
    (hx : a.eval X = .slice (some ⟨W.heap.size, 0, none⟩) 1 1)
    (h : ∀ v' w', OwnE w' b c v' (xs ++ [x]) → v' ≠ .slice none 0 0 → Below c W w' → wpList Tryz.prog ops Q rest (a.put o.dst v') w') :
    wpList Tryz.prog ops Q (o :: rest) a (W.alloc (.cells #[.int .i64 x] 3)) := by
  rcases hown with ⟨g, rfl, rfl, _⟩ | hown
  · obtain ⟨i0, hi, iz0, iz1, iz2⟩ := info_parts infoInt
    refine wpList_plain hgd fun _ hK => ?_
    have hr := run_append_grow (P := Tryz.prog) (W.alloc (.cells #[.int .i64 x] 3)) 128 o.type 3 i0 (.int .i64 0) Tryz.underlying128 hi iz0 ⟨g, 0, none⟩ 0 0 [] (by simp) (by simp) ⟨W.heap.size, 0, none⟩ 1 1 [.int .i64 x] (by simp [iz1])
      (by
        intro j u hj
        match j, hj with
        | 0, hj => simp at hj; subst hj; exact cell_of_one (heap_alloc_new W _)
        | j + 1, hj => simp at hj) (by omega) (by omega) (growslice_fits (by omega) (by rw [iz2]; omega))
    unfold Oper.wp execOp
    simp only [ho, resolve, invoke, builtin, Sem.run_bind, Sem.run_pure, Result.andThen_ok, List.map_toArray, List.map_cons, List.map_nil, hs, hx, hr]
    refine hK _ _ (h _ _ (.inr ?_) (by simp) ?_)
    · refine ⟨by simp, .inr ⟨W.heap.size + 1, _, (([] : List Value).toArray ++ ([Value.int .i64 x] : List Value).toArray ++ Builtin.zeroCells (Value.int .i64 0).cells (grownCap (W.alloc (.cells #[.int .i64 x] 3)) (0 + 1) 0 3 - (0 + 1))), by simp, by omega, ?_, grownCap_ge (W.alloc (.cells #[.int .i64 x] 3)) 1 0 3, grownCap_le_maxLen _ _ _ _ (by unfold maxLen; omega), ?_, ?_⟩⟩
      · have h := heap_alloc_new (W.alloc (.cells #[.int .i64 x] 3)).drew (.cells (([] : List Value).toArray ++ ([Value.int .i64 x] : List Value).toArray ++ Builtin.zeroCells (Value.int .i64 0).cells (grownCap (W.alloc (.cells #[.int .i64 x] 3)) (0 + 1) 0 3 - (0 + 1))) 3)
        simpa using h
      · have hge := grownCap_ge (W.alloc (.cells #[.int .i64 x] 3)) 1 0 3
        simp [size_zeroCells, Value.cells]
        omega
      · simp [List.take_succ_cons]
    · exact ((((Below.refl c W).alloc hb _).drew).alloc (by simp; omega) _)
  · exact append_int hgd S X ho c v xs L HL hL hs hown hb hx fun v' w' h1 h2 h3 => h v' w' (.inr h1) h2 h3

end Go.Proofs.YtckkgjgfjnfeoaaGreatDoor

set_option linter.unusedVariables false
namespace Go.Proofs.YtckkgjgfjnfeoaaGreatDoor
open Go.ChangeShapes Go.WideShapes Go.ChangeAt Go.RowKit Go.Joins

/-- two numbers appended at once to a list of the call's own -/
theorem append_int2 {W : World} {x y : Int} {ops : Array Oper} {rest : List Oper} {o : Oper} {a : Act} {Q : Exit → Act → World → Prop} (hgd : o.guard = none) (S X : Operand)
    (ho : o.op = .call { callee := .builtin .append, args := #[S, X], argTypes := #[128, 128] })
    (b : Nat) (v : Value) (xs : List Int) (L : Nat) (HL : Hid (xs.length = L)) (hL : L ≤ 100000) (hs : a.eval S = v) (hown : OwnL W b v xs) (hb : b ≤ W.heap.size)
    (hx : a.eval X = .slice (some ⟨W.heap.size, 0, none⟩) 2 2)
    (h : ∀ v' w', OwnL w' b v' (xs ++ [x, y]) → v' ≠ .slice none 0 0 → Below b W w' → wpList Tryz.prog ops Q rest (a.put o.dst v') w') :
    wpList Tryz.prog ops Q (o :: rest) a (W.alloc (.cells #[.int .i64 x, .int .i64 y] 3)) := by
  obtain ⟨i0, hi, iz0, iz1, iz2⟩ := info_parts infoInt
  have hown1 : (W.alloc (.cells #[.int .i64 x, .int .i64 y] 3)).ownsRow b 3 1 v L (xs.map (Value.int .i64)) := by
    have h := World.ownsRow.alloc hown (.cells #[.int .i64 x, .int .i64 y] 3)
    rwa [HL.out] at h
  refine wpList_append_own _ hgd S X 128 ho b 3 i0 (.int .i64 0) 1 8 Tryz.underlying128 hi iz0 iz1 iz2 rfl (by decide) v L _ hs hown1 ⟨W.heap.size, 0, none⟩ 2 2 [.int .i64 x, .int .i64 y] hx rfl ?c1 ?c2 ?c3 ?c4 ?c5 ?_
  case c1 =>
    intro j u hj
    have hn := Two.new W (.int .i64 x) (.int .i64 y) 3
    have a0 : (⟨W.heap.size, 0, none⟩ : Addr).add 0 = ⟨W.heap.size, 0, none⟩ := by simp [Addr.add]
    have a1 : (⟨W.heap.size, 0, none⟩ : Addr).add 1 = ⟨W.heap.size, 1, none⟩ := by simp [Addr.add]
    match j, hj with
    | 0, hj => simp at hj; subst hj; rw [a0]; exact hn.cell0
    | 1, hj => simp at hj; subst hj; rw [a1]; exact hn.cell1
    | j + 2, hj => simp at hj
  case c2 => simp [Value.oneCell']
  case c3 => unfold maxLen; omega
  case c4 => omega
  case c5 => simp; omega
  intro v' w' h1 h2 h3
  have hlb := World.ownsRow.lt hown1
  have ho' : OwnL w' b v' (xs ++ [x, y]) := by
    unfold OwnL
    rw [List.length_append, List.map_append, HL.out]
    exact h1
  refine h v' w' ho' ?_ ?_
  · intro e
    have := (h3.1 e).2
    omega
  · exact ((Below.refl b W).alloc hb _).grown h2 (by simp; omega) (fun q hq => by have := hlb q hq; omega)
end Go.Proofs.YtckkgjgfjnfeoaaGreatDoor
