/- One number appended to a list of the call's own that began as a literal: which blocks may have changed. One number appended to a list of the call's own: what lies in the list lies on; a law for a drawn region's step. -/
import Derived.Test.YtckkgjgfjnfeoaaDoorGList
import Derived.Maps.AppendAt
import Derived.Deep.AppendLies
set_option linter.unusedVariables false
namespace Go.Proofs.YtckkgjgfjnfeoaaDoor
set_option maxRecDepth 4000
open Go.ChangeShapes Go.WideShapes Go.ChangeAt Go.RowKit Go.Joins

/-- the list lies in block g or from c on -/
def OnlyAt (g c : Nat) (v : Value) : Prop := v.ownBlock = some g ∨ ∀ k, v.ownBlock = some k → c ≤ k

/-- all blocks below c but g lie as they lay -/
def SaveAt (g c : Nat) (W W' : World) : Prop := ∀ k, k < c → k ≠ g → W'.heap[k]? = W.heap[k]?

theorem SaveAt.refl (g c : Nat) (W : World) : SaveAt g c W W := fun _ _ _ => rfl

theorem SaveAt.trans {g c : Nat} {A B C : World} (h : SaveAt g c A B) (h' : SaveAt g c B C) : SaveAt g c A C := fun k h1 h2 => (h' k h1 h2).trans (h k h1 h2)

theorem SaveAt.cell {g c : Nat} {A B : World} (h : SaveAt g c A B) {k i : Nat} (h1 : k < c) (h2 : k ≠ g) : B.cell? ⟨k, i, none⟩ = A.cell? ⟨k, i, none⟩ := by
  simp [World.cell?, h k h1 h2]

theorem SaveAt.drewN {g c : Nat} {A B : World} (h : SaveAt g c A B) (n : Nat) : SaveAt g c A (B.drewN n) := fun k h1 h2 => by
  have := h k h1 h2
  simpa using this

theorem append_at {W : World} {x : Int} {ops : Array Oper} {rest : List Oper} {o : Oper} {a : Act} {Q : Exit → Act → World → Prop} (hgd : o.guard = none) (S X : Operand)
    (ho : o.op = .call { callee := .builtin .append, args := #[S, X], argTypes := #[33, 33] })
    (g c b : Nat) (v : Value) (xs : List Int) (L : Nat) (HL : Hid (xs.length = L)) (hL : L ≤ 100000) (hs : a.eval S = v) (hown : OwnL W b v xs) (hat : OnlyAt g c v) (hb : b ≤ W.heap.size) (hc : c ≤ W.heap.size)
    (hx : a.eval X = .slice (some ⟨W.heap.size, 0, none⟩) 1 1)
    (h : ∀ v' w', OwnL w' b v' (xs ++ [x]) → OnlyAt g c v' → v' ≠ .slice none 0 0 → Below b W w' → SaveAt g c W w' → wpList Tryd.prog ops Q rest (a.put o.dst v') w') :
    wpList Tryd.prog ops Q (o :: rest) a (W.alloc (.cells #[.int .i64 x] 3)) := by
  obtain ⟨i0, hi, iz0, iz1, iz2⟩ := info_parts infoInt
  have hown1 : (W.alloc (.cells #[.int .i64 x] 3)).ownsRow b 3 1 v L (xs.map (Value.int .i64)) := by
    have h := World.ownsRow.alloc hown (.cells #[.int .i64 x] 3)
    rwa [HL.out] at h
  refine wpList_append_own_at _ hgd S X 33 ho b 3 i0 (.int .i64 0) 1 8 Tryd.underlying33 hi iz0 iz1 iz2 rfl (by decide) v L _ hs hown1 ⟨W.heap.size, 0, none⟩ 1 1 [.int .i64 x] hx rfl ?c1 ?c2 ?c3 ?c4 ?c5 ?_
  case c1 =>
    intro j u hj
    match j, hj with
    | 0, hj => simp at hj; subst hj; exact cell_of_one (heap_alloc_new W _)
    | j + 1, hj => simp at hj
  case c2 => simp [Value.oneCell']
  case c3 => unfold maxLen; omega
  case c4 => omega
  case c5 => simp; omega
  intro v' w' h1 h2 h3 h4
  have hlb := World.ownsRow.lt hown1
  have ho' : OwnL w' b v' (xs ++ [x]) := by
    unfold OwnL
    rw [List.length_append, List.map_append, HL.out]
    exact h1
  refine h v' w' ho' ?_ ?_ ?_ ?_
  · rcases h4 with e | e
    · unfold OnlyAt; rw [e]; exact hat
    · right
      intro k hk
      rw [e] at hk
      simp at hk
      omega
  · intro e
    have := (h3.1 e).2
    omega
  · exact ((Below.refl b W).alloc hb _).grown h2 (by simp; omega) (fun q hq => by have := hlb q hq; omega)
  · intro k hk hg
    have hk2 : k < (W.alloc (.cells #[.int .i64 x] 3)).heap.size := by simp; omega
    rw [h2.block k hk2 (by
      rcases hat with e | e
      · rw [e]; simp [hg]
      · intro e2
        have := e k e2.symm
        omega)]
    exact Below.heap_alloc W _ k (by omega)

/-- the cells of a list of the call's own -/
theorem OwnL.cells {w : World} {b : Nat} {v : Value} {xs : List Int} {N : Nat} (h : OwnL w b v xs) (hN : xs.length = N) :
    ∃ a cap, v = .slice a N cap ∧ (N ≠ 0 → ∃ g, a = some ⟨g, 0, none⟩ ∧ b ≤ g ∧ g < w.heap.size ∧ Hid (∀ j, j < N → w.cell? ⟨g, j, none⟩ = some (.int .i64 (xs.getD j 0)))) := by
  obtain ⟨a, cap, rfl, hc0⟩ := h.reads.cells hN
  refine ⟨a, cap, rfl, fun h0 => ?_⟩
  obtain ⟨g, off, rfl, hc⟩ := hc0 h0
  obtain ⟨_, h⟩ := h
  rcases h with ⟨e, _⟩ | ⟨g', cap', cur, e, hb, hg, _⟩
  · cases e
  · injection e with e1
    injection e1 with e1
    injection e1 with e1 e2
    subst e1 e2
    exact ⟨g, rfl, hb, (Array.getElem?_eq_some_iff.1 hg).1, fun j hj => by have := hc.out j hj; rwa [Nat.zero_add] at this⟩
end Go.Proofs.YtckkgjgfjnfeoaaDoor

set_option linter.unusedVariables false
namespace Go.Proofs.YtckkgjgfjnfeoaaDoor
open Go.ChangeShapes Go.WideShapes Go.ChangeAt Go.RowKit Go.Joins

/-- all cells lie on, but behind the end of the list -/
def KeepAll (W W' : World) (v : Value) (L : Nat) : Prop := ∀ (p : Addr) (y : Value), (v.ownBlock = some p.block → p.off < L) → p.spot = none → W.cell? p = some y → W'.cell? p = some y

theorem run_append_int (W : World) (ty : TypeId) (b : Nat) (v : Value) (xs : List Int) (L : Nat) (HL : xs.length = L) (hL : L ≤ 100000) (hown : OwnL W b v xs) (hb : b ≤ W.heap.size) (x : Int) (B c : Nat)
    (hB : W.heap[B]? = some (.cells #[.int .i64 x] 3 (0, 0))) :
    ∃ v' w', (Builtin.append_ #[33, 33] ty #[v, .slice (some ⟨B, 0, none⟩) 1 c]).run Tryd.prog W = .ok v' w' ∧ OwnL w' b v' (xs ++ [x]) ∧ W.grownBy w' v.ownBlock ∧ v' ≠ .slice none 0 0 ∧
      (v'.ownBlock = v.ownBlock ∨ v'.ownBlock = some W.heap.size) ∧ KeepAll W w' v L := by
  obtain ⟨i0, hi, iz0, iz1, iz2⟩ := info_parts infoInt
  have hn : ∀ j u, ([.int .i64 x] : List Value)[j]? = some u → W.cell? ((⟨B, 0, none⟩ : Addr).add j) = some u := World.news_of_block (cs := #[.int .i64 x]) hB
  obtain ⟨v', w', hr, h2, h3, h4, h5⟩ := run_append_own_at (P := Tryd.prog) W b 33 ty 3 i0 (.int .i64 0) 1 8 Tryd.underlying33 hi iz0 iz1 iz2 rfl (by decide) v xs.length _ hown ⟨B, 0, none⟩ 1 c [.int .i64 x] rfl hn (by simp [Value.oneCell']) (by unfold maxLen; omega) (by omega) hb
  have ho' : OwnL w' b v' (xs ++ [x]) := by
    unfold OwnL
    rw [List.length_append, List.map_append]
    exact h2
  have hne : v' ≠ .slice none 0 0 := fun e => by have := (h4.1 e).2; omega
  refine ⟨v', w', hr, ho', h3, hne, h5, ?_⟩
  intro p y hp hs hy
  have far : some p.block ≠ v.ownBlock → w'.cell? p = some y := fun h => (World.cell?_of_block (h3.block p.block (World.block_lt_of_cell? W p hy) h)).trans hy
  by_cases hbk : some p.block = v.ownBlock
  · have hlt := hp hbk.symm
    obtain ⟨_, hown2⟩ := hown
    rcases hown2 with ⟨rfl, h0⟩ | ⟨g, cap, cur, rfl, hbg, hg, hnc, hcm, hcs, htake⟩
    · simp [Value.ownBlock] at hbk
    · simp [Value.ownBlock] at hbk
      obtain ⟨pb, po, ps⟩ := p
      simp only at hbk hlt hs
      subst hbk hs
      by_cases hroom : xs.length + 1 ≤ cap
      · -- the same block: the list's own cells
        have hr2 := run_append_room (P := Tryd.prog) W 33 ty 3 i0 Tryd.underlying33 hi pb xs.length cap cur hg ⟨B, 0, none⟩ 1 c [.int .i64 x] (by rw [iz1]; rfl) hn (by simp [Value.oneCell']) hroom (by rw [iz1]; simp; omega)
        rw [hr2] at hr
        obtain ⟨e1, e2⟩ := Result.ok.inj hr
        subst e1 e2
        have hg2 := setRow_heap W pb cur (cur.toList.take (xs.length * i0.size) ++ [Value.int .i64 x] ++ cur.toList.drop (xs.length * i0.size + [Value.int .i64 x].length)).toArray 3 (0, 0) hg
        rw [cell_of_row W pb po cur _ _ hg] at hy
        rw [cell_of_row _ pb po _ _ _ hg2, iz1]
        have hlo : po < cur.size := by omega
        rw [← hy]
        simp only [Nat.mul_one]
        rw [List.append_assoc, List.getElem?_toArray, List.getElem?_append_left (by simp; omega), List.getElem?_take_of_lt (by omega)]
        simp
      · have holds : ∀ j u, (xs.map (Value.int .i64))[j]? = some u → W.cell? ((⟨pb, 0, none⟩ : Addr).add j) = some u := by
          intro j u hj
          have hjl := (List.getElem?_eq_some_iff.1 hj).1
          simp at hjl
          have e : (cur.toList.take (xs.length * 1))[j]? = (xs.map (Value.int .i64))[j]? := by rw [htake]
          rw [Nat.mul_one, List.getElem?_take_of_lt hjl, hj] at e
          rw [Addr.add_lit]
          rw [cell_of_row W pb _ cur _ _ hg]
          simpa using e
        have hr2 := run_append_grow (P := Tryd.prog) W 33 ty 3 i0 (.int .i64 0) Tryd.underlying33 hi iz0 ⟨pb, 0, none⟩ xs.length cap (xs.map (Value.int .i64)) (by rw [iz1]; simp) holds ⟨B, 0, none⟩ 1 c [.int .i64 x] (by rw [iz1]; rfl) hn (by omega) (by omega) (growslice_fits (by omega) (by rw [iz2]; omega))
        rw [hr2] at hr
        obtain ⟨e1, e2⟩ := Result.ok.inj hr
        subst e1 e2
        rw [← hy]
        exact World.cell?_of_block (heap_alloc_old W.drew _ (by have := (Array.getElem?_eq_some_iff.1 hg).1; simpa using this))
  · exact far hbk

/-- at a step of a region that draws its order -/
theorem step_int {W : World} {x : Int} {ops : Array Oper} {o : Oper} {a : Act} {K : Act → World → Prop} {Q : Exit → Act → World → Prop} {E : Prop} (hgd : o.guard = none) (S X : Operand)
    (ho : o.op = .call { callee := .builtin .append, args := #[S, X], argTypes := #[33, 33] })
    (b : Nat) (v : Value) (xs : List Int) (L : Nat) (HL : Hid (xs.length = L)) (hL : L ≤ 100000) (hs : a.eval S = v) (hown : OwnL W b v xs) (hb : b ≤ W.heap.size) (B c : Nat)
    (hx : a.eval X = .slice (some ⟨B, 0, none⟩) 1 c) (hB : W.heap[B]? = some (.cells #[.int .i64 x] 3 (0, 0)))
    (h : ∀ v' w', OwnL w' b v' (xs ++ [x]) → v' ≠ .slice none 0 0 → Below b W w' → KeepAll W w' v L → K (a.put o.dst v') w') :
    if Region.wanted o (yielded ops a.tmps) = true then Oper.wp Tryd.prog o a W K Q else E := by
  have hw : Region.wanted o (yielded ops a.tmps) = true := by simp [Region.wanted, hgd]
  rw [if_pos hw]
  obtain ⟨v', w', hr, h1, h2, h3, h4, h5⟩ := run_append_int W o.type b v xs L HL.out hL hown hb x B c hB
  unfold Oper.wp execOp
  simp only [ho, resolve, invoke, builtin, Sem.run_bind, Sem.run_pure, Result.andThen_ok, List.map_toArray, List.map_cons, List.map_nil, hs, hx, hr]
  have hlb := World.ownsRow.lt hown
  exact h v' w' h1 h3 ((Below.refl b W).grown h2 hb (fun q hq => (hlb q hq).1)) h5
end Go.Proofs.YtckkgjgfjnfeoaaDoor
