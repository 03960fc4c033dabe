/- Contracts of slices.Clone and of the iterator's maker; lists of lists behind turns of blocks that are no cells. -/
import Derived.Test.YtejofckfnieolaaRuleI
import Derived.Lib.SliceRun
set_option linter.unusedVariables false
namespace Go.Proofs.Ytejofckfnieolaa

set_option maxRecDepth 4000
open Go.ChangeShapes Go.WideShapes Go.ChangeAt Go.RowKit Go.Joins Go.Shelf

set_option maxHeartbeats 1000000 in
theorem clone_any (b off n c : Nat) (zs : List Int) (w : World) (hz : zs.length = n) (hn : n ≤ 1000) (hc : ∀ j, j < n → w.cell? ⟨b, off + j, none⟩ = some (.int .i64 (zs.getD j 0))) :
    Calls Try.prog 49 #[.slice (some ⟨b, off, none⟩) n c] w fun e w' => ∃ v', e = .returned v' ∧ OwnL w' w.heap.size v' zs ∧ Below w.heap.size w w' := by
  obtain ⟨i0, hi, iz0, iz1, iz2⟩ := info_parts infoInt
  have q22 : ∀ (w : World) (a : Option Addr) (n c n' c' : Nat), (binOp .eql 26 (.slice a n c) (.slice none n' c')).run Try.prog w = .ok (.bool a.isNone) w := fun w a n c n' c' => Lib.run_eql_slice_nil w _ _ a n c n' c' Try.underlying26
  have HC := Lib.hid hc
  have HI := Lib.hid hi
  clear hc hi
  go_enter Try.func49, Try.ntmps49
  go_wp2_with (at_builtin; refine wpList_append_own _ rfl _ _ 26 rfl w.heap.size 3 i0 (.int .i64 0) 1 8 Try.underlying26 HI.out iz0 iz1 iz2 rfl (by decide) _ _ _ rfl (World.ownsRow_made w #[] 0 (Nat.le_refl _) (Nat.zero_le _) rfl) ⟨b, off, none⟩ n c (zs.map (Value.int .i64)) rfl ?c1 ?c2 ?c3 ?c4 ?c5 ?c6 ?_)
  case c1 => simp [hz]
  case c2 =>
    intro j u hj
    have hjn : j < n := by
      have := (List.getElem?_eq_some_iff.1 hj).1
      simp at this
      omega
    rw [Addr.add_lit]
    refine Lib.cell?_alloc_some _ ?_
    rw [HC.out j hjn]
    have e : (zs.map (Value.int .i64))[j]? = some (Value.int .i64 (zs.getD j 0)) := by simp [List.getD, List.getElem?_eq_getElem (by omega : j < zs.length)]
    rw [e] at hj
    exact hj
  case c3 => intro u hu; obtain ⟨x, _, rfl⟩ := List.mem_map.1 hu; rfl
  case c4 => unfold maxLen; omega
  case c5 => omega
  case c6 => simp
  intro v' w1 hown hgrow hnil
  go_wp2
  go_ret
  refine ⟨v', rfl, ?_, ?_⟩
  · unfold OwnL; rw [hz]; simpa using hown
  · exact ((Below.refl _ w).alloc (Nat.le_refl _) _).grown hgrow (by simp) (by intro k hk; simp [Value.ownBlock] at hk; omega)

theorem ownsRow_nc {W W' : World} {base : Nat} {e : TypeId} {size k : Nat} {v : Value} {xs : List Value} {row : Option Nat} (h : W.ownsRow base e size v k xs) (hg : W.grownBy W' row) (hr : ∀ r, row = some r → ∃ o : Obj, W.heap[r]? = some o ∧ o.isCells = false) :
    W'.ownsRow base e size v k xs := by
  refine h.kept hg ?_
  rcases h.2 with ⟨rfl, _⟩ | ⟨g, cap, cur, rfl, _, hgb, _⟩
  · exact .inl rfl
  · refine .inr fun e' => ?_
    obtain ⟨o, ho, hc⟩ := hr g (by simpa [Value.ownBlock] using e'.symm)
    rw [hgb] at ho; cases ho; cases hc

theorem OwnLL.nc {W W' : World} {b : Nat} {v : Value} {Ls : List (List Int)} {row : Option Nat} (h : OwnLL W b v Ls) (hg : W.grownBy W' row) (hr : ∀ r, row = some r → ∃ o : Obj, W.heap[r]? = some o ∧ o.isCells = false) : OwnLL W' b v Ls := by
  obtain ⟨rs, h1, h2, h3, h4⟩ := h
  exact ⟨rs, h1, ownsRow_nc h2 hg hr, fun i hi => ownsRow_nc (h3 i hi) hg hr, h4⟩

set_option maxHeartbeats 400000 in
theorem nearRows_any (n s : Int) (w : World) :
    Calls Try.prog 48 #[(.agg #[.int .i64 (n), .int .i64 (s)])] w fun e w' => e = .returned (.func (.func 62) #[] #[.pointer (some ⟨w.heap.size, 0, none⟩)]) ∧ w' = w.alloc (.cells #[.int .i64 n, .int .i64 s] 24) := by
  go_enter Try.func48, Try.ntmps48
  go_wp2
  go_ret
  exact ⟨rfl, rfl⟩

theorem grownBy_drewN (W : World) (k : Nat) (row : Option Nat) : W.grownBy (W.drewN k) row := ⟨by simp [World.drewN], by simp [World.drewN], by simp [World.drewN], by simp, fun i _ _ => by simp⟩

theorem nearRows_stops (m : Nat) (hm : 1 ≤ m) (Bt n₀ N S : Nat) (hN : tokN N S = true) (w : World) (hBt : Bt < w.heap.size)
    (hc0 : w.cell? ⟨Bt, 0, none⟩ = some (.int .i64 (N : Int))) (hc1 : w.cell? ⟨Bt, 1, none⟩ = some (.int .i64 (S : Int))) :
    SeqStopsK Fence.wide m Try.prog 62 #[.pointer (some ⟨Bt, 0, none⟩)] encR (Below n₀) (fun ys => ys = rowsN N S) (fun pre => pre <+: rowsN N S) 61 w :=
  fun l J Jx W hW hJ hJx hY h0 =>
    nearRows1_in m hm l Bt n₀ N S hN J Jx hY W ((hW.cell (p := ⟨Bt, 0, none⟩) hBt).trans hc0) ((hW.cell (p := ⟨Bt, 1, none⟩) hBt).trans hc1) h0 (fun pre W k h => hJ pre W _ none h (grownBy_drewN W k none) (fun r e => by cases e))
end Go.Proofs.Ytejofckfnieolaa
