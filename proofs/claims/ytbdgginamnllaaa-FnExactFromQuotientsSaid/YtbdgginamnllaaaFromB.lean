/- Contract of the iterator of slices.Backward. -/
import Derived.Test.YtbdgginamnllaaaFromI
set_option linter.unusedVariables false
set_option linter.unusedSimpArgs false
namespace Go.Proofs.Ytbdgginamnllaaa

set_option maxRecDepth 4000
open Go.ChangeShapes Go.WideShapes Go.ChangeAt Go.RowKit Go.Joins Go.Shelf

attribute [local go_sem] Oper.semAt_some

def uptoL {α : Type} (f : Nat → α) (k : Nat) : List α := (List.range k).map f

theorem uptoL_succ {α : Type} (f : Nat → α) (k : Nat) : uptoL f (k + 1) = uptoL f k ++ [f k] := by simp [uptoL, List.range_succ]

theorem uptoL_length {α : Type} (f : Nat → α) (k : Nat) : (uptoL f k).length = k := by simp [uptoL]

def encB (x : Nat × Nat) : Array Value := #[.int .i64 (x.1 : Int), .int .i64 ((x.2 + 1 : Nat) : Int)]

def backF (ys : List Nat) (N : Nat) (i : Nat) : Nat × Nat := (N - 1 - i, ys.getD (N - 1 - i) 0)

def KpB (Bs g : Nat) (W W' : World) : Prop := W'.heap[Bs]? = W.heap[Bs]? ∧ W'.heap[g]? = W.heap[g]?

theorem KpB.trans {Bs g : Nat} {A B C : World} (h : KpB Bs g A B) (h' : KpB Bs g B C) : KpB Bs g A C := ⟨h'.1.trans h.1, h'.2.trans h.2⟩

set_option maxHeartbeats 4000000 in
theorem back1_in (m : Nat) (hm : 1 ≤ m) (l Bs g off N cap : Nat) (ys : List Nat) (h1 : 1 ≤ N) (h8 : N ≤ 8) (J Jx : List (Nat × Nat) → World → Prop)
    (hY : ∀ pre x W, J pre W → pre.length < N → YieldAt Fence.wide (m - 1) Try.prog l (encB x) W fun e W' =>
      (e = .returned (.bool true) ∧ J (pre ++ [x]) W' ∧ KpB Bs g W W') ∨ (e = .returned (.bool false) ∧ Jx (pre ++ [x]) W'))
    (W : World) (hc0 : W.cell? ⟨Bs, 0, none⟩ = some (.slice (some ⟨g, off, none⟩) N cap)) (hcs : Hid (∀ j, j < N → W.cell? ⟨g, off + j, none⟩ = some (.int .i64 ((ys.getD j 0 + 1 : Nat) : Int)))) (h0 : J [] W) :
    CallsIn Fence.wide m Try.prog 69 #[.func (.yield l) #[] #[], .pointer (some ⟨Bs, 0, none⟩)] W fun e W' => (∃ v, e = .returned v) ∧
      ((∃ zs, zs = uptoL (backF ys N) N ∧ J zs W') ∨ (∃ pre, (∃ k, k ≤ N ∧ pre = uptoL (backF ys N) k) ∧ Jx pre W')) := by
  refine callsIn_of_wp Try.func69 rfl trivial ?_ rfl
  simp only [Try.ntmps69, List.size_toArray, List.length_cons, List.length_nil, Nat.reduceAdd, Nat.reduceSub, Array.replicate_succ, Array.replicate_zero, List.push_toArray, List.append_toArray, List.nil_append, List.cons_append]
  gi_wp2
  gi_loopw [3] (fun xi wr => ∃ j : Nat, xi = .int .i64 ((j : Int) - 1) ∧ j ≤ N ∧ J (uptoL (backF ys N) (N - j)) wr ∧ KpB Bs g W wr) (fun xi _ => (intOf xi + 1).toNat)
  case atStart => exact ⟨N, rfl, Nat.le_refl _, by rw [Nat.sub_self]; exact h0, rfl, rfl⟩
  case round =>
    obtain ⟨j, rfl, hj, hJs, hk1, hk2⟩ := hrel
    by_cases hj0 : j = 0
    · subst hj0
      have hc : decide ((0 : Int) ≤ ((0 : Nat) : Int) - 1) = false := by decide
      have hc2 : decide ((0 : Int) ≤ (-1 : Int)) = false := by decide
      rw [Nat.sub_zero] at hJs
      gi_wp2
      go_end0
      exact ⟨⟨_, rfl⟩, .inl ⟨_, rfl, hJs⟩⟩
    · obtain ⟨j, rfl⟩ : ∃ k, j = k + 1 := ⟨j - 1, by omega⟩
      have ej : ((j + 1 : Nat) : Int) - 1 = j := by omega
      rw [ej]
      have hc0r : wr.cell? ⟨Bs, 0, none⟩ = some (.slice (some ⟨g, off, none⟩) N cap) := (World.cell?_of_block hk1).trans hc0
      have hcr : wr.cell? ⟨g, off + j, none⟩ = some (.int .i64 ((ys.getD j 0 + 1 : Nat) : Int)) := (World.cell?_of_block hk2).trans (hcs.out j (by omega))
      have hjN : (j : Int) < N := by omega
      have hj1 : (0 : Int) ≤ j := by omega
      have hb : backF ys N (N - (j + 1)) = (j, ys.getD j 0) := by unfold backF; rw [show N - 1 - (N - (j + 1)) = j by omega]
      have hu : uptoL (backF ys N) (N - j) = uptoL (backF ys N) (N - (j + 1)) ++ [(j, ys.getD j 0)] := by rw [show N - j = (N - (j + 1)) + 1 by omega, uptoL_succ, hb]
      have HU := Lib.hid hu
      obtain ⟨fn, tmps, assign, body, hy, hR⟩ := hY _ (j, ys.getD j 0) wr hJs (by rw [uptoL_length]; omega)
      dsimp only [encB] at hy
      obtain ⟨V, hV⟩ : ∃ V : Int, ((ys.getD j 0 + 1 : Nat) : Int) = V := ⟨_, rfl⟩
      rw [hV] at hy hcr
      clear hb hu hV
      gi_wp2
      refine hR.mono ?_
      rintro e W3 (⟨rfl, hJ3, hk3⟩ | ⟨rfl, hJx3⟩)
      · gi_wp2
        go_roundw
        case rel => exact ⟨j, by go_num, by omega, by rw [HU.out]; exact hJ3, KpB.trans ⟨hk1, hk2⟩ hk3⟩
        case measure => simp only [intOf]; omega
      · gi_wp2
        refine bodyPost_ret (results_none rfl _ _ _) rfl ?_
        exact ⟨⟨_, rfl⟩, .inr ⟨_, ⟨N - j, by omega, HU.out.symm⟩, hJx3⟩⟩

theorem back_stops (m : Nat) (hm : 1 ≤ m) (Bs g off N cap : Nat) (ys : List Nat) (h1 : 1 ≤ N) (h8 : N ≤ 8) (w : World)
    (hc0 : w.cell? ⟨Bs, 0, none⟩ = some (.slice (some ⟨g, off, none⟩) N cap)) (hcs : Hid (∀ j, j < N → w.cell? ⟨g, off + j, none⟩ = some (.int .i64 ((ys.getD j 0 + 1 : Nat) : Int)))) :
    SeqStopsK Fence.wide m Try.prog 69 #[.pointer (some ⟨Bs, 0, none⟩)] encB (KpB Bs g) (fun zs => zs = uptoL (backF ys N) N) (fun pre => ∃ k, k ≤ N ∧ pre = uptoL (backF ys N) k) N w :=
  fun l J Jx W hW hJ hJx hY h0 =>
    back1_in m hm l Bs g off N cap ys h1 h8 J Jx hY W ((hW.cell (p := ⟨Bs, 0, none⟩) (World.block_lt_of_cell? w _ hc0)).trans hc0) (fun j hj => (hW.cell (p := ⟨g, off + j, none⟩) (World.block_lt_of_cell? w _ (hcs.out j hj))).trans (hcs.out j hj)) h0
end Go.Proofs.Ytbdgginamnllaaa
