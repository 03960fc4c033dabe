/- Contract of FromQuotients of the model. Contracts of slices.Min, quotientsOk and slices.Backward. Contract of the iterator of slices.Backward. Contract of FromQuotients of the program: a range over slices.Backward. -/
import Derived.Test.YtnpaicdbmmfdhaaGQuot
import Derived.RangeFuncBox
import Derived.RangeFuncNested
import Derived.RangeFuncBound
import Derived.RangeFuncCalls
import Derived.RangeFuncLeaves
import Derived.Shelf.Abstract
import Derived.Shelf.RegionOpen
import Derived.OwnWalkIn
import Derived.TacticsInMore
import Derived.LoopNIn
import Derived.LoopIn
import Derived.Sort.QuietIn
set_option linter.unusedVariables false
set_option linter.unusedSimpArgs false
namespace Go.Proofs.Ytnpaicdbmmfdhaa

set_option maxRecDepth 4000
open Go.ChangeShapes Go.WideShapes Go.ChangeAt Go.RowKit Go.Joins

def FromPost (xs : List Int) (w : World) (e : Ending) (w' : World) : Prop := e = .returned (.tuple #[(.agg #[.int .i64 ((fromF xs).1.1), .int .i64 ((fromF xs).1.2)]), .bool (fromF xs).2]) ∧ Below w.heap.size w w'

theorem from_post {xs : List Int} {a b : Int} {c : Bool} {w w' : World} (h : fromF xs = ((a, b), c)) (hB : Below w.heap.size w w') : FromPost xs w (.returned (.tuple #[(.agg #[.int .i64 (a), .int .i64 (b)]), .bool c])) w' := ⟨by rw [h], hB⟩

theorem fromF_out {L : List Int} (h : ¬ (1 ≤ L.length ∧ L.length ≤ 8 ∧ 2 ≤ L.getD (L.length - 1) 0)) : fromF L = ((0, 0), false) := if_neg h

theorem fromF_none {L : List Int} (h : fqO L = none) : fromF L = ((0, 0), false) := by
  unfold fromF
  split
  · rw [h]
  · rfl

theorem fromF_tok {L : List Int} {a b : Nat} (h : 1 ≤ L.length ∧ L.length ≤ 8 ∧ 2 ≤ L.getD (L.length - 1) 0) (hf : fqO L = some (a, b)) (ht : tok (a : Int) (b : Int) = true) : fromF L = (((a : Int), (b : Int)), true) := by
  unfold fromF
  rw [if_pos h, hf]
  simp only
  rw [if_pos ht]

theorem fromF_not {L : List Int} {a b : Nat} (hf : fqO L = some (a, b)) (ht : ¬ tok (a : Int) (b : Int) = true) : fromF L = ((0, 0), false) := by
  unfold fromF
  split
  · rw [hf]
    simp only
    rw [if_neg ht]
  · rfl

end Go.Proofs.Ytnpaicdbmmfdhaa

set_option linter.unusedVariables false
set_option linter.unusedSimpArgs false
namespace Go.Proofs.Ytnpaicdbmmfdhaa

set_option maxRecDepth 4000
open Go.ChangeShapes Go.WideShapes Go.ChangeAt Go.RowKit Go.Joins Go.Shelf

theorem take_one' (xs : List Int) {k : Nat} (h : k < xs.length) : xs.take (k + 1) = xs.take k ++ [xs.getD k 0] := by
  rw [List.take_succ_eq_append_getElem h, List.getD_eq_getElem?_getD, List.getElem?_eq_getElem h]; rfl

set_option maxHeartbeats 1000000 in
theorem min_any (g off N cap : Nat) (xs : List Int) (w : World) (hN : xs.length = N) (h1 : 1 ≤ N) (h8 : N ≤ 1000) (HC : Hid (∀ j, j < N → w.cell? ⟨g, off + j, none⟩ = some (.int .i64 (xs.getD j 0)))) :
    Calls Try.prog 56 #[.slice (some ⟨g, off, none⟩) N cap] w fun e w' => (∃ m : Int, e = .returned (.int .i64 m) ∧ ∀ c : Int, c ≤ m ↔ ∀ x ∈ xs, c ≤ x) ∧ w = w' := by
  have c0 := HC.out 0 (by omega)
  rw [Nat.add_zero] at c0
  have HN := Lib.hid hN
  have hn1 : decide ((N : Int) < 1) = false := by simp; omega
  have hn2 : (0 : Int) < N := by omega
  have H0 : Hid (∀ c : Int, c ≤ xs.getD 0 0 ↔ ∀ x ∈ xs.take 1, c ≤ x) := by
    show ∀ _, _
    intro c
    rw [take_one' xs (by omega)]
    simp
  generalize xs.getD 0 0 = x0 at *
  clear hN
  go_enter Try.func56, Try.ntmps56
  go_wp2_with fail
  go_loop [3, 4] (fun xm xi => ∃ (k : Nat) (m : Int), xm = .int .i64 m ∧ xi = .int .i64 k ∧ 1 ≤ k ∧ k ≤ N ∧ Hid (∀ c : Int, c ≤ m ↔ ∀ x ∈ xs.take k, c ≤ x)) (fun _ xi => N - (intOf xi).toNat)
  case atStart => exact ⟨1, x0, rfl, rfl, by omega, by omega, H0⟩
  case round =>
    obtain ⟨k, m, rfl, rfl, hk1, hk, HM⟩ := hrel
    by_cases hkm : k < N
    · have hkm' : (k : Int) < N := by omega
      have ck := HC.out k hkm
      have ht := take_one' xs (k := k) (by rw [HN.out]; exact hkm)
      generalize xs.getD k 0 = x at *
      have HM2 : Hid (∀ c : Int, c ≤ (if x < m then x else m) ↔ ∀ y ∈ xs.take (k + 1), c ≤ y) := by
        show ∀ _, _
        intro c
        rw [ht]
        have := HM.out c
        have hi : (if x < m then x else m) = min m x := by split <;> omega
        rw [hi]
        simp only [List.mem_append, List.mem_singleton]
        constructor
        · intro h y hy
          rcases hy with hy | rfl
          · exact this.1 (by omega) y hy
          · omega
        · intro h
          have h1 := this.2 (fun y hy => h y (.inl hy))
          have h2 := h x (.inr rfl)
          omega
      clear HM ht
      go_wp2_with fail
      go_round
      case rel => exact ⟨k + 1, _, rfl, by go_num, by omega, by omega, HM2⟩
      case measure => simp only [intOf]; omega
    · obtain rfl : k = N := by omega
      have hkm' : decide ((k : Int) < k) = false := by simp
      have HF : Hid (∀ c : Int, c ≤ m ↔ ∀ x ∈ xs, c ≤ x) := by
        have h := HM.out
        rw [List.take_of_length_le (by rw [HN.out]; exact Nat.le_refl _)] at h
        exact h
      clear HM
      go_wp2
      go_ret
      exact ⟨⟨_, rfl, HF.out⟩, rfl⟩

def qok (xs : List Int) : Prop := (1 ≤ xs.length ∧ xs.length ≤ 8 ∧ 2 ≤ xs.getD (xs.length - 1) 0) ∧ ∀ x ∈ xs, 1 ≤ x

set_option maxHeartbeats 400000 in
theorem backward_any (a : Option Addr) (len cap : Nat) (w : World) :
    Calls Try.prog 64 #[.slice a len cap] w fun e w' => e = .returned (.func (.func 78) #[] #[.pointer (some ⟨w.heap.size, 0, none⟩)]) ∧ w' = w.alloc (.cells #[.slice a len cap] 30) := by
  go_enter Try.func64, Try.ntmps64
  go_wp2
  go_ret
  exact ⟨rfl, rfl⟩
end Go.Proofs.Ytnpaicdbmmfdhaa

set_option linter.unusedVariables false
set_option linter.unusedSimpArgs false
namespace Go.Proofs.Ytnpaicdbmmfdhaa

set_option maxRecDepth 4000
open Go.ChangeShapes Go.WideShapes Go.ChangeAt Go.RowKit Go.Joins Go.Shelf

attribute [local go_sem] Oper.semAt_some

def uptoL {α : Type} (f : Nat → α) (k : Nat) : List α := (List.range k).map f

theorem uptoL_succ {α : Type} (f : Nat → α) (k : Nat) : uptoL f (k + 1) = uptoL f k ++ [f k] := by simp [uptoL, List.range_succ]

theorem uptoL_length {α : Type} (f : Nat → α) (k : Nat) : (uptoL f k).length = k := by simp [uptoL]

def encB (x : Nat × Nat) : Array Value := #[.int .i64 (x.1 : Int), .int .i64 ((x.2 + 1 : Nat) : Int)]

def backF (ys : List Nat) (N : Nat) (i : Nat) : Nat × Nat := (N - 1 - i, ys.getD (N - 1 - i) 0)

def KpB (Bs g : Nat) (W W' : World) : Prop := W'.heap[Bs]? = W.heap[Bs]? ∧ W'.heap[g]? = W.heap[g]?

theorem KpB.trans {Bs g : Nat} {A B C : World} (h : KpB Bs g A B) (h' : KpB Bs g B C) : KpB Bs g A C := ⟨h'.1.trans h.1, h'.2.trans h.2⟩

set_option maxHeartbeats 4000000 in
theorem back1_in (m : Nat) (hm : 1 ≤ m) (l Bs g off N cap : Nat) (ys : List Nat) (h1 : 1 ≤ N) (h8 : N ≤ 8) (J Jx : List (Nat × Nat) → World → Prop)
    (hY : ∀ pre x W, J pre W → pre.length < N → YieldAt Fence.wide (m - 1) Try.prog l (encB x) W fun e W' =>
      (e = .returned (.bool true) ∧ J (pre ++ [x]) W' ∧ KpB Bs g W W') ∨ (e = .returned (.bool false) ∧ Jx (pre ++ [x]) W'))
    (W : World) (hc0 : W.cell? ⟨Bs, 0, none⟩ = some (.slice (some ⟨g, off, none⟩) N cap)) (hcs : Hid (∀ j, j < N → W.cell? ⟨g, off + j, none⟩ = some (.int .i64 ((ys.getD j 0 + 1 : Nat) : Int)))) (h0 : J [] W) :
    CallsIn Fence.wide m Try.prog 78 #[.func (.yield l) #[] #[], .pointer (some ⟨Bs, 0, none⟩)] W fun e W' => (∃ v, e = .returned v) ∧
      ((∃ zs, zs = uptoL (backF ys N) N ∧ J zs W') ∨ (∃ pre, (∃ k, k ≤ N ∧ pre = uptoL (backF ys N) k) ∧ Jx pre W')) := by
  refine callsIn_of_wp Try.func78 rfl trivial ?_ rfl
  simp only [Try.ntmps78, List.size_toArray, List.length_cons, List.length_nil, Nat.reduceAdd, Nat.reduceSub, Array.replicate_succ, Array.replicate_zero, List.push_toArray, List.append_toArray, List.nil_append, List.cons_append]
  gi_wp2
  gi_loopw [3] (fun xi wr => ∃ j : Nat, xi = .int .i64 ((j : Int) - 1) ∧ j ≤ N ∧ J (uptoL (backF ys N) (N - j)) wr ∧ KpB Bs g W wr) (fun xi _ => (intOf xi + 1).toNat)
  case atStart => exact ⟨N, rfl, Nat.le_refl _, by rw [Nat.sub_self]; exact h0, rfl, rfl⟩
  case round =>
    obtain ⟨j, rfl, hj, hJs, hk1, hk2⟩ := hrel
    by_cases hj0 : j = 0
    · subst hj0
      have hc : decide ((0 : Int) ≤ ((0 : Nat) : Int) - 1) = false := by decide
      have hc2 : decide ((0 : Int) ≤ (-1 : Int)) = false := by decide
      rw [Nat.sub_zero] at hJs
      gi_wp2
      go_end0
      exact ⟨⟨_, rfl⟩, .inl ⟨_, rfl, hJs⟩⟩
    · obtain ⟨j, rfl⟩ : ∃ k, j = k + 1 := ⟨j - 1, by omega⟩
      have ej : ((j + 1 : Nat) : Int) - 1 = j := by omega
      rw [ej]
      have hc0r : wr.cell? ⟨Bs, 0, none⟩ = some (.slice (some ⟨g, off, none⟩) N cap) := (World.cell?_of_block hk1).trans hc0
      have hcr : wr.cell? ⟨g, off + j, none⟩ = some (.int .i64 ((ys.getD j 0 + 1 : Nat) : Int)) := (World.cell?_of_block hk2).trans (hcs.out j (by omega))
      have hjN : (j : Int) < N := by omega
      have hj1 : (0 : Int) ≤ j := by omega
      have hb : backF ys N (N - (j + 1)) = (j, ys.getD j 0) := by unfold backF; rw [show N - 1 - (N - (j + 1)) = j by omega]
      have hu : uptoL (backF ys N) (N - j) = uptoL (backF ys N) (N - (j + 1)) ++ [(j, ys.getD j 0)] := by rw [show N - j = (N - (j + 1)) + 1 by omega, uptoL_succ, hb]
      have HU := Lib.hid hu
      obtain ⟨fn, tmps, assign, body, hy, hR⟩ := hY _ (j, ys.getD j 0) wr hJs (by rw [uptoL_length]; omega)
      dsimp only [encB] at hy
      obtain ⟨V, hV⟩ : ∃ V : Int, ((ys.getD j 0 + 1 : Nat) : Int) = V := ⟨_, rfl⟩
      rw [hV] at hy hcr
      clear hb hu hV
      gi_wp2
      refine hR.mono ?_
      rintro e W3 (⟨rfl, hJ3, hk3⟩ | ⟨rfl, hJx3⟩)
      · gi_wp2
        go_roundw
        case rel => exact ⟨j, by go_num, by omega, by rw [HU.out]; exact hJ3, KpB.trans ⟨hk1, hk2⟩ hk3⟩
        case measure => simp only [intOf]; omega
      · gi_wp2
        refine bodyPost_ret (results_none rfl _ _ _) rfl ?_
        exact ⟨⟨_, rfl⟩, .inr ⟨_, ⟨N - j, by omega, HU.out.symm⟩, hJx3⟩⟩

theorem back_stops (m : Nat) (hm : 1 ≤ m) (Bs g off N cap : Nat) (ys : List Nat) (h1 : 1 ≤ N) (h8 : N ≤ 8) (w : World)
    (hc0 : w.cell? ⟨Bs, 0, none⟩ = some (.slice (some ⟨g, off, none⟩) N cap)) (hcs : Hid (∀ j, j < N → w.cell? ⟨g, off + j, none⟩ = some (.int .i64 ((ys.getD j 0 + 1 : Nat) : Int)))) :
    SeqStopsK Fence.wide m Try.prog 78 #[.pointer (some ⟨Bs, 0, none⟩)] encB (KpB Bs g) (fun zs => zs = uptoL (backF ys N) N) (fun pre => ∃ k, k ≤ N ∧ pre = uptoL (backF ys N) k) N w :=
  fun l J Jx W hW hJ hJx hY h0 =>
    back1_in m hm l Bs g off N cap ys h1 h8 J Jx hY W ((hW.cell (p := ⟨Bs, 0, none⟩) (World.block_lt_of_cell? w _ hc0)).trans hc0) (fun j hj => (hW.cell (p := ⟨g, off + j, none⟩) (World.block_lt_of_cell? w _ (hcs.out j hj))).trans (hcs.out j hj)) h0
end Go.Proofs.Ytnpaicdbmmfdhaa

set_option linter.unusedVariables false
set_option linter.unusedSimpArgs false
namespace Go.Proofs.Ytnpaicdbmmfdhaa

set_option maxRecDepth 100000
open Go.ChangeShapes Go.WideShapes Go.ChangeAt Go.RowKit Go.Joins Go.Shelf

attribute [local go_sem] Oper.semAt_some

theorem cells_nc2 {W W' : World} {g : Nat} {cs : Array Value} {t : TypeId} {fr : Nat × Nat} {row : Option Nat} (h : W.heap[g]? = some (.cells cs t fr)) (hg : W.grownBy W' row) (hr : ∀ r, row = some r → ∃ o : Obj, W.heap[r]? = some o ∧ o.isCells = false) : W'.heap[g]? = some (.cells cs t fr) := by
  refine (hg.block g (Array.getElem?_eq_some_iff.1 h).1 (fun e => ?_)).trans h
  obtain ⟨o, ho, hc⟩ := hr g e.symm
  rw [h] at ho; cases ho; cases hc

theorem heap_set2 (W : World) (B : Nat) (p q : Value) (k : Nat) (h : k ≠ B) : ((W.setCell ⟨B, 0, none⟩ p).setCell ⟨B, 1, none⟩ q).heap[k]? = W.heap[k]? :=
  (Below.heap_setCell _ _ _ _ h).trans (Below.heap_setCell _ _ _ _ h)

/-- the fraction behind the quotients that have come -/
def stF (pre : List (Nat × Nat)) : Option (Nat × Nat) := pre.foldl (fun st x => fqStep ((x.2 + 1 : Nat) : Int) st) (some (1, 0))

theorem stF_snoc (pre : List (Nat × Nat)) (x : Nat × Nat) : stF (pre ++ [x]) = fqStep ((x.2 + 1 : Nat) : Int) (stF pre) := by simp [stF]

theorem stF_upto {xs : List Int} (hp : ∀ x ∈ xs, 1 ≤ x) (k : Nat) (hk : k ≤ xs.length) : stF (uptoL (backF (xs.map fun x => x.toNat - 1) xs.length) k) = fqO (xs.drop (xs.length - k)) := by
  induction k with
  | zero => rw [Nat.sub_zero, List.drop_of_length_le (Nat.le_refl _)]; rfl
  | succ k ih =>
    rw [uptoL_succ, stF_snoc, ih (by omega)]
    have h := fqO_drop (L := xs) (k := xs.length - (k + 1)) (by omega)
    rw [show xs.length - (k + 1) + 1 = xs.length - k by omega] at h
    rw [h]
    congr 1
    unfold backF
    rw [show xs.length - 1 - k = xs.length - (k + 1) by omega]
    have hi : xs.length - (k + 1) < xs.length := by omega
    have hx := hp _ (List.getElem_mem hi)
    simp only [List.getD_eq_getElem?_getD, List.getElem?_map, List.getElem?_eq_getElem hi, Option.map_some, Option.getD_some]
    omega

theorem fq_gcd : ∀ (L : List Int) (a b : Nat), fqO L = some (a, b) → Nat.gcd a b = 1 := by
  intro L
  induction L with
  | nil => intro a b h; have h0 : fqO [] = some (1, 0) := rfl; rw [h0] at h; simp at h; obtain ⟨rfl, rfl⟩ := h; rfl
  | cons x r ih =>
    intro a b h
    rw [fqO_cons] at h
    cases hf : fqO r with
    | none => rw [hf] at h; cases h
    | some ab =>
      obtain ⟨a', b'⟩ := ab
      rw [hf] at h
      unfold fqStep at h
      simp only at h
      split at h
      · simp at h
        obtain ⟨rfl, rfl⟩ := h
        have := ih a' b' hf
        rw [Nat.gcd_comm, Nat.gcd_mul_right_add_right]
        exact this
      · cases h

theorem fq_le {L : List Int} {a b : Nat} (hn : L ≠ []) (h : fqO L = some (a, b)) : a ≤ 60 := by
  cases L with
  | nil => exact absurd rfl hn
  | cons x r =>
    rw [fqO_cons] at h
    cases hf : fqO r with
    | none => rw [hf] at h; cases h
    | some ab =>
      obtain ⟨a', b'⟩ := ab
      rw [hf] at h
      unfold fqStep at h
      simp only at h
      split at h
      · rename_i c
        simp at h
        omega
      · cases h

theorem fq_tok {L : List Int} {a b : Nat} (hq : qok L) (h : fqO L = some (a, b)) : tok (a : Int) (b : Int) = true := by
  have hn : L ≠ [] := by rintro rfl; have := hq.1.1; simp at this
  obtain ⟨h1, h2, _⟩ := fq_quots L a b hn hq.1.2.2 h
  refine tok_of_tokN ?_
  unfold tokN
  have := fq_le hn h
  have hg := fq_gcd L a b h
  simp [hg]
  omega

theorem fq_not {L : List Int} (hq : ¬ qok L) : fromF L = ((0, 0), false) := by
  by_cases h : 1 ≤ L.length ∧ L.length ≤ 8 ∧ 2 ≤ L.getD (L.length - 1) 0
  · have hx : ¬ ∀ x ∈ L, 1 ≤ x := fun h' => hq ⟨h, h'⟩
    refine fromF_none ?_
    clear h hq
    induction L with
    | nil => exact absurd (fun x hx => by simp at hx) hx
    | cons x r ih =>
      rw [fqO_cons]
      by_cases hx1 : 1 ≤ x
      · rw [ih (fun h' => hx (fun y hy => by rcases List.mem_cons.1 hy with rfl | hy; exact hx1; exact h' y hy))]
        rfl
      · cases fqO r with
        | none => rfl
        | some ab => exact fqStep_none (by omega)
  · exact fromF_out h

end Go.Proofs.Ytnpaicdbmmfdhaa
