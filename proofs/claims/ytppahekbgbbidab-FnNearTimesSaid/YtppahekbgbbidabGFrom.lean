/- Contract of FromQuotients of the model. Contracts of slices.Min, quotientsOk and slices.Backward. Contract of the iterator of slices.Backward. Contract of FromQuotients of the program: a range over slices.Backward. -/
import Derived.Test.YtppahekbgbbidabGQuot
import Derived.RangeFuncBox
import Derived.RangeFuncNested
import Derived.RangeFuncBound
import Derived.RangeFuncCalls
import Derived.RangeFuncLeaves
import Derived.Shelf.Abstract
import Derived.Shelf.RegionOpen
import Derived.OwnWalkIn
import Derived.TacticsInMore
import Derived.LoopNIn
import Derived.LoopIn
import Derived.Sort.QuietIn
set_option linter.unusedVariables false
set_option linter.unusedSimpArgs false
namespace Go.Proofs.Ytppahekbgbbidab

set_option maxRecDepth 4000
open Go.ChangeShapes Go.WideShapes Go.ChangeAt Go.RowKit Go.Joins

def FromPost (xs : List Int) (w : World) (e : Ending) (w' : World) : Prop := e = .returned (.tuple #[(.agg #[.int .i64 ((fromF xs).1.1), .int .i64 ((fromF xs).1.2)]), .bool (fromF xs).2]) ∧ Below w.heap.size w w'

theorem from_post {xs : List Int} {a b : Int} {c : Bool} {w w' : World} (h : fromF xs = ((a, b), c)) (hB : Below w.heap.size w w') : FromPost xs w (.returned (.tuple #[(.agg #[.int .i64 (a), .int .i64 (b)]), .bool c])) w' := ⟨by rw [h], hB⟩

theorem fromF_out {L : List Int} (h : ¬ (1 ≤ L.length ∧ L.length ≤ 8 ∧ 2 ≤ L.getD (L.length - 1) 0)) : fromF L = ((0, 0), false) := if_neg h

theorem fromF_none {L : List Int} (h : fqO L = none) : fromF L = ((0, 0), false) := by
  unfold fromF
  split
  · rw [h]
  · rfl

theorem fromF_tok {L : List Int} {a b : Nat} (h : 1 ≤ L.length ∧ L.length ≤ 8 ∧ 2 ≤ L.getD (L.length - 1) 0) (hf : fqO L = some (a, b)) (ht : tok (a : Int) (b : Int) = true) : fromF L = (((a : Int), (b : Int)), true) := by
  unfold fromF
  rw [if_pos h, hf]
  simp only
  rw [if_pos ht]

theorem fromF_not {L : List Int} {a b : Nat} (hf : fqO L = some (a, b)) (ht : ¬ tok (a : Int) (b : Int) = true) : fromF L = ((0, 0), false) := by
  unfold fromF
  split
  · rw [hf]
    simp only
    rw [if_neg ht]
  · rfl

end Go.Proofs.Ytppahekbgbbidab

set_option linter.unusedVariables false
set_option linter.unusedSimpArgs false
namespace Go.Proofs.Ytppahekbgbbidab

set_option maxRecDepth 4000
open Go.ChangeShapes Go.WideShapes Go.ChangeAt Go.RowKit Go.Joins Go.Shelf

theorem take_one' (xs : List Int) {k : Nat} (h : k < xs.length) : xs.take (k + 1) = xs.take k ++ [xs.getD k 0] := by
  rw [List.take_succ_eq_append_getElem h, List.getD_eq_getElem?_getD, List.getElem?_eq_getElem h]; rfl

def qok (xs : List Int) : Prop := (1 ≤ xs.length ∧ xs.length ≤ 8 ∧ 2 ≤ xs.getD (xs.length - 1) 0) ∧ ∀ x ∈ xs, 1 ≤ x

end Go.Proofs.Ytppahekbgbbidab

set_option linter.unusedVariables false
set_option linter.unusedSimpArgs false
namespace Go.Proofs.Ytppahekbgbbidab

set_option maxRecDepth 4000
open Go.ChangeShapes Go.WideShapes Go.ChangeAt Go.RowKit Go.Joins Go.Shelf

attribute [local go_sem] Oper.semAt_some

def uptoL {α : Type} (f : Nat → α) (k : Nat) : List α := (List.range k).map f

theorem uptoL_succ {α : Type} (f : Nat → α) (k : Nat) : uptoL f (k + 1) = uptoL f k ++ [f k] := by simp [uptoL, List.range_succ]

theorem uptoL_length {α : Type} (f : Nat → α) (k : Nat) : (uptoL f k).length = k := by simp [uptoL]

def encB (x : Nat × Nat) : Array Value := #[.int .i64 (x.1 : Int), .int .i64 ((x.2 + 1 : Nat) : Int)]

def backF (ys : List Nat) (N : Nat) (i : Nat) : Nat × Nat := (N - 1 - i, ys.getD (N - 1 - i) 0)

def KpB (Bs g : Nat) (W W' : World) : Prop := W'.heap[Bs]? = W.heap[Bs]? ∧ W'.heap[g]? = W.heap[g]?

theorem KpB.trans {Bs g : Nat} {A B C : World} (h : KpB Bs g A B) (h' : KpB Bs g B C) : KpB Bs g A C := ⟨h'.1.trans h.1, h'.2.trans h.2⟩

end Go.Proofs.Ytppahekbgbbidab

set_option linter.unusedVariables false
set_option linter.unusedSimpArgs false
namespace Go.Proofs.Ytppahekbgbbidab

set_option maxRecDepth 100000
open Go.ChangeShapes Go.WideShapes Go.ChangeAt Go.RowKit Go.Joins Go.Shelf

attribute [local go_sem] Oper.semAt_some

theorem cells_nc2 {W W' : World} {g : Nat} {cs : Array Value} {t : TypeId} {fr : Nat × Nat} {row : Option Nat} (h : W.heap[g]? = some (.cells cs t fr)) (hg : W.grownBy W' row) (hr : ∀ r, row = some r → ∃ o : Obj, W.heap[r]? = some o ∧ o.isCells = false) : W'.heap[g]? = some (.cells cs t fr) := by
  refine (hg.block g (Array.getElem?_eq_some_iff.1 h).1 (fun e => ?_)).trans h
  obtain ⟨o, ho, hc⟩ := hr g e.symm
  rw [h] at ho; cases ho; cases hc

theorem heap_set2 (W : World) (B : Nat) (p q : Value) (k : Nat) (h : k ≠ B) : ((W.setCell ⟨B, 0, none⟩ p).setCell ⟨B, 1, none⟩ q).heap[k]? = W.heap[k]? :=
  (Below.heap_setCell _ _ _ _ h).trans (Below.heap_setCell _ _ _ _ h)

/-- the fraction behind the quotients that have come -/
def stF (pre : List (Nat × Nat)) : Option (Nat × Nat) := pre.foldl (fun st x => fqStep ((x.2 + 1 : Nat) : Int) st) (some (1, 0))

theorem stF_snoc (pre : List (Nat × Nat)) (x : Nat × Nat) : stF (pre ++ [x]) = fqStep ((x.2 + 1 : Nat) : Int) (stF pre) := by simp [stF]

theorem stF_upto {xs : List Int} (hp : ∀ x ∈ xs, 1 ≤ x) (k : Nat) (hk : k ≤ xs.length) : stF (uptoL (backF (xs.map fun x => x.toNat - 1) xs.length) k) = fqO (xs.drop (xs.length - k)) := by
  induction k with
  | zero => rw [Nat.sub_zero, List.drop_of_length_le (Nat.le_refl _)]; rfl
  | succ k ih =>
    rw [uptoL_succ, stF_snoc, ih (by omega)]
    have h := fqO_drop (L := xs) (k := xs.length - (k + 1)) (by omega)
    rw [show xs.length - (k + 1) + 1 = xs.length - k by omega] at h
    rw [h]
    congr 1
    unfold backF
    rw [show xs.length - 1 - k = xs.length - (k + 1) by omega]
    have hi : xs.length - (k + 1) < xs.length := by omega
    have hx := hp _ (List.getElem_mem hi)
    simp only [List.getD_eq_getElem?_getD, List.getElem?_map, List.getElem?_eq_getElem hi, Option.map_some, Option.getD_some]
    omega

theorem fq_gcd : ∀ (L : List Int) (a b : Nat), fqO L = some (a, b) → Nat.gcd a b = 1 := by
  intro L
  induction L with
  | nil => intro a b h; have h0 : fqO [] = some (1, 0) := rfl; rw [h0] at h; simp at h; obtain ⟨rfl, rfl⟩ := h; rfl
  | cons x r ih =>
    intro a b h
    rw [fqO_cons] at h
    cases hf : fqO r with
    | none => rw [hf] at h; cases h
    | some ab =>
      obtain ⟨a', b'⟩ := ab
      rw [hf] at h
      unfold fqStep at h
      simp only at h
      split at h
      · simp at h
        obtain ⟨rfl, rfl⟩ := h
        have := ih a' b' hf
        rw [Nat.gcd_comm, Nat.gcd_mul_right_add_right]
        exact this
      · cases h

theorem fq_le {L : List Int} {a b : Nat} (hn : L ≠ []) (h : fqO L = some (a, b)) : a ≤ 60 := by
  cases L with
  | nil => exact absurd rfl hn
  | cons x r =>
    rw [fqO_cons] at h
    cases hf : fqO r with
    | none => rw [hf] at h; cases h
    | some ab =>
      obtain ⟨a', b'⟩ := ab
      rw [hf] at h
      unfold fqStep at h
      simp only at h
      split at h
      · rename_i c
        simp at h
        omega
      · cases h

theorem fq_tok {L : List Int} {a b : Nat} (hq : qok L) (h : fqO L = some (a, b)) : tok (a : Int) (b : Int) = true := by
  have hn : L ≠ [] := by rintro rfl; have := hq.1.1; simp at this
  obtain ⟨h1, h2, _⟩ := fq_quots L a b hn hq.1.2.2 h
  refine tok_of_tokN ?_
  unfold tokN
  have := fq_le hn h
  have hg := fq_gcd L a b h
  simp [hg]
  omega

theorem fq_not {L : List Int} (hq : ¬ qok L) : fromF L = ((0, 0), false) := by
  by_cases h : 1 ≤ L.length ∧ L.length ≤ 8 ∧ 2 ≤ L.getD (L.length - 1) 0
  · have hx : ¬ ∀ x ∈ L, 1 ≤ x := fun h' => hq ⟨h, h'⟩
    refine fromF_none ?_
    clear h hq
    induction L with
    | nil => exact absurd (fun x hx => by simp at hx) hx
    | cons x r ih =>
      rw [fqO_cons]
      by_cases hx1 : 1 ≤ x
      · rw [ih (fun h' => hx (fun y hy => by rcases List.mem_cons.1 hy with rfl | hy; exact hx1; exact h' y hy))]
        rfl
      · cases fqO r with
        | none => rfl
        | some ab => exact fqStep_none (by omega)
  · exact fromF_out h

end Go.Proofs.Ytppahekbgbbidab
