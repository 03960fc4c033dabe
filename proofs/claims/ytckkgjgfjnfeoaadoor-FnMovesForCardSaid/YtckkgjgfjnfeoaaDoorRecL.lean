/- Lists of rows of four numbers in memory; each once, if it comes again at once. -/
import Derived.Test.YtckkgjgfjnfeoaaDoorGRule
import Derived.Test.YtckkgjgfjnfeoaaDoorGRec
set_option linter.unusedVariables false
namespace Go.Proofs.YtckkgjgfjnfeoaaDoor
set_option maxRecDepth 4000
open Go.ChangeShapes Go.WideShapes Go.ChangeAt Go.RowKit Go.Joins

def row0 : Row := ⟨0, 0, 0, 0⟩

theorem OwnLL.four {w : World} {b : Nat} {v : Value} {Rs : List Row} (h : OwnLL w b v (Rs.map rowI)) {M : Nat} (hM : Rs.length = M) :
    ∃ a cap, v = .slice a M cap ∧ (M ≠ 0 → ∃ g, a = some ⟨g, 0, none⟩ ∧ g < w.heap.size ∧ Hid (∀ i, i < M → ∃ x c, w.cell? ⟨g, i, none⟩ = some (.slice (some ⟨x, 0, none⟩) 4 c) ∧ x < w.heap.size ∧
      w.cell? ⟨x, 0, none⟩ = some (.int .i64 ((Rs.getD i row0).p : Int)) ∧ w.cell? ⟨x, 1, none⟩ = some (.int .i64 ((Rs.getD i row0).a : Int)) ∧
      w.cell? ⟨x, 2, none⟩ = some (.int .i64 ((Rs.getD i row0).q : Int)) ∧ w.cell? ⟨x, 3, none⟩ = some (.int .i64 ((Rs.getD i row0).b : Int)))) := by
  obtain ⟨a, cap, rfl, hc0⟩ := h.cells (N := M) (by rw [List.length_map]; exact hM)
  refine ⟨a, cap, rfl, fun h0 => ?_⟩
  obtain ⟨g, rfl, hc⟩ := hc0 h0
  obtain ⟨r0, hr0, _⟩ := hc.out 0 (by omega)
  refine ⟨g, rfl, World.block_lt_of_cell? w _ hr0, fun i hi => ?_⟩
  obtain ⟨r, hr, ho⟩ := hc.out i hi
  have e : (Rs.map rowI).getD i [] = rowI (Rs.getD i row0) := by
    simp only [List.getD_eq_getElem?_getD, List.getElem?_map, List.getElem?_eq_getElem (show i < Rs.length by omega), Option.map_some, Option.getD_some]
  rw [e] at ho
  obtain ⟨a, c, rfl, hx0⟩ := OwnL.cells ho (N := 4) rfl
  obtain ⟨x, rfl, _, x2, hx⟩ := hx0 (by omega)
  exact ⟨x, c, hr, x2, hx.out 0 (by omega), hx.out 1 (by omega), hx.out 2 (by omega), hx.out 3 (by omega)⟩

/-- each once, if it comes again at once, as the law walks -/
def stepF (f : Row → Nat) (acc : List Nat) (r : Row) : List Nat := if acc.getLast? = some (f r) then acc else acc ++ [f r]

def someF (f : Row → Nat) (Rs : List Row) (k : Nat) : List Nat := (Rs.take k).foldl (stepF f) []

theorem someF_zero (f : Row → Nat) (Rs : List Row) : someF f Rs 0 = [] := by simp [someF]

theorem someF_succ (f : Row → Nat) {Rs : List Row} {k : Nat} (h : k < Rs.length) : someF f Rs (k + 1) = stepF f (someF f Rs k) (Rs.getD k row0) := by
  unfold someF
  rw [List.take_succ_eq_append_getElem h, List.foldl_append, List.getD_eq_getElem?_getD, List.getElem?_eq_getElem h]; rfl

theorem stepF_ne (f : Row → Nat) (acc : List Nat) (r : Row) : 1 ≤ (stepF f acc r).length := by
  unfold stepF
  split
  · rename_i h
    cases acc with
    | nil => simp at h
    | cons x r => simp
  · simp

theorem someF_len (f : Row → Nat) (Rs : List Row) (k : Nat) : (someF f Rs k).length ≤ k := by
  induction k with
  | zero => simp [someF]
  | succ k ih =>
    by_cases h : k < Rs.length
    · rw [someF_succ f h, stepF]
      split
      · omega
      · simp; exact ih
    · unfold someF at *
      rw [List.take_of_length_le (by omega)] at *
      omega

theorem someF_ne (f : Row → Nat) {Rs : List Row} {k : Nat} (h : k < Rs.length) : 1 ≤ (someF f Rs (k + 1)).length := by
  rw [someF_succ f h]; exact stepF_ne _ _ _

theorem fold_once (f : Row → Nat) (rs : List Row) : ∀ (acc : List Nat) (last : Nat), acc.getLast? = some last → rs.foldl (stepF f) acc = acc ++ onceF f last rs := by
  induction rs with
  | nil => intro acc last _; simp [onceF]
  | cons r rs ih =>
    intro acc last h
    rw [List.foldl_cons, onceF]
    by_cases c : f r = last
    · rw [if_pos c, show stepF f acc r = acc by rw [stepF, if_pos (by rw [h, c])]]
      exact ih acc last h
    · rw [if_neg c, show stepF f acc r = acc ++ [f r] by rw [stepF, if_neg (by rw [h]; intro e; injection e with e; exact c e.symm)], ih _ (f r) (by simp)]
      simp

theorem someF_all (f : Row → Nat) (r : Row) (rs : List Row) (k : Nat) (hk : rs.length + 1 ≤ k) : someF f (r :: rs) k = f r :: onceF f (f r) rs := by
  unfold someF
  rw [List.take_of_length_le (by simpa using hk), List.foldl_cons, show stepF f [] r = [f r] by simp [stepF], fold_once f rs _ (f r) (by simp)]
  rfl

theorem someA {n s : Nat} (h : tokN n s = true) (k : Nat) (hk : (rowsN n s).length ≤ k) : someF Row.p (rowsN n s) k = recL true n s := by
  rw [(recA_rows h).1]
  have := rowsN_head h
  rw [this] at hk ⊢
  rw [someF_all Row.p _ _ _ (by simpa using hk)]
  rfl

theorem someB {n s : Nat} (h : tokN n s = true) (k : Nat) (hk : (rowsN n s).length ≤ k) : someF Row.q (rowsN n s) k = recL false n s := by
  rw [recB_rows h]
  have := rowsN_head h
  rw [this] at hk ⊢
  rw [someF_all Row.q _ _ _ (by simpa using hk)]
  rfl

theorem last_getD {L : List Nat} (h : 1 ≤ L.length) (x : Nat) : L.getLast? = some x ↔ L.getD (L.length - 1) 0 = x := by
  rw [List.getLast?_eq_getElem?, List.getD_eq_getElem?_getD, List.getElem?_eq_getElem (by omega)]
  simp
end Go.Proofs.YtckkgjgfjnfeoaaDoor
