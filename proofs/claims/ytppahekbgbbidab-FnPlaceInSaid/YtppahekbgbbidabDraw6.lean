/- Contract of DrawNextAfter. -/
import Derived.Test.YtppahekbgbbidabGDraw
set_option linter.unusedVariables false
namespace Go.Proofs.Ytppahekbgbbidab
open Go.ChangeShapes Go.WideShapes Go.ChangeAt Go.RowKit Go.Joins

def DTIIPost (w : World) (e : Ending) (w' : World) : Prop :=
  ∃ (n s k i : Int), e = .returned (.tuple #[(.agg #[.int .i64 (n), .int .i64 (s)]), .int .i64 k, .int .i64 i]) ∧ -2 ≤ n ∧ n ≤ 100 ∧ -2 ≤ s ∧ s ≤ 100 ∧ -2000 ≤ k ∧ k ≤ 2000 ∧ -2000 ≤ i ∧ i ≤ 2000 ∧ Below w.heap.size w w'

theorem next_bound (v1 v2 v3 m : Int) (h1 : 0 ≤ v1) (h2 : v1 < m ∨ v1 = 0) (h3 : m ≤ 1000) (h4 : 0 ≤ v2) (h5 : v2 < 20 ∨ v2 = 0) (h6 : 0 ≤ v3) (h7 : v3 < 30 ∨ v3 = 0) :
    -2000 ≤ IntKind.i64.wrap (IntKind.i64.wrap (v1 + IntKind.i64.wrap (v2.tdiv 19)) - IntKind.i64.wrap (IntKind.i64.wrap (v3.tdiv 29) * 2)) ∧
    IntKind.i64.wrap (IntKind.i64.wrap (v1 + IntKind.i64.wrap (v2.tdiv 19)) - IntKind.i64.wrap (IntKind.i64.wrap (v3.tdiv 29) * 2)) ≤ 2000 := by
  rw [Int.tdiv_eq_ediv_of_nonneg h4, Int.tdiv_eq_ediv_of_nonneg h6]
  rw [IntWalk.i64_in (v2 / 19) (by omega), IntWalk.i64_in (v3 / 29) (by omega), IntWalk.i64_in (v3 / 29 * 2) (by omega), IntWalk.i64_in (v1 + v2 / 19) (by omega), IntWalk.i64_in _ (by omega)]
  omega

set_option maxHeartbeats 2000000 in
theorem drawNextAfter_any (a : Option Addr) (len cap : Nat) (w : World) (hc : CodeIn w a len cap) (hl : len ≤ 1048576) :
    Calls Try.prog 78 #[.slice a len cap] w (DTIIPost w) := by
  have hb0 : Below w.heap.size w (w.alloc (.cells #[.int .i64 0, .int .i64 0] 24)) := (by repeat (first | exact Below.refl _ _ | assumption | (refine Below.trans ?_ (Below.mono (by assumption) (by first | omega | (simp <;> omega)))) | (refine Below.alloc ?_ (by first | omega | (simp <;> omega)) _) | (refine below_drewN ?_ _) | (refine Below.drew ?_) | (refine Below.setCell ?_ (by first | omega | (simp <;> omega)) _)))
  go_enter Try.func78, Try.ntmps78
  go_wp2_with fail
  refine (l20Open_any a len cap _ (hc.below hb0) hl).mono ?_; rintro e w1 ⟨r, rfl, hr, hr1, hb1⟩
  simp at hr
  have hA : w.heap.size ≠ r := by omega
  have hAr : w.heap.size < r := by omega
  have u1 := (Two.new w (.int .i64 0) (.int .i64 0) 24).same (hb1.block _ (by simp))
  have hB1 := hb0.trans (hb1.mono (by simp))
  clear hb1
  go_wp2_with fail
  refine (l20Many_any r 0 _ hr1 (by omega) (by omega)).mono ?_
  rintro e w3 ⟨n, s, k, q, rfl, n0, n1, s0, s1, k0, k1, q0, q1, hr3, ho3⟩
  have u3 := ho3.two u1 hA
  have hB3 := hB1.trans (ho3.below (by omega) hB1.size)
  have hrl := hr3.lt
  have hT : w3.heap.size ≠ r := by omega
  have hTA : w3.heap.size ≠ w.heap.size := by omega
  clear ho3 u1 hr1 hB1
  go_wp2_with fail
  have t2 : Two (w3.alloc (Obj.cells #[Value.int IntKind.i64 n, Value.int IntKind.i64 s] 24)) w3.heap.size (.int .i64 n) (.int .i64 s) 24 := Two.new _ _ _ _
  have u2 := u3.alloc (Obj.cells #[Value.int IntKind.i64 n, Value.int IntKind.i64 s] 24)
  have r2 := hr3.alloc (Obj.cells #[Value.int IntKind.i64 n, Value.int IntKind.i64 s] 24)
  have hB2 : Below w.heap.size w (w3.alloc (Obj.cells #[Value.int IntKind.i64 n, Value.int IntKind.i64 s] 24)) := hB3.alloc (by have := hB3.size; omega) _
  clear u3 hr3 hB3
  generalize w3.alloc (Obj.cells #[Value.int IntKind.i64 n, Value.int IntKind.i64 s] 24) = w2 at *
  generalize w3.heap.size = T at *
  have o2 := OnlyR.refl r w2
  have c0 := t2.cell0
  have c1 := t2.cell1
  have d0 := u2.cell0
  have d1 := u2.cell1
  have f0 := u2.free 0
  have f1 := u2.free 1
  have fin : ∀ (w' : World) (x : Int), OnlyR r w2 w' → -2000 ≤ x ∧ x ≤ 2000 → ∃ (n' s' k' i : Int), Ending.returned (.tuple #[(.agg #[.int .i64 (n), .int .i64 (s)]), .int .i64 k, .int .i64 x]) = .returned (.tuple #[(.agg #[.int .i64 (n'), .int .i64 (s')]), .int .i64 k', .int .i64 i]) ∧ -2 ≤ n' ∧ n' ≤ 100 ∧ -2 ≤ s' ∧ s' ≤ 100 ∧ -2000 ≤ k' ∧ k' ≤ 2000 ∧ -2000 ≤ i ∧ i ≤ 2000 ∧ Below w.heap.size w ((w'.setCell ⟨w.heap.size, 0, none⟩ (.int .i64 n)).setCell ⟨w.heap.size, 1, none⟩ (.int .i64 s)) := by
    intro w' x o b
    exact ⟨n, s, k, x, rfl, by omega, by omega, by omega, by omega, by omega, by omega, b.1, b.2, ((hB2.trans (o.below (by omega) hB2.size)).setCell (Nat.le_refl _) _).setCell (Nat.le_refl _) _⟩
  by_cases hk1 : k < 1
  · have hm1 : min k 60 = k := by omega
    have hm2 : max k 1 = 1 := by omega
    go_region_held3 (fun w' => w'.cell? ⟨T, 0, none⟩ = some (.int .i64 n) ∧ w'.cell? ⟨T, 1, none⟩ = some (.int .i64 s))
      (first | go_keep | exact ⟨c0', c1'⟩ | exact ⟨((t'.set (b := w.heap.size) (Ne.symm hTA) 0 _).set (b := w.heap.size) (Ne.symm hTA) 1 _).cell0, ((t'.set (b := w.heap.size) (Ne.symm hTA) 0 _).set (b := w.heap.size) (Ne.symm hTA) 1 _).cell1⟩)
      (first | (go_at_call 84; refine (pick_any r _ _ _ (by assumption) (by omega) (by omega) (by omega)).mono ?_; rintro e w' ⟨v, rfl, a, b, r', o', s'⟩; have t' := o'.two (by assumption : Two _ T (.int .i64 n) (.int .i64 s) 24) hT; have u' := o'.two (by assumption : Two _ w.heap.size (.int .i64 0) (.int .i64 0) 24) hA; have c0' := t'.cell0; have c1' := t'.cell1; have d0' := u'.cell0; have d1' := u'.cell1; have f0' := u'.free 0; have f1' := u'.free 1))
    have u9 := (u'.set0 (.int .i64 n)).set1 (.int .i64 s)
    have e0 := u9.cell0
    have e1 := u9.cell1
    go_wp2
    refine bodyPost_ret (v := .tuple #[(.agg #[.int .i64 (n), .int .i64 (s)]), .int .i64 k, .int .i64 _]) (by simp [results, Try.results78, go_sem, e0, e1]; rfl) rfl ?_
    refine fin _ _ ((((o2.drewN 1).trans (by assumption)).trans (by assumption)).trans o') ?_
    refine next_bound _ _ _ 1 ?_ ?_ ?_ ?_ ?_ ?_ ?_ <;> first | assumption | omega
  · by_cases hk2 : 60 < k
    · have hm1 : min k 60 = 60 := by omega
      have hm2 : max (60 : Int) 1 = 60 := by omega
      go_region_held3 (fun w' => w'.cell? ⟨T, 0, none⟩ = some (.int .i64 n) ∧ w'.cell? ⟨T, 1, none⟩ = some (.int .i64 s))
        (first | go_keep | exact ⟨c0', c1'⟩ | exact ⟨((t'.set (b := w.heap.size) (Ne.symm hTA) 0 _).set (b := w.heap.size) (Ne.symm hTA) 1 _).cell0, ((t'.set (b := w.heap.size) (Ne.symm hTA) 0 _).set (b := w.heap.size) (Ne.symm hTA) 1 _).cell1⟩)
        (first | (go_at_call 84; refine (pick_any r _ _ _ (by assumption) (by omega) (by omega) (by omega)).mono ?_; rintro e w' ⟨v, rfl, a, b, r', o', s'⟩; have t' := o'.two (by assumption : Two _ T (.int .i64 n) (.int .i64 s) 24) hT; have u' := o'.two (by assumption : Two _ w.heap.size (.int .i64 0) (.int .i64 0) 24) hA; have c0' := t'.cell0; have c1' := t'.cell1; have d0' := u'.cell0; have d1' := u'.cell1; have f0' := u'.free 0; have f1' := u'.free 1))
      have u9 := (u'.set0 (.int .i64 n)).set1 (.int .i64 s)
      have e0 := u9.cell0
      have e1 := u9.cell1
      go_wp2
      refine bodyPost_ret (v := .tuple #[(.agg #[.int .i64 (n), .int .i64 (s)]), .int .i64 k, .int .i64 _]) (by simp [results, Try.results78, go_sem, e0, e1]; rfl) rfl ?_
      refine fin _ _ ((((o2.drewN 1).trans (by assumption)).trans (by assumption)).trans o') ?_
      refine next_bound _ _ _ 60 ?_ ?_ ?_ ?_ ?_ ?_ ?_ <;> first | assumption | omega
    · have hm1 : min k 60 = k := by omega
      have hm2 : max k 1 = k := by omega
      go_region_held3 (fun w' => w'.cell? ⟨T, 0, none⟩ = some (.int .i64 n) ∧ w'.cell? ⟨T, 1, none⟩ = some (.int .i64 s))
        (first | go_keep | exact ⟨c0', c1'⟩ | exact ⟨((t'.set (b := w.heap.size) (Ne.symm hTA) 0 _).set (b := w.heap.size) (Ne.symm hTA) 1 _).cell0, ((t'.set (b := w.heap.size) (Ne.symm hTA) 0 _).set (b := w.heap.size) (Ne.symm hTA) 1 _).cell1⟩)
        (first | (go_at_call 84; refine (pick_any r _ _ _ (by assumption) (by omega) (by omega) (by omega)).mono ?_; rintro e w' ⟨v, rfl, a, b, r', o', s'⟩; have t' := o'.two (by assumption : Two _ T (.int .i64 n) (.int .i64 s) 24) hT; have u' := o'.two (by assumption : Two _ w.heap.size (.int .i64 0) (.int .i64 0) 24) hA; have c0' := t'.cell0; have c1' := t'.cell1; have d0' := u'.cell0; have d1' := u'.cell1; have f0' := u'.free 0; have f1' := u'.free 1))
      have u9 := (u'.set0 (.int .i64 n)).set1 (.int .i64 s)
      have e0 := u9.cell0
      have e1 := u9.cell1
      go_wp2
      refine bodyPost_ret (v := .tuple #[(.agg #[.int .i64 (n), .int .i64 (s)]), .int .i64 k, .int .i64 _]) (by simp [results, Try.results78, go_sem, e0, e1]; rfl) rfl ?_
      refine fin _ _ ((((o2.drewN 1).trans (by assumption)).trans (by assumption)).trans o') ?_
      refine next_bound _ _ _ k ?_ ?_ ?_ ?_ ?_ ?_ ?_ <;> first | assumption | omega
end Go.Proofs.Ytppahekbgbbidab
