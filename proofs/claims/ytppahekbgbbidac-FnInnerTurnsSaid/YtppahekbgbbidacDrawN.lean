/- Contracts of the Draw functions of chapter 8. -/
import Derived.Test.YtppahekbgbbidacGDraw
import Derived.Deep.Cut
set_option linter.unusedVariables false
namespace Go.Proofs.Ytppahekbgbbidac

set_option maxRecDepth 4000
open Go.ChangeShapes Go.WideShapes Go.ChangeAt Go.RowKit Go.Joins

set_option maxHeartbeats 1000000 in
theorem drawInnerTurn_any (a : Option Addr) (len cap : Nat) (w : World) (hc : CodeIn w a len cap) (hl : len ≤ 1048576) :
    Calls Try.prog 49 #[.slice a len cap] w (DTPost w) := by
  have hb0 : Below w.heap.size w (w.alloc (.cells #[.int .i64 0, .int .i64 0] 24)) := (by repeat (first | exact Below.refl _ _ | assumption | (refine Below.trans ?_ (Below.mono (by assumption) (by first | omega | (simp <;> omega)))) | (refine Below.alloc ?_ (by first | omega | (simp <;> omega)) _) | (refine below_drewN ?_ _) | (refine Below.drew ?_) | (refine Below.setCell ?_ (by first | omega | (simp <;> omega)) _)))
  go_enter Try.func49, Try.ntmps49
  go_wp2_with fail
  refine (l20Open_any a len cap _ (hc.below hb0) hl).mono ?_; rintro e w1 ⟨r, rfl, hr, hr1, hb1⟩
  simp at hr
  have hA : w.heap.size ≠ r := by omega
  have u1 := (Two.new w (.int .i64 0) (.int .i64 0) 24).same (hb1.block _ (by simp))
  have hB1 := hb0.trans (hb1.mono (by simp))
  clear hb1
  go_wp2_with fail
  refine (l20Turn_any r 0 9 _ hr1 (by omega) (by omega) (by omega)).mono ?_
  rintro e w3 ⟨n, s, q, rfl, n0, n1, s0, s1, q0, q1, hr3, ho3⟩
  have u4 := ho3.two u1 hA
  have hB4 := hB1.trans (ho3.below (by omega) hB1.size)
  clear ho3 u1 hr1
  have c0 := u4.cell0
  have c1 := u4.cell1
  have f0 := u4.free 0
  have f1 := u4.free 1
  have u5 := (u4.set0 (.int .i64 n)).set1 (.int .i64 s)
  have e0 := u5.cell0
  have e1 := u5.cell1
  go_wp2
  refine bodyPost_ret (v := (.agg #[.int .i64 (n), .int .i64 (s)])) (by simp [results, Try.results49, go_sem, e0, e1]) rfl ?_
  exact ⟨n, s, rfl, by omega, by omega, by omega, by omega, (hB4.setCell (Nat.le_refl _) _).setCell (Nat.le_refl _) _⟩

set_option maxHeartbeats 1000000 in
theorem drawInnerTurns_any (a : Option Addr) (len cap : Nat) (w : World) (hc : CodeIn w a len cap) (hl : len ≤ 1048576) :
    Calls Try.prog 52 #[.slice a len cap] w (DTPost w) := by
  have hb0 : Below w.heap.size w (w.alloc (.cells #[.int .i64 0, .int .i64 0] 24)) := (by repeat (first | exact Below.refl _ _ | assumption | (refine Below.trans ?_ (Below.mono (by assumption) (by first | omega | (simp <;> omega)))) | (refine Below.alloc ?_ (by first | omega | (simp <;> omega)) _) | (refine below_drewN ?_ _) | (refine Below.drew ?_) | (refine Below.setCell ?_ (by first | omega | (simp <;> omega)) _)))
  go_enter Try.func52, Try.ntmps52
  go_wp2_with fail
  refine (l20Open_any a len cap _ (hc.below hb0) hl).mono ?_; rintro e w1 ⟨r, rfl, hr, hr1, hb1⟩
  simp at hr
  have hA : w.heap.size ≠ r := by omega
  have u1 := (Two.new w (.int .i64 0) (.int .i64 0) 24).same (hb1.block _ (by simp))
  have hB1 := hb0.trans (hb1.mono (by simp))
  clear hb1
  go_wp2_with fail
  refine (l20Turn_any r 0 9 _ hr1 (by omega) (by omega) (by omega)).mono ?_
  rintro e w3 ⟨n, s, q, rfl, n0, n1, s0, s1, q0, q1, hr3, ho3⟩
  have u4 := ho3.two u1 hA
  have hB4 := hB1.trans (ho3.below (by omega) hB1.size)
  clear ho3 u1 hr1
  have c0 := u4.cell0
  have c1 := u4.cell1
  have f0 := u4.free 0
  have f1 := u4.free 1
  have u5 := (u4.set0 (.int .i64 n)).set1 (.int .i64 s)
  have e0 := u5.cell0
  have e1 := u5.cell1
  go_wp2
  refine bodyPost_ret (v := (.agg #[.int .i64 (n), .int .i64 (s)])) (by simp [results, Try.results52, go_sem, e0, e1]) rfl ?_
  exact ⟨n, s, rfl, by omega, by omega, by omega, by omega, (hB4.setCell (Nat.le_refl _) _).setCell (Nat.le_refl _) _⟩

/-- a turn and a number -/
def P1Post (w : World) (e : Ending) (w' : World) : Prop := ∃ (n s k : Int), e = .returned (.tuple #[(.agg #[.int .i64 (n), .int .i64 (s)]), .int .i64 k]) ∧ Below w.heap.size w w'

set_option maxHeartbeats 4000000 in
theorem drawPlaceOfOne_any (a : Option Addr) (len cap : Nat) (w : World) (hc : CodeIn w a len cap) (hl : len ≤ 1048576) :
    Calls Try.prog 53 #[.slice a len cap] w (P1Post w) := by
  have hb0 : Below w.heap.size w (w.alloc (.cells #[.int .i64 0, .int .i64 0] 24)) := (by repeat (first | exact Below.refl _ _ | assumption | (refine Below.trans ?_ (Below.mono (by assumption) (by first | omega | (simp <;> omega)))) | (refine Below.alloc ?_ (by first | omega | (simp <;> omega)) _) | (refine below_drewN ?_ _) | (refine Below.drew ?_) | (refine Below.setCell ?_ (by first | omega | (simp <;> omega)) _)))
  go_enter Try.func53, Try.ntmps53
  go_wp2_with fail
  refine (l20Open_any a len cap _ (hc.below hb0) hl).mono ?_; rintro e w1 ⟨r, rfl, hr, hr1, hb1⟩
  simp at hr
  have hA : w.heap.size ≠ r := by omega
  have u1 := (Two.new w (.int .i64 0) (.int .i64 0) 24).same (hb1.block _ (by simp))
  have hB1 := hb0.trans (hb1.mono (by simp))
  clear hb1
  go_wp2_with fail
  refine (l20Turn_any r 0 12 _ hr1 (by omega) (by omega) (by omega)).mono ?_
  rintro e w3 ⟨n, s, q, rfl, n0, n1, s0, s1, q0, q1, hr3, ho3⟩
  have u3 := ho3.two u1 hA
  have hB3 := hB1.trans (ho3.below (by omega) hB1.size)
  have hz3 := u3.lt
  have t4 : Two (w3.alloc (.cells #[.int .i64 n, .int .i64 s] 24)) w3.heap.size (.int .i64 n) (.int .i64 s) 24 := Two.new _ _ _ _
  have u4 := u3.alloc (.cells #[.int .i64 n, .int .i64 s] 24)
  have hr4 := hr3.alloc (.cells #[.int .i64 n, .int .i64 s] 24)
  have hB4 := hB3.alloc hB3.size (.cells #[.int .i64 n, .int .i64 s] 24)
  have hT : w3.heap.size ≠ r := by have := hr3.lt; omega
  have hTA : w3.heap.size ≠ w.heap.size := by omega
  clear ho3 u1 hr1 hr3 u3 hB3 hb0 hB1 hc
  go_wp2_with fail
  generalize w3.alloc (.cells #[.int .i64 n, .int .i64 s] 24) = w4 at *
  generalize w3.heap.size = T at *
  have c0 := t4.cell0
  have c1 := t4.cell1
  have d0 := u4.cell0
  have d1 := u4.cell1
  have f0 := u4.free 0
  have f1 := u4.free 1
  by_cases hn1 : s < 1
  · have hmx : max (s) 1 = 1 := by omega
    have hif : (if s < 1 then (1 : Int) else s) = 1 := if_pos hn1
    have hw1 : IntKind.i64.wrap (2 : Int) = 2 := IntWalk.i64_in _ (by omega)
    go_region_held3 (fun w' => w'.cell? ⟨T, 0, none⟩ = some (.int .i64 n) ∧ w'.cell? ⟨T, 1, none⟩ = some (.int .i64 s))
      (first | go_keep | exact ⟨c0', c1'⟩ | exact ⟨((t'.set (b := w.heap.size) (Ne.symm hTA) 0 _).set (b := w.heap.size) (Ne.symm hTA) 1 _).cell0, ((t'.set (b := w.heap.size) (Ne.symm hTA) 0 _).set (b := w.heap.size) (Ne.symm hTA) 1 _).cell1⟩)
      (first | (go_at_call 59; refine (pick_any r _ _ _ (by assumption) (by omega) (by omega) (by omega)).mono ?_; rintro e w' ⟨v, rfl, a, b, r', o', s'⟩; have t' := o'.two (by assumption : Two _ T (.int .i64 n) (.int .i64 s) 24) hT; have u' := o'.two (by assumption : Two _ w.heap.size (.int .i64 0) (.int .i64 0) 24) hA; have c0' := t'.cell0; have c1' := t'.cell1; have d0' := u'.cell0; have d1' := u'.cell1; have f0' := u'.free 0; have f1' := u'.free 1))
    all_goals
      have u9 := (u'.set0 (.int .i64 n)).set1 (.int .i64 s)
      have e0 := u9.cell0
      have e1 := u9.cell1
      have hB7 : Below w.heap.size w _ := (below_drewN hB4 1).trans (OnlyR.below (w := w4.drewN 1) (by assumption) (by omega) (below_drewN hB4 1).size)
      have hB8 : Below w.heap.size w _ := hB7.trans (OnlyR.below o' (by omega) hB7.size)
      go_wp2
      refine bodyPost_ret (v := .tuple #[(.agg #[.int .i64 (n), .int .i64 (s)]), .int .i64 _]) (by simp [results, Try.results53, go_sem, e0, e1]; rfl) rfl ?_
      exact ⟨n, s, _, rfl, (hB8.setCell (Nat.le_refl _) _).setCell (Nat.le_refl _) _⟩
  · have hmx : max (s) 1 = s := by omega
    have hif : (if s < 1 then (1 : Int) else s) = s := if_neg hn1
    have hw1 : IntKind.i64.wrap (s + 1) = s + 1 := IntWalk.i64_in _ (by omega)
    go_region_held3 (fun w' => w'.cell? ⟨T, 0, none⟩ = some (.int .i64 n) ∧ w'.cell? ⟨T, 1, none⟩ = some (.int .i64 s))
      (first | go_keep | exact ⟨c0', c1'⟩ | exact ⟨((t'.set (b := w.heap.size) (Ne.symm hTA) 0 _).set (b := w.heap.size) (Ne.symm hTA) 1 _).cell0, ((t'.set (b := w.heap.size) (Ne.symm hTA) 0 _).set (b := w.heap.size) (Ne.symm hTA) 1 _).cell1⟩)
      (first | (go_at_call 59; refine (pick_any r _ _ _ (by assumption) (by omega) (by omega) (by omega)).mono ?_; rintro e w' ⟨v, rfl, a, b, r', o', s'⟩; have t' := o'.two (by assumption : Two _ T (.int .i64 n) (.int .i64 s) 24) hT; have u' := o'.two (by assumption : Two _ w.heap.size (.int .i64 0) (.int .i64 0) 24) hA; have c0' := t'.cell0; have c1' := t'.cell1; have d0' := u'.cell0; have d1' := u'.cell1; have f0' := u'.free 0; have f1' := u'.free 1))
    all_goals
      have u9 := (u'.set0 (.int .i64 n)).set1 (.int .i64 s)
      have e0 := u9.cell0
      have e1 := u9.cell1
      have hB7 : Below w.heap.size w _ := (below_drewN hB4 1).trans (OnlyR.below (w := w4.drewN 1) (by assumption) (by omega) (below_drewN hB4 1).size)
      have hB8 : Below w.heap.size w _ := hB7.trans (OnlyR.below o' (by omega) hB7.size)
      go_wp2
      refine bodyPost_ret (v := .tuple #[(.agg #[.int .i64 (n), .int .i64 (s)]), .int .i64 _]) (by simp [results, Try.results53, go_sem, e0, e1]; rfl) rfl ?_
      exact ⟨n, s, _, rfl, (hB8.setCell (Nat.le_refl _) _).setCell (Nat.le_refl _) _⟩

end Go.Proofs.Ytppahekbgbbidac
