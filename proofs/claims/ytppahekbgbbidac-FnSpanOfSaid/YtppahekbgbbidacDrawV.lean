/- Contracts of the Draw functions of chapter 6. -/
import Derived.Test.YtppahekbgbbidacGDraw
import Derived.Deep.Cut
set_option linter.unusedVariables false
namespace Go.Proofs.Ytppahekbgbbidac

set_option maxRecDepth 4000
open Go.ChangeShapes Go.WideShapes Go.ChangeAt Go.RowKit Go.Joins

/-- a turn and two numbers, of a reader -/
def ArcPost (r : Nat) (p : Int) (w : World) (e : Ending) (w' : World) : Prop :=
  ∃ (n s k m q : Int), e = .returned (.tuple #[(.agg #[.int .i64 (n), .int .i64 (s)]), .int .i64 k, .int .i64 m]) ∧ -2 ≤ n ∧ n ≤ 100 ∧ p ≤ q ∧ q ≤ p + 20 ∧ Rd w' r q ∧ OnlyR r w w'

def V2Post (w : World) (e : Ending) (w' : World) : Prop := ∃ (n s k m : Int), e = .returned (.tuple #[(.agg #[.int .i64 (n), .int .i64 (s)]), .int .i64 k, .int .i64 m]) ∧ Below w.heap.size w w'

def V1Post (w : World) (e : Ending) (w' : World) : Prop := ∃ (n s k : Int), e = .returned (.tuple #[(.agg #[.int .i64 (n), .int .i64 (s)]), .int .i64 k]) ∧ Below w.heap.size w w'

def V3Post (w : World) (e : Ending) (w' : World) : Prop := ∃ (n s k m f : Int), e = .returned (.tuple #[(.agg #[.int .i64 (n), .int .i64 (s)]), .int .i64 k, .int .i64 f, .int .i64 m]) ∧ Below w.heap.size w w'

set_option maxHeartbeats 2000000 in
theorem l20Arc_any (r : Nat) (p : Int) (w : World) (hr : Rd w r p) (hp0 : 0 ≤ p) (hp : p ≤ 700000) :
    Calls Try.prog 68 #[.pointer (some ⟨r, 0, none⟩)] w (ArcPost r p w) := by
  have hlt := hr.lt
  have hA : w.heap.size ≠ r := by omega
  go_enter Try.func68, Try.ntmps68
  go_wp2_with fail
  refine (l20Many_any r p _ (hr.alloc _) hp0 (by omega)).mono ?_
  rintro e w3 ⟨n, s, k, q, rfl, n0, n1, s0, s1, k0, k1, q0, q1, hr3, ho3⟩
  have u3 := ho3.two (Two.new _ _ _ _) hA
  have hz3 := u3.lt
  have t4 : Two (w3.alloc (.cells #[.int .i64 n, .int .i64 s] 24)) w3.heap.size (.int .i64 n) (.int .i64 s) 24 := Two.new _ _ _ _
  have u4 := u3.alloc (.cells #[.int .i64 n, .int .i64 s] 24)
  have hr4 := hr3.alloc (.cells #[.int .i64 n, .int .i64 s] 24)
  have o4 : OnlyR r w (w3.alloc (.cells #[.int .i64 n, .int .i64 s] 24)) := (((OnlyR.refl r w).alloc _).trans ho3).alloc _
  have hT : w3.heap.size ≠ r := by have := hr3.lt; omega
  have hTA : w3.heap.size ≠ w.heap.size := by omega
  clear ho3 hr3 u3
  go_wp2_with fail
  generalize w3.alloc (.cells #[.int .i64 n, .int .i64 s] 24) = w4 at *
  generalize w3.heap.size = T at *
  have c0 := t4.cell0
  have c1 := t4.cell1
  have d0 := u4.cell0
  have d1 := u4.cell1
  have f0 := u4.free 0
  have f1 := u4.free 1
  by_cases hn1 : n < 1
  · have hmx : max n 1 = 1 := by omega
    have hif : (if n < 1 then (1 : Int) else n) = 1 := if_pos hn1
    have hw1 : IntKind.i64.wrap (2 : Int) = 2 := IntWalk.i64_in _ (by omega)
    go_region_held3 (fun w' => w'.cell? ⟨T, 0, none⟩ = some (.int .i64 n) ∧ w'.cell? ⟨T, 1, none⟩ = some (.int .i64 s))
      (first | go_keep | exact ⟨c0', c1'⟩ | exact ⟨((t'.set (b := w.heap.size) (Ne.symm hTA) 0 _).set (b := w.heap.size) (Ne.symm hTA) 1 _).cell0, ((t'.set (b := w.heap.size) (Ne.symm hTA) 0 _).set (b := w.heap.size) (Ne.symm hTA) 1 _).cell1⟩)
      (first | (go_at_call 59; refine (pick_any r _ _ _ (by assumption) (by omega) (by omega) (by omega)).mono ?_; rintro e w' ⟨v, rfl, a, b, r', o', s'⟩; have t' := o'.two (by assumption : Two _ T (.int .i64 n) (.int .i64 s) 24) hT; have u' := o'.two (by assumption : Two _ w.heap.size (.int .i64 0) (.int .i64 0) 24) hA; have c0' := t'.cell0; have c1' := t'.cell1; have d0' := u'.cell0; have d1' := u'.cell1; have f0' := u'.free 0; have f1' := u'.free 1))
    all_goals
      have u9 := (u'.set0 (.int .i64 n)).set1 (.int .i64 s)
      have e0 := u9.cell0
      have e1 := u9.cell1
      have hs' := o'.size
      go_wp2
      refine bodyPost_ret (v := .tuple #[(.agg #[.int .i64 (n), .int .i64 (s)]), .int .i64 _, .int .i64 _]) (by simp [results, Try.results68, go_sem, e0, e1]; exact ⟨rfl, rfl⟩) rfl ?_
      refine ⟨n, s, _, _, q + 1 + 1 + 1, rfl, n0, n1, by omega, by omega, ?_, ?_⟩
      · exact (r'.set (b := w.heap.size) hlt 0 _).set (b := w.heap.size) hlt 1 _
      · exact ((((o4.drewN 1).trans (by assumption)).trans (by assumption)).trans o').setAbove (Nat.le_refl _) 0 _ |>.setAbove (Nat.le_refl _) 1 _
  · have hmx : max n 1 = n := by omega
    have hif : (if n < 1 then (1 : Int) else n) = n := if_neg hn1
    have hw1 : IntKind.i64.wrap (n + 1) = n + 1 := IntWalk.i64_in _ (by omega)
    go_region_held3 (fun w' => w'.cell? ⟨T, 0, none⟩ = some (.int .i64 n) ∧ w'.cell? ⟨T, 1, none⟩ = some (.int .i64 s))
      (first | go_keep | exact ⟨c0', c1'⟩ | exact ⟨((t'.set (b := w.heap.size) (Ne.symm hTA) 0 _).set (b := w.heap.size) (Ne.symm hTA) 1 _).cell0, ((t'.set (b := w.heap.size) (Ne.symm hTA) 0 _).set (b := w.heap.size) (Ne.symm hTA) 1 _).cell1⟩)
      (first | (go_at_call 59; refine (pick_any r _ _ _ (by assumption) (by omega) (by omega) (by omega)).mono ?_; rintro e w' ⟨v, rfl, a, b, r', o', s'⟩; have t' := o'.two (by assumption : Two _ T (.int .i64 n) (.int .i64 s) 24) hT; have u' := o'.two (by assumption : Two _ w.heap.size (.int .i64 0) (.int .i64 0) 24) hA; have c0' := t'.cell0; have c1' := t'.cell1; have d0' := u'.cell0; have d1' := u'.cell1; have f0' := u'.free 0; have f1' := u'.free 1))
    all_goals
      have u9 := (u'.set0 (.int .i64 n)).set1 (.int .i64 s)
      have e0 := u9.cell0
      have e1 := u9.cell1
      have hs' := o'.size
      go_wp2
      refine bodyPost_ret (v := .tuple #[(.agg #[.int .i64 (n), .int .i64 (s)]), .int .i64 _, .int .i64 _]) (by simp [results, Try.results68, go_sem, e0, e1]; exact ⟨rfl, rfl⟩) rfl ?_
      refine ⟨n, s, _, _, q + 1 + 1 + 1, rfl, n0, n1, by omega, by omega, ?_, ?_⟩
      · exact (r'.set (b := w.heap.size) hlt 0 _).set (b := w.heap.size) hlt 1 _
      · exact ((((o4.drewN 1).trans (by assumption)).trans (by assumption)).trans o').setAbove (Nat.le_refl _) 0 _ |>.setAbove (Nat.le_refl _) 1 _

set_option maxHeartbeats 1000000 in
theorem drawExcessOf_any (a : Option Addr) (len cap : Nat) (w : World) (hc : CodeIn w a len cap) (hl : len ≤ 1048576) :
    Calls Try.prog 20 #[.slice a len cap] w (V2Post w) := by
  have hb0 : Below w.heap.size w (w.alloc (.cells #[.int .i64 0, .int .i64 0] 24)) := (by repeat (first | exact Below.refl _ _ | assumption | (refine Below.trans ?_ (Below.mono (by assumption) (by first | omega | (simp <;> omega)))) | (refine Below.alloc ?_ (by first | omega | (simp <;> omega)) _) | (refine below_drewN ?_ _) | (refine Below.drew ?_) | (refine Below.setCell ?_ (by first | omega | (simp <;> omega)) _)))
  go_enter Try.func20, Try.ntmps20
  go_wp2_with fail
  refine (l20Open_any a len cap _ (hc.below hb0) hl).mono ?_; rintro e w1 ⟨r, rfl, hr, hr1, hb1⟩
  simp at hr
  have hA : w.heap.size ≠ r := by omega
  have u1 := (Two.new w (.int .i64 0) (.int .i64 0) 24).same (hb1.block _ (by simp))
  have hB1 := hb0.trans (hb1.mono (by simp))
  clear hb1
  go_wp2_with fail
  refine (l20Arc_any r 0 _ hr1 (by omega) (by omega)).mono ?_
  rintro e w3 ⟨n, s, k, m, q, rfl, n0, n1, q0, q1, hr3, ho3⟩
  have u4 := ho3.two u1 hA
  have hB4 := hB1.trans (ho3.below (by omega) hB1.size)
  clear ho3 u1 hr1
  have c0 := u4.cell0
  have c1 := u4.cell1
  have f0 := u4.free 0
  have f1 := u4.free 1
  have u5 := (u4.set0 (.int .i64 n)).set1 (.int .i64 s)
  have e0 := u5.cell0
  have e1 := u5.cell1
  go_wp2
  refine bodyPost_ret (v := .tuple #[(.agg #[.int .i64 (n), .int .i64 (s)]), .int .i64 k, .int .i64 m]) (by simp [results, Try.results20, go_sem, e0, e1]) rfl ?_
  exact ⟨n, s, k, m, rfl, (hB4.setCell (Nat.le_refl _) _).setCell (Nat.le_refl _) _⟩

set_option maxHeartbeats 1000000 in
theorem drawSpanOf_any (a : Option Addr) (len cap : Nat) (w : World) (hc : CodeIn w a len cap) (hl : len ≤ 1048576) :
    Calls Try.prog 23 #[.slice a len cap] w (V1Post w) := by
  have hb0 : Below w.heap.size w (w.alloc (.cells #[.int .i64 0, .int .i64 0] 24)) := (by repeat (first | exact Below.refl _ _ | assumption | (refine Below.trans ?_ (Below.mono (by assumption) (by first | omega | (simp <;> omega)))) | (refine Below.alloc ?_ (by first | omega | (simp <;> omega)) _) | (refine below_drewN ?_ _) | (refine Below.drew ?_) | (refine Below.setCell ?_ (by first | omega | (simp <;> omega)) _)))
  go_enter Try.func23, Try.ntmps23
  go_wp2_with fail
  refine (l20Open_any a len cap _ (hc.below hb0) hl).mono ?_; rintro e w1 ⟨r, rfl, hr, hr1, hb1⟩
  simp at hr
  have hA : w.heap.size ≠ r := by omega
  have u1 := (Two.new w (.int .i64 0) (.int .i64 0) 24).same (hb1.block _ (by simp))
  have hB1 := hb0.trans (hb1.mono (by simp))
  clear hb1
  go_wp2_with fail
  refine (l20Arc_any r 0 _ hr1 (by omega) (by omega)).mono ?_
  rintro e w3 ⟨n, s, k, m, q, rfl, n0, n1, q0, q1, hr3, ho3⟩
  have u3 := ho3.two u1 hA
  have hz3 := u3.lt
  have hB3 := hB1.trans (ho3.below (by omega) hB1.size)
  have t4 : Two (w3.alloc (.cells #[.int .i64 n, .int .i64 s] 24)) w3.heap.size (.int .i64 n) (.int .i64 s) 24 := Two.new _ _ _ _
  have u4 := u3.alloc (.cells #[.int .i64 n, .int .i64 s] 24)
  have hr4 := hr3.alloc (.cells #[.int .i64 n, .int .i64 s] 24)
  have hB4 := hB3.alloc hB3.size (.cells #[.int .i64 n, .int .i64 s] 24)
  have hTA : w3.heap.size ≠ w.heap.size := by omega
  clear ho3 hr3 u3 u1 hr1
  go_upto_region 2 with fail
  generalize w3.alloc (.cells #[.int .i64 n, .int .i64 s] 24) = w4 at *
  generalize w3.heap.size = T at *
  have c0 := t4.cell0
  have c1 := t4.cell1
  have d0 := u4.cell0
  have d1 := u4.cell1
  have f0 := u4.free 0
  have f1 := u4.free 1
  have u5 := (u4.set0 (.int .i64 n)).set1 (.int .i64 s)
  have e0 := u5.cell0
  have e1 := u5.cell1
  go_wp2
  refine bodyPost_ret (v := .tuple #[(.agg #[.int .i64 (n), .int .i64 (s)]), .int .i64 m]) (by simp [results, Try.results23, go_sem, e0, e1]) rfl ?_
  exact ⟨n, s, m, rfl, (hB4.setCell (Nat.le_refl _) _).setCell (Nat.le_refl _) _⟩

set_option maxHeartbeats 2000000 in
theorem drawExcessBy_any (a : Option Addr) (len cap : Nat) (w : World) (hc : CodeIn w a len cap) (hl : len ≤ 1048576) :
    Calls Try.prog 14 #[.slice a len cap] w (V2Post w) := by
  have hb0 : Below w.heap.size w (w.alloc (.cells #[.int .i64 0, .int .i64 0] 24)) := (by repeat (first | exact Below.refl _ _ | assumption | (refine Below.trans ?_ (Below.mono (by assumption) (by first | omega | (simp <;> omega)))) | (refine Below.alloc ?_ (by first | omega | (simp <;> omega)) _) | (refine below_drewN ?_ _) | (refine Below.drew ?_) | (refine Below.setCell ?_ (by first | omega | (simp <;> omega)) _)))
  go_enter Try.func14, Try.ntmps14
  go_wp2_with fail
  refine (l20Open_any a len cap _ (hc.below hb0) hl).mono ?_; rintro e w1 ⟨r, rfl, hr, hr1, hb1⟩
  simp at hr
  have hA : w.heap.size ≠ r := by omega
  have u1 := (Two.new w (.int .i64 0) (.int .i64 0) 24).same (hb1.block _ (by simp))
  have hB1 := hb0.trans (hb1.mono (by simp))
  clear hb1
  go_wp2_with fail
  refine (l20Many_any r 0 _ hr1 (by omega) (by omega)).mono ?_
  rintro e w3 ⟨n, s, k, q, rfl, n0, n1, s0, s1, k0, k1, q0, q1, hr3, ho3⟩
  have u3 := ho3.two u1 hA
  have hz3 := u3.lt
  have hzr := hr3.lt
  have hB3 := hB1.trans (ho3.below (by omega) hB1.size)
  have t4 : Two (w3.alloc (.cells #[.int .i64 n, .int .i64 s] 24)) w3.heap.size (.int .i64 n) (.int .i64 s) 24 := Two.new _ _ _ _
  have u4 := u3.alloc (.cells #[.int .i64 n, .int .i64 s] 24)
  have hr4 := hr3.alloc (.cells #[.int .i64 n, .int .i64 s] 24)
  have hB4 := hB3.alloc hB3.size (.cells #[.int .i64 n, .int .i64 s] 24)
  have hT : w3.heap.size ≠ r := by omega
  have hTA : w3.heap.size ≠ w.heap.size := by omega
  clear ho3 hr3 u3 u1 hr1 hB3
  go_wp2_with fail
  generalize w3.alloc (.cells #[.int .i64 n, .int .i64 s] 24) = w4 at *
  generalize w3.heap.size = T at *
  have c0 := t4.cell0
  have c1 := t4.cell1
  have d0 := u4.cell0
  have d1 := u4.cell1
  have f0 := u4.free 0
  have f1 := u4.free 1
  by_cases h2 : n < 1
  · have hmn : min n 60 = n := by omega
    have hmx : max n 1 = 1 := by omega
    go_region_held3 (fun w' => w'.cell? ⟨T, 0, none⟩ = some (.int .i64 n) ∧ w'.cell? ⟨T, 1, none⟩ = some (.int .i64 s))
      (first | go_keep | exact ⟨c0', c1'⟩ | exact ⟨((t'.set (b := w.heap.size) (Ne.symm hTA) 0 _).set (b := w.heap.size) (Ne.symm hTA) 1 _).cell0, ((t'.set (b := w.heap.size) (Ne.symm hTA) 0 _).set (b := w.heap.size) (Ne.symm hTA) 1 _).cell1⟩)
      (first | (go_at_call 59; refine (pick_any r _ _ _ (by assumption) (by omega) (by omega) (by omega)).mono ?_; rintro e w' ⟨v, rfl, a, b, r', o', s'⟩; have t' := o'.two (by assumption : Two _ T (.int .i64 n) (.int .i64 s) 24) hT; have u' := o'.two (by assumption : Two _ w.heap.size (.int .i64 0) (.int .i64 0) 24) hA; have c0' := t'.cell0; have c1' := t'.cell1; have d0' := u'.cell0; have d1' := u'.cell1; have f0' := u'.free 0; have f1' := u'.free 1))
    all_goals
      have u9 := (u'.set0 (.int .i64 n)).set1 (.int .i64 s)
      have e0 := u9.cell0
      have e1 := u9.cell1
      have hs' := o'.size
      go_wp2
      have hB9 := hB4.trans (((((OnlyR.drewN (OnlyR.refl r _) 1).trans (by assumption)).trans (by assumption)).trans o').below (by omega : w.heap.size ≤ r) hB4.size)
      refine bodyPost_ret (v := .tuple #[(.agg #[.int .i64 (n), .int .i64 (s)]), .int .i64 _, .int .i64 _]) (by simp [results, Try.results14, go_sem, e0, e1]; exact ⟨rfl, rfl⟩) rfl ?_
      exact ⟨n, s, _, _, rfl, (hB9.setCell (Nat.le_refl _) _).setCell (Nat.le_refl _) _⟩
  · have hn1 : ¬ n < 1 := by assumption
    by_cases h4 : 60 < n
    · have hmn : min n 60 = 60 := by omega
      have hmx : max (60 : Int) 1 = 60 := by omega
      go_region_held3 (fun w' => w'.cell? ⟨T, 0, none⟩ = some (.int .i64 n) ∧ w'.cell? ⟨T, 1, none⟩ = some (.int .i64 s))
        (first | go_keep | exact ⟨c0', c1'⟩ | exact ⟨((t'.set (b := w.heap.size) (Ne.symm hTA) 0 _).set (b := w.heap.size) (Ne.symm hTA) 1 _).cell0, ((t'.set (b := w.heap.size) (Ne.symm hTA) 0 _).set (b := w.heap.size) (Ne.symm hTA) 1 _).cell1⟩)
        (first | (go_at_call 59; refine (pick_any r _ _ _ (by assumption) (by omega) (by omega) (by omega)).mono ?_; rintro e w' ⟨v, rfl, a, b, r', o', s'⟩; have t' := o'.two (by assumption : Two _ T (.int .i64 n) (.int .i64 s) 24) hT; have u' := o'.two (by assumption : Two _ w.heap.size (.int .i64 0) (.int .i64 0) 24) hA; have c0' := t'.cell0; have c1' := t'.cell1; have d0' := u'.cell0; have d1' := u'.cell1; have f0' := u'.free 0; have f1' := u'.free 1))
      all_goals
        have u9 := (u'.set0 (.int .i64 n)).set1 (.int .i64 s)
        have e0 := u9.cell0
        have e1 := u9.cell1
        have hs' := o'.size
        go_wp2
        have hB9 := hB4.trans (((((OnlyR.drewN (OnlyR.refl r _) 1).trans (by assumption)).trans (by assumption)).trans o').below (by omega : w.heap.size ≤ r) hB4.size)
        refine bodyPost_ret (v := .tuple #[(.agg #[.int .i64 (n), .int .i64 (s)]), .int .i64 _, .int .i64 _]) (by simp [results, Try.results14, go_sem, e0, e1]; exact ⟨rfl, rfl⟩) rfl ?_
        exact ⟨n, s, _, _, rfl, (hB9.setCell (Nat.le_refl _) _).setCell (Nat.le_refl _) _⟩
    · have hmn : min n 60 = n := by omega
      have hmx : max n 1 = n := by omega
      go_region_held3 (fun w' => w'.cell? ⟨T, 0, none⟩ = some (.int .i64 n) ∧ w'.cell? ⟨T, 1, none⟩ = some (.int .i64 s))
        (first | go_keep | exact ⟨c0', c1'⟩ | exact ⟨((t'.set (b := w.heap.size) (Ne.symm hTA) 0 _).set (b := w.heap.size) (Ne.symm hTA) 1 _).cell0, ((t'.set (b := w.heap.size) (Ne.symm hTA) 0 _).set (b := w.heap.size) (Ne.symm hTA) 1 _).cell1⟩)
        (first | (go_at_call 59; refine (pick_any r _ _ _ (by assumption) (by omega) (by omega) (by omega)).mono ?_; rintro e w' ⟨v, rfl, a, b, r', o', s'⟩; have t' := o'.two (by assumption : Two _ T (.int .i64 n) (.int .i64 s) 24) hT; have u' := o'.two (by assumption : Two _ w.heap.size (.int .i64 0) (.int .i64 0) 24) hA; have c0' := t'.cell0; have c1' := t'.cell1; have d0' := u'.cell0; have d1' := u'.cell1; have f0' := u'.free 0; have f1' := u'.free 1))
      all_goals
        have u9 := (u'.set0 (.int .i64 n)).set1 (.int .i64 s)
        have e0 := u9.cell0
        have e1 := u9.cell1
        have hs' := o'.size
        go_wp2
        have hB9 := hB4.trans (((((OnlyR.drewN (OnlyR.refl r _) 1).trans (by assumption)).trans (by assumption)).trans o').below (by omega : w.heap.size ≤ r) hB4.size)
        refine bodyPost_ret (v := .tuple #[(.agg #[.int .i64 (n), .int .i64 (s)]), .int .i64 _, .int .i64 _]) (by simp [results, Try.results14, go_sem, e0, e1]; exact ⟨rfl, rfl⟩) rfl ?_
        exact ⟨n, s, _, _, rfl, (hB9.setCell (Nat.le_refl _) _).setCell (Nat.le_refl _) _⟩
end Go.Proofs.Ytppahekbgbbidac
