/- Contracts of the Draw functions of chapter 7. -/
import Derived.Test.YtppahekbgbbidacGDraw
import Derived.Deep.Cut
set_option linter.unusedVariables false
namespace Go.Proofs.Ytppahekbgbbidac

set_option maxRecDepth 4000
open Go.ChangeShapes Go.WideShapes Go.ChangeAt Go.RowKit Go.Joins

def W3Post (w : World) (e : Ending) (w' : World) : Prop := ∃ (n s k m : Int), e = .returned (.tuple #[(.agg #[.int .i64 (n), .int .i64 (s)]), .int .i64 k, .int .i64 m]) ∧ -2000 ≤ k ∧ k ≤ 2000 ∧ -3000 ≤ m ∧ m ≤ 3000 ∧ Below w.heap.size w w'

def W2Post (w : World) (e : Ending) (w' : World) : Prop := ∃ (n s k : Int), e = .returned (.tuple #[(.agg #[.int .i64 (n), .int .i64 (s)]), .int .i64 k]) ∧ -2000 ≤ k ∧ k ≤ 2000 ∧ Below w.heap.size w w'

def ArcedPost (r : Nat) (p : Int) (w : World) (e : Ending) (w' : World) : Prop :=
  ∃ (n s k m q : Int), e = .returned (.tuple #[(.agg #[.int .i64 (n), .int .i64 (s)]), .int .i64 k, .int .i64 m]) ∧ -2 ≤ n ∧ n ≤ 100 ∧ -2000 ≤ k ∧ k ≤ 2000 ∧ -3000 ≤ m ∧ m ≤ 3000 ∧ p ≤ q ∧ q ≤ p + 20 ∧ Rd w' r q ∧ OnlyR r w w'

theorem wide_bound (W v2 v3 : Int) (h1 : 0 ≤ W) (h3 : W ≤ 1000) (h4 : 0 ≤ v2) (h5 : v2 < 40 ∨ v2 = 0) (h6 : 0 ≤ v3) (h7 : v3 < 40 ∨ v3 = 0) :
    -2000 ≤ IntKind.i64.wrap (IntKind.i64.wrap (W + IntKind.i64.wrap (IntKind.i64.wrap (v2.tdiv 39) * 60)) - IntKind.i64.wrap (IntKind.i64.wrap (v3.tdiv 39) * 61)) ∧
    IntKind.i64.wrap (IntKind.i64.wrap (W + IntKind.i64.wrap (IntKind.i64.wrap (v2.tdiv 39) * 60)) - IntKind.i64.wrap (IntKind.i64.wrap (v3.tdiv 39) * 61)) ≤ 2000 := by
  rw [Int.tdiv_eq_ediv_of_nonneg h4, Int.tdiv_eq_ediv_of_nonneg h6]
  rw [IntWalk.i64_in (v2 / 39) (by omega), IntWalk.i64_in (v3 / 39) (by omega), IntWalk.i64_in (v2 / 39 * 60) (by omega), IntWalk.i64_in (v3 / 39 * 61) (by omega), IntWalk.i64_in (W + v2 / 39 * 60) (by omega), IntWalk.i64_in _ (by omega)]
  omega

theorem arced_bound (v m v3 : Int) (h1 : 0 ≤ v) (h2 : v < m ∨ v = 0) (h3 : m ≤ 2001) (h6 : 0 ≤ v3) (h7 : v3 < 40 ∨ v3 = 0) :
    -3000 ≤ IntKind.i64.wrap (v - IntKind.i64.wrap (v3.tdiv 39)) ∧ IntKind.i64.wrap (v - IntKind.i64.wrap (v3.tdiv 39)) ≤ 3000 := by
  rw [Int.tdiv_eq_ediv_of_nonneg h6]
  rw [IntWalk.i64_in (v3 / 39) (by omega), IntWalk.i64_in _ (by omega)]
  omega

set_option maxHeartbeats 4000000 in
theorem l20Wide_any (r : Nat) (p : Int) (w : World) (hr : Rd w r p) (hp0 : 0 ≤ p) (hp : p ≤ 800000) :
    Calls Try.prog 75 #[.pointer (some ⟨r, 0, none⟩)] w (TurnIntPost r p w) := by
  have hlt := hr.lt
  have hA : w.heap.size ≠ r := by omega
  go_enter Try.func75, Try.ntmps75
  go_wp2_with fail
  refine (l20Turn_any r p 12 _ (hr.alloc _) hp0 (by omega) (by omega)).mono ?_
  rintro e w1 ⟨n, s, q, rfl, n0, n1, s0, s1, q0, q1, hr1, ho1⟩
  have u1 := ho1.two (Two.new _ _ _ _) hA
  have hz1 := ho1.size
  simp at hz1
  have hTl : w.heap.size < w1.heap.size := by omega
  have t2 : Two (w1.alloc (Obj.cells #[Value.int IntKind.i64 n, Value.int IntKind.i64 s] 24)) w1.heap.size (.int .i64 n) (.int .i64 s) 24 := Two.new _ _ _ _
  have u2 := u1.alloc (Obj.cells #[Value.int IntKind.i64 n, Value.int IntKind.i64 s] 24)
  have r2 := hr1.alloc (Obj.cells #[Value.int IntKind.i64 n, Value.int IntKind.i64 s] 24)
  have o2 : OnlyR r w (w1.alloc (Obj.cells #[Value.int IntKind.i64 n, Value.int IntKind.i64 s] 24)) := (((OnlyR.refl r w).alloc _).trans ho1).alloc _
  have hT : w1.heap.size ≠ r := by have := hr1.lt; omega
  have hTA : w1.heap.size ≠ w.heap.size := by omega
  clear u1 hr1 ho1
  obtain ⟨m, hm⟩ : ∃ m, max n 1 = m := ⟨_, rfl⟩
  obtain ⟨h, hh⟩ : ∃ h, min m 5 = h := ⟨_, rfl⟩
  have hm1 : 1 ≤ m := by omega
  have hm2 : m ≤ 100 := by omega
  have hh1 : 1 ≤ h := by omega
  have hh2 : h ≤ 5 := by omega
  have hif : (if n < 1 then (1 : Int) else n) = m := by split <;> omega
  have hif2 : (if 5 < m then (5 : Int) else m) = h := by split <;> omega
  have hif3 : (if m < 5 then m else (5 : Int)) = h := by split <;> omega
  go_upto_region 2 with fail
  generalize w1.alloc (Obj.cells #[Value.int IntKind.i64 n, Value.int IntKind.i64 s] 24) = w2 at *
  generalize w1.heap.size = T at *
  have c0 := t2.cell0
  have c1 := t2.cell1
  go_wp2_with fail
  refine (pick_any r q m _ r2 (by omega) (by omega) (by omega)).mono ?_; rintro e w3 ⟨v1, rfl, a3, b3, r3, o3, s3⟩
  have t3 := o3.two t2 hT
  have u3 := o3.two u2 hA
  have o3' := o2.trans o3
  have wr1 : IntKind.i64.wrap (1 + v1) = 1 + v1 := IntWalk.i64_in _ (by omega)
  clear t2 u2 r2 o2 o3 c0 c1
  have c0 := t3.cell0
  have c1 := t3.cell1
  go_wp2_with fail
  refine (pick_any r _ 3 _ r3 (by omega) (by omega) (by omega)).mono ?_; rintro e w4 ⟨v2, rfl, a4, b4, r4, o4, s4⟩
  have t4 := o4.two t3 hT
  have u4 := o4.two u3 hA
  have o4' := o3'.trans o4
  clear t3 u3 r3 o3' o4 c0 c1
  have c0 := t4.cell0
  have c1 := t4.cell1
  by_cases h2 : v2 = 0
  · subst h2
    go_wp2_with fail
    refine (pick_any r _ h _ r4 (by omega) (by omega) (by omega)).mono ?_; rintro e w5 ⟨v3, rfl, a5, b5, r5, o5, s5⟩
    have t5 := o5.two t4 hT
    have u5 := o5.two u4 hA
    have o9 := o4'.trans o5
    have wr2 : IntKind.i64.wrap (1 + v3) = 1 + v3 := IntWalk.i64_in _ (by omega)
    clear t4 u4 r4 o4' o5 c0 c1
    have c0 := t5.cell0
    have c1 := t5.cell1
    have d0 := u5.cell0
    have d1 := u5.cell1
    have f0 := u5.free 0
    have f1 := u5.free 1
    obtain ⟨W, hW⟩ : ∃ W, 1 + v3 = W := ⟨_, rfl⟩
    rw [hW] at wr2
    have W0 : 0 ≤ W := by omega
    have W1 : W ≤ 1000 := by omega
    clear hm hh hif hif2 hif3
    go_upto_region 5 with fail
    go_region_held3 (fun w' => w'.cell? ⟨T, 0, none⟩ = some (.int .i64 n) ∧ w'.cell? ⟨T, 1, none⟩ = some (.int .i64 s))
      (first | go_keep | exact ⟨c0', c1'⟩ | exact ⟨((t'.set (b := w.heap.size) (Ne.symm hTA) 0 _).set (b := w.heap.size) (Ne.symm hTA) 1 _).cell0, ((t'.set (b := w.heap.size) (Ne.symm hTA) 0 _).set (b := w.heap.size) (Ne.symm hTA) 1 _).cell1⟩)
      (first | (go_at_call 59; refine (pick_any r _ _ _ (by assumption) (by omega) (by omega) (by omega)).mono ?_; rintro e w' ⟨v, rfl, a, b, r', o', s'⟩; have t' := o'.two (by assumption : Two _ T (.int .i64 n) (.int .i64 s) 24) hT; have u' := o'.two (by assumption : Two _ w.heap.size (.int .i64 0) (.int .i64 0) 24) hA; have c0' := t'.cell0; have c1' := t'.cell1; have d0' := u'.cell0; have d1' := u'.cell1; have f0' := u'.free 0; have f1' := u'.free 1))
    all_goals
      have u9 := (u'.set0 (.int .i64 n)).set1 (.int .i64 s)
      have e0 := u9.cell0
      have e1 := u9.cell1
      have hs' := o'.size
      go_wp2
      refine bodyPost_ret (v := .tuple #[(.agg #[.int .i64 (n), .int .i64 (s)]), .int .i64 _]) (by simp [results, Try.results75, go_sem, e0, e1]; rfl) rfl ?_
      refine ⟨n, s, _, q + 1 + 1 + 1 + 1 + 1, rfl, by omega, by omega, by omega, by omega, ?_, ?_, ?_, ?_, ?_, ?_⟩
      · refine (wide_bound W _ _ ?_ ?_ ?_ ?_ ?_ ?_).1 <;> first | assumption | omega
      · refine (wide_bound W _ _ ?_ ?_ ?_ ?_ ?_ ?_).2 <;> first | assumption | omega
      rotate_left 2
      · exact (r'.set (b := w.heap.size) hlt 0 _).set (b := w.heap.size) hlt 1 _
      · exact (((o9.drewN 1).trans (by assumption)).trans o').setAbove (Nat.le_refl _) 0 _ |>.setAbove (Nat.le_refl _) 1 _
      · omega
      · omega
  · have h2' : (v2 == 0) = false := by simpa using h2
    have o9 := o4'
    have d0 := u4.cell0
    have d1 := u4.cell1
    have f0 := u4.free 0
    have f1 := u4.free 1
    obtain ⟨W, hW⟩ : ∃ W, 1 + v1 = W := ⟨_, rfl⟩
    rw [hW] at wr1
    have W0 : 0 ≤ W := by omega
    have W1 : W ≤ 1000 := by omega
    clear hm hh hif hif2 hif3
    go_upto_region 5 with fail
    go_region_held3 (fun w' => w'.cell? ⟨T, 0, none⟩ = some (.int .i64 n) ∧ w'.cell? ⟨T, 1, none⟩ = some (.int .i64 s))
      (first | go_keep | exact ⟨c0', c1'⟩ | exact ⟨((t'.set (b := w.heap.size) (Ne.symm hTA) 0 _).set (b := w.heap.size) (Ne.symm hTA) 1 _).cell0, ((t'.set (b := w.heap.size) (Ne.symm hTA) 0 _).set (b := w.heap.size) (Ne.symm hTA) 1 _).cell1⟩)
      (first | (go_at_call 59; refine (pick_any r _ _ _ (by assumption) (by omega) (by omega) (by omega)).mono ?_; rintro e w' ⟨v, rfl, a, b, r', o', s'⟩; have t' := o'.two (by assumption : Two _ T (.int .i64 n) (.int .i64 s) 24) hT; have u' := o'.two (by assumption : Two _ w.heap.size (.int .i64 0) (.int .i64 0) 24) hA; have c0' := t'.cell0; have c1' := t'.cell1; have d0' := u'.cell0; have d1' := u'.cell1; have f0' := u'.free 0; have f1' := u'.free 1))
    all_goals
      have u9 := (u'.set0 (.int .i64 n)).set1 (.int .i64 s)
      have e0 := u9.cell0
      have e1 := u9.cell1
      have hs' := o'.size
      go_wp2
      refine bodyPost_ret (v := .tuple #[(.agg #[.int .i64 (n), .int .i64 (s)]), .int .i64 _]) (by simp [results, Try.results75, go_sem, e0, e1]; rfl) rfl ?_
      refine ⟨n, s, _, q + 1 + 1 + 1 + 1, rfl, by omega, by omega, by omega, by omega, ?_, ?_, ?_, ?_, ?_, ?_⟩
      · refine (wide_bound W _ _ ?_ ?_ ?_ ?_ ?_ ?_).1 <;> first | assumption | omega
      · refine (wide_bound W _ _ ?_ ?_ ?_ ?_ ?_ ?_).2 <;> first | assumption | omega
      rotate_left 2
      · exact (r'.set (b := w.heap.size) hlt 0 _).set (b := w.heap.size) hlt 1 _
      · exact (((o9.drewN 1).trans (by assumption)).trans o').setAbove (Nat.le_refl _) 0 _ |>.setAbove (Nat.le_refl _) 1 _
      · omega
      · omega

set_option maxHeartbeats 1000000 in
theorem drawReturnsBy_any (a : Option Addr) (len cap : Nat) (w : World) (hc : CodeIn w a len cap) (hl : len ≤ 1048576) :
    Calls Try.prog 32 #[.slice a len cap] w (W2Post w) := by
  have hb0 : Below w.heap.size w (w.alloc (.cells #[.int .i64 0, .int .i64 0] 24)) := (by repeat (first | exact Below.refl _ _ | assumption | (refine Below.trans ?_ (Below.mono (by assumption) (by first | omega | (simp <;> omega)))) | (refine Below.alloc ?_ (by first | omega | (simp <;> omega)) _) | (refine below_drewN ?_ _) | (refine Below.drew ?_) | (refine Below.setCell ?_ (by first | omega | (simp <;> omega)) _)))
  go_enter Try.func32, Try.ntmps32
  go_wp2_with fail
  refine (l20Open_any a len cap _ (hc.below hb0) hl).mono ?_; rintro e w1 ⟨r, rfl, hr, hr1, hb1⟩
  simp at hr
  have hA : w.heap.size ≠ r := by omega
  have u1 := (Two.new w (.int .i64 0) (.int .i64 0) 24).same (hb1.block _ (by simp))
  have hB1 := hb0.trans (hb1.mono (by simp))
  clear hb1
  go_wp2_with fail
  refine (l20Wide_any r 0 _ hr1 (by omega) (by omega)).mono ?_
  rintro e w3 ⟨n, s, k, q, rfl, n0, n1, s0, s1, k0, k1, q0, q1, hr3, ho3⟩
  have u4 := ho3.two u1 hA
  have hB4 := hB1.trans (ho3.below (by omega) hB1.size)
  clear ho3 u1 hr1
  have c0 := u4.cell0
  have c1 := u4.cell1
  have f0 := u4.free 0
  have f1 := u4.free 1
  have u5 := (u4.set0 (.int .i64 n)).set1 (.int .i64 s)
  have e0 := u5.cell0
  have e1 := u5.cell1
  go_wp2
  refine bodyPost_ret (v := .tuple #[(.agg #[.int .i64 (n), .int .i64 (s)]), .int .i64 k]) (by simp [results, Try.results32, go_sem, e0, e1]) rfl ?_
  exact ⟨n, s, k, rfl, k0, k1, (hB4.setCell (Nat.le_refl _) _).setCell (Nat.le_refl _) _⟩
end Go.Proofs.Ytppahekbgbbidac
