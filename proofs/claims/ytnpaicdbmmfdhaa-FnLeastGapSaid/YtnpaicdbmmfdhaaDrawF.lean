/- Contracts of the Draw functions of chapter 11. -/
import Derived.Test.YtnpaicdbmmfdhaaGDraw
import Derived.Test.YtnpaicdbmmfdhaaNumE
import Derived.Deep.Cut
import Derived.Deep.RegionHeld3
set_option linter.unusedVariables false
namespace Go.Proofs.Ytnpaicdbmmfdhaa

set_option maxRecDepth 4000
open Go.ChangeShapes Go.WideShapes Go.ChangeAt Go.RowKit Go.Joins

/-- a turn and a number -/
def TIPost (w : World) (e : Ending) (w' : World) : Prop := ∃ (n s k : Int), e = .returned (.tuple #[(.agg #[.int .i64 (n), .int .i64 (s)]), .int .i64 k]) ∧ -2 ≤ n ∧ n ≤ 100 ∧ Below w.heap.size w w'

def TIIPost (w : World) (e : Ending) (w' : World) : Prop := ∃ (n s k u : Int), e = .returned (.tuple #[(.agg #[.int .i64 (n), .int .i64 (s)]), .int .i64 k, .int .i64 u]) ∧ Below w.heap.size w w'

set_option maxHeartbeats 1000000 in
theorem drawGreatestGap_any (a : Option Addr) (len cap : Nat) (w : World) (hc : CodeIn w a len cap) (hl : len ≤ 1048576) :
    Calls Try.prog 22 #[.slice a len cap] w (DTIPost w) := by
  have hb0 : Below w.heap.size w (w.alloc (.cells #[.int .i64 0, .int .i64 0] 24)) := (by repeat (first | exact Below.refl _ _ | assumption | (refine Below.trans ?_ (Below.mono (by assumption) (by first | omega | (simp <;> omega)))) | (refine Below.alloc ?_ (by first | omega | (simp <;> omega)) _) | (refine below_drewN ?_ _) | (refine Below.drew ?_) | (refine Below.setCell ?_ (by first | omega | (simp <;> omega)) _)))
  go_enter Try.func22, Try.ntmps22
  go_wp2_with fail
  refine (l20Open_any a len cap _ (hc.below hb0) hl).mono ?_; rintro e w1 ⟨r, rfl, hr, hr1, hb1⟩
  simp at hr
  have hA : w.heap.size ≠ r := by omega
  have u1 := (Two.new w (.int .i64 0) (.int .i64 0) 24).same (hb1.block _ (by simp))
  have hB1 := hb0.trans (hb1.mono (by simp))
  clear hb1
  go_wp2_with fail
  refine (l20Many_any r 0 _ hr1 (by omega) (by omega)).mono ?_
  rintro e w3 ⟨n, s, k, q, rfl, n0, n1, s0, s1, k0, k1, q0, q1, hr3, ho3⟩
  have u4 := ho3.two u1 hA
  have hB4 := hB1.trans (ho3.below (by omega) hB1.size)
  clear ho3 u1 hr1
  have c0 := u4.cell0
  have c1 := u4.cell1
  have f0 := u4.free 0
  have f1 := u4.free 1
  have u5 := (u4.set0 (.int .i64 n)).set1 (.int .i64 s)
  have e0 := u5.cell0
  have e1 := u5.cell1
  go_wp2
  refine bodyPost_ret (v := .tuple #[(.agg #[.int .i64 (n), .int .i64 (s)]), .int .i64 k]) (by simp [results, Try.results22, go_sem, e0, e1]) rfl ?_
  exact ⟨n, s, k, rfl, by omega, by omega, by omega, by omega, by omega, by omega, (hB4.setCell (Nat.le_refl _) _).setCell (Nat.le_refl _) _⟩

set_option maxHeartbeats 1000000 in
theorem drawLeastGap_any (a : Option Addr) (len cap : Nat) (w : World) (hc : CodeIn w a len cap) (hl : len ≤ 1048576) :
    Calls Try.prog 27 #[.slice a len cap] w (DTIPost w) := by
  have hb0 : Below w.heap.size w (w.alloc (.cells #[.int .i64 0, .int .i64 0] 24)) := (by repeat (first | exact Below.refl _ _ | assumption | (refine Below.trans ?_ (Below.mono (by assumption) (by first | omega | (simp <;> omega)))) | (refine Below.alloc ?_ (by first | omega | (simp <;> omega)) _) | (refine below_drewN ?_ _) | (refine Below.drew ?_) | (refine Below.setCell ?_ (by first | omega | (simp <;> omega)) _)))
  go_enter Try.func27, Try.ntmps27
  go_wp2_with fail
  refine (l20Open_any a len cap _ (hc.below hb0) hl).mono ?_; rintro e w1 ⟨r, rfl, hr, hr1, hb1⟩
  simp at hr
  have hA : w.heap.size ≠ r := by omega
  have u1 := (Two.new w (.int .i64 0) (.int .i64 0) 24).same (hb1.block _ (by simp))
  have hB1 := hb0.trans (hb1.mono (by simp))
  clear hb1
  go_wp2_with fail
  refine (l20Many_any r 0 _ hr1 (by omega) (by omega)).mono ?_
  rintro e w3 ⟨n, s, k, q, rfl, n0, n1, s0, s1, k0, k1, q0, q1, hr3, ho3⟩
  have u4 := ho3.two u1 hA
  have hB4 := hB1.trans (ho3.below (by omega) hB1.size)
  clear ho3 u1 hr1
  have c0 := u4.cell0
  have c1 := u4.cell1
  have f0 := u4.free 0
  have f1 := u4.free 1
  have u5 := (u4.set0 (.int .i64 n)).set1 (.int .i64 s)
  have e0 := u5.cell0
  have e1 := u5.cell1
  go_wp2
  refine bodyPost_ret (v := .tuple #[(.agg #[.int .i64 (n), .int .i64 (s)]), .int .i64 k]) (by simp [results, Try.results27, go_sem, e0, e1]) rfl ?_
  exact ⟨n, s, k, rfl, by omega, by omega, by omega, by omega, by omega, by omega, (hB4.setCell (Nat.le_refl _) _).setCell (Nat.le_refl _) _⟩

set_option maxHeartbeats 4000000 in
theorem drawFarOf_any (a : Option Addr) (len cap : Nat) (w : World) (hc : CodeIn w a len cap) (hl : len ≤ 1048576) :
    Calls Try.prog 11 #[.slice a len cap] w (TIPost w) := by
  have hb0 : Below w.heap.size w (w.alloc (.cells #[.int .i64 0, .int .i64 0] 24)) := (by repeat (first | exact Below.refl _ _ | assumption | (refine Below.trans ?_ (Below.mono (by assumption) (by first | omega | (simp <;> omega)))) | (refine Below.alloc ?_ (by first | omega | (simp <;> omega)) _) | (refine below_drewN ?_ _) | (refine Below.drew ?_) | (refine Below.setCell ?_ (by first | omega | (simp <;> omega)) _)))
  go_enter Try.func11, Try.ntmps11
  go_wp2_with fail
  refine (l20Open_any a len cap _ (hc.below hb0) hl).mono ?_; rintro e w1 ⟨r, rfl, hr, hr1, hb1⟩
  simp at hr
  have hA : w.heap.size ≠ r := by omega
  have u1 := (Two.new w (.int .i64 0) (.int .i64 0) 24).same (hb1.block _ (by simp))
  have hB1 := hb0.trans (hb1.mono (by simp))
  clear hb1
  go_wp2_with fail
  refine (l20Many_any r 0 _ hr1 (by omega) (by omega)).mono ?_
  rintro e w3 ⟨n, s, k, q, rfl, n0, n1, s0, s1, k0, k1, q0, q1, hr3, ho3⟩
  have u3 := ho3.two u1 hA
  have hz3 := u3.lt
  have hzr := hr3.lt
  have hB3 := hB1.trans (ho3.below (by omega) hB1.size)
  have t4 : Two (w3.alloc (.cells #[.int .i64 n, .int .i64 s] 24)) w3.heap.size (.int .i64 n) (.int .i64 s) 24 := Two.new _ _ _ _
  have u4 := u3.alloc (.cells #[.int .i64 n, .int .i64 s] 24)
  have hr4 := hr3.alloc (.cells #[.int .i64 n, .int .i64 s] 24)
  have hB4 := hB3.alloc hB3.size (.cells #[.int .i64 n, .int .i64 s] 24)
  have hT : w3.heap.size ≠ r := by omega
  have hTA : w3.heap.size ≠ w.heap.size := by omega
  have c0 := t4.cell0
  have c1 := t4.cell1
  clear ho3 hr3 u3 u1 hr1 hB3
  go_wp2_with fail
  refine (specBasisOf_any n s _).mono ?_; rintro e w5 ⟨v5, rfl, ho5, hb5⟩
  have t5 := t4.below hb5 t4.lt
  have u5 := u4.below hb5 u4.lt
  have hr5 := hr4.below hb5
  have hB5 := hB4.trans (hb5.mono hB4.size)
  have hl8 := basisF_len n s
  generalize basisF n s = D at *
  generalize w3.heap.size = T at *
  obtain ⟨L, hL⟩ : ∃ L, D.length = L := ⟨_, rfl⟩
  have hz45 := hb5.size
  have hr4l := hr4.lt
  have hTl := t4.lt
  rw [hL] at hl8
  clear t4 u4 hr4 hB4 hb5 c0 c1
  by_cases h0 : L = 0
  · have h0' : decide ((0 : Int) < (L : Int)) = false := decide_eq_false (by omega)
    have h0n : decide (0 < L) = false := decide_eq_false (by omega)
    obtain ⟨a5, cap5, rfl, _⟩ := ho5.reads.cells hL
    subst h0
    clear ho5 hL
    have c0 := t5.cell0
    have c1 := t5.cell1
    have d0 := u5.cell0
    have d1 := u5.cell1
    have f0 := u5.free 0
    have f1 := u5.free 1
    go_wp2_with fail
    go_region_held3 (fun w' => w'.cell? ⟨T, 0, none⟩ = some (.int .i64 n) ∧ w'.cell? ⟨T, 1, none⟩ = some (.int .i64 s))
      (first | go_keep | exact ⟨c0', c1'⟩ | exact ⟨((t'.set (b := w.heap.size) (Ne.symm hTA) 0 _).set (b := w.heap.size) (Ne.symm hTA) 1 _).cell0, ((t'.set (b := w.heap.size) (Ne.symm hTA) 0 _).set (b := w.heap.size) (Ne.symm hTA) 1 _).cell1⟩)
      (first | (go_at_call 34; refine (pick_any r _ _ _ (by assumption) (by omega) (by omega) (by omega)).mono ?_; rintro e w' ⟨v', rfl, a', b', r', o', s'⟩; have t' := o'.two (by assumption : Two _ T (.int .i64 n) (.int .i64 s) 24) hT; have u' := o'.two (by assumption : Two _ w.heap.size (.int .i64 0) (.int .i64 0) 24) hA; have c0' := t'.cell0; have c1' := t'.cell1; have d0' := u'.cell0; have d1' := u'.cell1; have f0' := u'.free 0; have f1' := u'.free 1))
    all_goals
      have u9 := (u'.set0 (.int .i64 n)).set1 (.int .i64 s)
      have e0 := u9.cell0
      have e1 := u9.cell1
      have hs' := o'.size
      go_wp2
      have hB9 := hB5.trans (((OnlyR.drewN (OnlyR.refl r _) 1).trans o').below (by omega : w.heap.size ≤ r) hB5.size)
      refine bodyPost_ret (v := .tuple #[(.agg #[.int .i64 (n), .int .i64 (s)]), .int .i64 _]) (by simp [results, Try.results11, go_sem, e0, e1]; rfl) rfl ?_
      exact ⟨n, s, _, rfl, n0, n1, (hB9.setCell (Nat.le_refl _) _).setCell (Nat.le_refl _) _⟩
  · have h0' : (0 : Int) < (L : Int) := by omega
    have h0n : 0 < L := by omega
    obtain ⟨g5, cap5, cur5, rfl, hbg5, hrow5, _, hnc5, _, hcu5⟩ := ho5.rowI (N := L) hL h0
    have lg5 := hrow5.lt
    have hgr : g5 ≠ r := by omega
    have hgA : g5 ≠ w.heap.size := by omega
    have HL5 : Hid (∀ i, i < L → w5.cell? ⟨g5, i, none⟩ = some (.int .i64 (D.getD i 0))) := fun i hi => by rw [hrow5.cell, hcu5 i hi]
    clear ho5 hrow5 hcu5 hL
    go_wp2_with fail
    refine (pick_any r _ _ _ hr5 (by omega) (by omega) (by omega)).mono ?_; rintro e w6 ⟨v, rfl, va, vb, hr6, ho6, hs6⟩
    have t6 := ho6.two t5 hT
    have u6 := ho6.two u5 hA
    have hB6 := hB5.trans (ho6.below (by omega : w.heap.size ≤ r) hB5.size)
    by_cases hv : v = 0
    · have hv' : (v == 0) = true := by rw [hv]; rfl
      subst hv
      have hl6 : ∀ i, i < L → w6.cell? ⟨g5, i, none⟩ = some (.int .i64 (D.getD i 0)) := fun i hi => (ho6.cells.1 g5 i lg5 hgr).trans (HL5.out i hi)
      have lg6 : g5 < w6.heap.size := by omega
      have c0 := t6.cell0
      have c1 := t6.cell1
      have d0 := u6.cell0
      have d1 := u6.cell1
      have f0 := u6.free 0
      have f1 := u6.free 1
      go_wp2_with fail
      go_region_held3 (fun w' => w'.cell? ⟨T, 0, none⟩ = some (.int .i64 n) ∧ w'.cell? ⟨T, 1, none⟩ = some (.int .i64 s) ∧ ∀ j, j < L → w'.cell? ⟨g5, j, none⟩ = some (.int .i64 (D.getD j 0)))
        (first | exact ⟨c0', c1', hl'⟩ | exact ⟨c0, c1, hl6⟩ | exact ⟨((t'.set (b := w.heap.size) (Ne.symm hTA) 0 _).set (b := w.heap.size) (Ne.symm hTA) 1 _).cell0, ((t'.set (b := w.heap.size) (Ne.symm hTA) 0 _).set (b := w.heap.size) (Ne.symm hTA) 1 _).cell1, fun j hj => (World.cell?_of_block ((Below.heap_setCell _ _ _ _ hgA).trans (Below.heap_setCell _ _ _ _ hgA))).trans (hl' j hj)⟩)
        (first | (go_at_call 34; refine (pick_any r _ _ _ (by assumption) (by omega) (by omega) (by omega)).mono ?_; rintro e w' ⟨v', rfl, a', b', r', o', s'⟩; have t' := o'.two (by assumption : Two _ T (.int .i64 n) (.int .i64 s) 24) hT; have u' := o'.two (by assumption : Two _ w.heap.size (.int .i64 0) (.int .i64 0) 24) hA; have hl' : ∀ j, j < L → w'.cell? ⟨g5, j, none⟩ = some (.int .i64 (D.getD j 0)) := fun j hj => (o'.cells.1 g5 j lg6 hgr).trans (hl6 j hj); have hv1 : v' < (L : Int) := (by omega); have hv2 : v'.toNat < L := (by omega); have hv3 := hl' v'.toNat hv2; have c0' := t'.cell0; have c1' := t'.cell1; have d0' := u'.cell0; have d1' := u'.cell1; have f0' := u'.free 0; have f1' := u'.free 1))
      all_goals
        have u9 := (u'.set0 (.int .i64 n)).set1 (.int .i64 s)
        have e0 := u9.cell0
        have e1 := u9.cell1
        have hs' := o'.size
        go_wp2
        have hB9 := hB6.trans (((OnlyR.drewN (OnlyR.refl r _) 1).trans o').below (by omega : w.heap.size ≤ r) hB6.size)
        refine bodyPost_ret (v := .tuple #[(.agg #[.int .i64 (n), .int .i64 (s)]), .int .i64 _]) (by simp [results, Try.results11, go_sem, e0, e1]; rfl) rfl ?_
        exact ⟨n, s, _, rfl, n0, n1, (hB9.setCell (Nat.le_refl _) _).setCell (Nat.le_refl _) _⟩
    · have hv' : (v == 0) = false := by simpa using hv
      have c0 := t6.cell0
      have c1 := t6.cell1
      have d0 := u6.cell0
      have d1 := u6.cell1
      have f0 := u6.free 0
      have f1 := u6.free 1
      go_wp2_with fail
      go_region_held3 (fun w' => w'.cell? ⟨T, 0, none⟩ = some (.int .i64 n) ∧ w'.cell? ⟨T, 1, none⟩ = some (.int .i64 s))
        (first | go_keep | exact ⟨c0', c1'⟩ | exact ⟨((t'.set (b := w.heap.size) (Ne.symm hTA) 0 _).set (b := w.heap.size) (Ne.symm hTA) 1 _).cell0, ((t'.set (b := w.heap.size) (Ne.symm hTA) 0 _).set (b := w.heap.size) (Ne.symm hTA) 1 _).cell1⟩)
        (first | (go_at_call 34; refine (pick_any r _ _ _ (by assumption) (by omega) (by omega) (by omega)).mono ?_; rintro e w' ⟨v', rfl, a', b', r', o', s'⟩; have t' := o'.two (by assumption : Two _ T (.int .i64 n) (.int .i64 s) 24) hT; have u' := o'.two (by assumption : Two _ w.heap.size (.int .i64 0) (.int .i64 0) 24) hA; have c0' := t'.cell0; have c1' := t'.cell1; have d0' := u'.cell0; have d1' := u'.cell1; have f0' := u'.free 0; have f1' := u'.free 1))
      all_goals
        have u9 := (u'.set0 (.int .i64 n)).set1 (.int .i64 s)
        have e0 := u9.cell0
        have e1 := u9.cell1
        have hs' := o'.size
        go_wp2
        have hB9 := hB6.trans (((OnlyR.drewN (OnlyR.refl r _) 1).trans o').below (by omega : w.heap.size ≤ r) hB6.size)
        refine bodyPost_ret (v := .tuple #[(.agg #[.int .i64 (n), .int .i64 (s)]), .int .i64 _]) (by simp [results, Try.results11, go_sem, e0, e1]; rfl) rfl ?_
        exact ⟨n, s, _, rfl, n0, n1, (hB9.setCell (Nat.le_refl _) _).setCell (Nat.le_refl _) _⟩

set_option maxHeartbeats 4000000 in
theorem drawFarFrom_any (a : Option Addr) (len cap : Nat) (w : World) (hc : CodeIn w a len cap) (hl : len ≤ 1048576) :
    Calls Try.prog 18 #[.slice a len cap] w (TIIPost w) := by
  have hb0 : Below w.heap.size w (w.alloc (.cells #[.int .i64 0, .int .i64 0] 24)) := (by repeat (first | exact Below.refl _ _ | assumption | (refine Below.trans ?_ (Below.mono (by assumption) (by first | omega | (simp <;> omega)))) | (refine Below.alloc ?_ (by first | omega | (simp <;> omega)) _) | (refine below_drewN ?_ _) | (refine Below.drew ?_) | (refine Below.setCell ?_ (by first | omega | (simp <;> omega)) _)))
  have u0 : Two (w.alloc (.cells #[.int .i64 0, .int .i64 0] 24)) w.heap.size (.int .i64 0) (.int .i64 0) 24 := Two.new _ _ _ _
  go_enter Try.func18, Try.ntmps18
  go_wp2_with fail
  refine (drawFarOf_any a len cap _ (hc.below hb0) hl).mono ?_; rintro e w1 ⟨n, s, k, rfl, n0, n1, hb1⟩
  have u1 := u0.below hb1 u0.lt
  have hB1 := hb0.trans (hb1.mono hb0.size)
  have hz1 := u1.lt
  have t2 : Two (w1.alloc (.cells #[.int .i64 n, .int .i64 s] 24)) w1.heap.size (.int .i64 n) (.int .i64 s) 24 := Two.new _ _ _ _
  have u2 := u1.alloc (.cells #[.int .i64 n, .int .i64 s] 24)
  have hB2 := hB1.alloc hB1.size (.cells #[.int .i64 n, .int .i64 s] 24)
  clear u0 u1 hb0 hb1 hB1
  go_wp2_with fail
  refine (l20Open_any a len cap _ (hc.below hB2) hl).mono ?_; rintro e w3 ⟨r, rfl, hr, hr3, hb3⟩
  simp at hr
  have t3 := t2.below hb3 t2.lt
  have u3 := u2.below hb3 u2.lt
  have hB3 := hB2.trans (hb3.mono hB2.size)
  have hA : w.heap.size ≠ r := by omega
  have hT : w1.heap.size ≠ r := by omega
  have hTA : w1.heap.size ≠ w.heap.size := by omega
  clear t2 u2 hB2 hb3
  generalize w1.heap.size = T at *
  go_wp2_with fail
  refine (pick_any r _ _ _ hr3 (by omega) (by omega) (by omega)).mono ?_; rintro e w4 ⟨v, rfl, va, vb, hr4, ho4, hs4⟩
  have t4 := ho4.two t3 hT
  have u4 := ho4.two u3 hA
  have hB4 := hB3.trans (ho4.below (by omega : w.heap.size ≤ r) hB3.size)
  clear t3 u3 hB3 hr3 ho4
  have c0 := t4.cell0
  have c1 := t4.cell1
  have d0 := u4.cell0
  have d1 := u4.cell1
  have f0 := u4.free 0
  have f1 := u4.free 1
  obtain ⟨X, hX⟩ : ∃ X : Int, (if n < 1 then (1 : Int) else n) = X := ⟨_, rfl⟩
  have hX1 : max n 1 = X := by rw [← hX]; split <;> omega
  have hX2 : 1 ≤ X ∧ X ≤ 100 := by rw [← hX]; split <;> omega
  have hwX : IntKind.i64.wrap (X + 1) = X + 1 := IntWalk.i64_in _ (by omega)
  go_wp2_with fail
  go_region_held3 (fun w' => w'.cell? ⟨T, 0, none⟩ = some (.int .i64 n) ∧ w'.cell? ⟨T, 1, none⟩ = some (.int .i64 s))
    (first | go_keep | exact ⟨c0', c1'⟩ | exact ⟨((t'.set (b := w.heap.size) (Ne.symm hTA) 0 _).set (b := w.heap.size) (Ne.symm hTA) 1 _).cell0, ((t'.set (b := w.heap.size) (Ne.symm hTA) 0 _).set (b := w.heap.size) (Ne.symm hTA) 1 _).cell1⟩)
    (first | (go_at_call 34; refine (pick_any r _ _ _ (by assumption) (by omega) (by omega) (by omega)).mono ?_; rintro e w' ⟨v', rfl, a', b', r', o', s'⟩; have t' := o'.two (by assumption : Two _ T (.int .i64 n) (.int .i64 s) 24) hT; have u' := o'.two (by assumption : Two _ w.heap.size (.int .i64 0) (.int .i64 0) 24) hA; have c0' := t'.cell0; have c1' := t'.cell1; have d0' := u'.cell0; have d1' := u'.cell1; have f0' := u'.free 0; have f1' := u'.free 1))
  all_goals
    have u9 := (u'.set0 (.int .i64 n)).set1 (.int .i64 s)
    have e0 := u9.cell0
    have e1 := u9.cell1
    have hs' := o'.size
    go_wp2
    have hB9 := hB4.trans ((((OnlyR.drewN (OnlyR.refl r _) 1).trans (by assumption)).trans o').below (by omega : w.heap.size ≤ r) hB4.size)
    refine bodyPost_ret (v := .tuple #[(.agg #[.int .i64 (n), .int .i64 (s)]), .int .i64 k, .int .i64 _]) (by simp [results, Try.results18, go_sem, e0, e1]; rfl) rfl ?_
    exact ⟨n, s, k, _, rfl, (hB9.setCell (Nat.le_refl _) _).setCell (Nat.le_refl _) _⟩
end Go.Proofs.Ytnpaicdbmmfdhaa
