/- Contracts of the Draw functions of chapter 12. -/
import Derived.Test.YtcfhjkaemhhndaaGDraw
import Derived.Test.YtcfhjkaemhhndaaGSclS
import Derived.Test.YtcfhjkaemhhndaaRev
import Derived.Deep.Cut
import Derived.Deep.RegionHeld3
set_option linter.unusedVariables false
namespace Go.Proofs.Ytcfhjkaemhhndaa

set_option maxRecDepth 4000
open Go.ChangeShapes Go.WideShapes Go.ChangeAt Go.RowKit Go.Joins

/-- a turn and a number -/
def STIPost (w : World) (e : Ending) (w' : World) : Prop := ∃ (n s k : Int), e = .returned (.tuple #[(.agg #[.int .i64 (n), .int .i64 (s)]), .int .i64 k]) ∧ -2 ≤ n ∧ n ≤ 100 ∧ -2000 ≤ k ∧ k ≤ 2000 ∧ Below w.heap.size w w'

def STIIPost (w : World) (e : Ending) (w' : World) : Prop := ∃ (n s k u : Int), e = .returned (.tuple #[(.agg #[.int .i64 (n), .int .i64 (s)]), .int .i64 k, .int .i64 u]) ∧ -2 ≤ n ∧ n ≤ 100 ∧ -2000 ≤ k ∧ k ≤ 2000 ∧ Below w.heap.size w w'

theorem scalesF_bd (n s : Int) : (scalesF n s).length ≤ 61 ∧ ∀ i, i < (scalesF n s).length → 2 ≤ (scalesF n s).getD i 0 ∧ (scalesF n s).getD i 0 ≤ 60 := by
  by_cases ht : tok n s = true
  · have hb := tok_bd ht
    obtain ⟨_, f2, f3⟩ := scUp_facts n s (n.toNat + 1)
    refine ⟨by unfold scalesF; omega, fun i hi => ?_⟩
    have := f2 _ (getD_mem' (xs := scUp n s (n.toNat + 1)) 0 hi)
    unfold scalesF
    omega
  · rw [scalesF_no ht]
    exact ⟨by simp, fun i hi => by simp at hi⟩

set_option maxHeartbeats 1000000 in
theorem drawScaleSizes_any (a : Option Addr) (len cap : Nat) (w : World) (hc : CodeIn w a len cap) (hl : len ≤ 1048576) :
    Calls Try.prog 20 #[.slice a len cap] w (DTPost w) := by
  have hb0 : Below w.heap.size w (w.alloc (.cells #[.int .i64 0, .int .i64 0] 24)) := (by repeat (first | exact Below.refl _ _ | assumption | (refine Below.trans ?_ (Below.mono (by assumption) (by first | omega | (simp <;> omega)))) | (refine Below.alloc ?_ (by first | omega | (simp <;> omega)) _) | (refine below_drewN ?_ _) | (refine Below.drew ?_) | (refine Below.setCell ?_ (by first | omega | (simp <;> omega)) _)))
  go_enter Try.func20, Try.ntmps20
  go_wp2_with fail
  refine (l20Open_any a len cap _ (hc.below hb0) hl).mono ?_; rintro e w1 ⟨r, rfl, hr, hr1, hb1⟩
  simp at hr
  have hA : w.heap.size ≠ r := by omega
  have u1 := (Two.new w (.int .i64 0) (.int .i64 0) 24).same (hb1.block _ (by simp))
  have hB1 := hb0.trans (hb1.mono (by simp))
  clear hb1
  go_wp2_with fail
  refine (l20Turn_any r 0 9 _ hr1 (by omega) (by omega) (by omega)).mono ?_
  rintro e w3 ⟨n, s, q, rfl, n0, n1, s0, s1, q0, q1, hr3, ho3⟩
  have u4 := ho3.two u1 hA
  have hB4 := hB1.trans (ho3.below (by omega) hB1.size)
  clear ho3 u1 hr1
  have c0 := u4.cell0
  have c1 := u4.cell1
  have f0 := u4.free 0
  have f1 := u4.free 1
  have u5 := (u4.set0 (.int .i64 n)).set1 (.int .i64 s)
  have e0 := u5.cell0
  have e1 := u5.cell1
  go_wp2
  refine bodyPost_ret (v := (.agg #[.int .i64 (n), .int .i64 (s)])) (by simp [results, Try.results20, go_sem, e0, e1]) rfl ?_
  exact ⟨n, s, rfl, by omega, by omega, by omega, by omega, (hB4.setCell (Nat.le_refl _) _).setCell (Nat.le_refl _) _⟩

set_option maxHeartbeats 4000000 in
theorem l20Scale_any (r : Nat) (p : Int) (w : World) (hr : Rd w r p) (hp0 : 0 ≤ p) (hp : p ≤ 800000) :
    Calls Try.prog 37 #[.pointer (some ⟨r, 0, none⟩)] w fun e w' => ∃ (n s k q : Int), e = .returned (.tuple #[(.agg #[.int .i64 (n), .int .i64 (s)]), .int .i64 k]) ∧ -2 ≤ n ∧ n ≤ 100 ∧ -2000 ≤ k ∧ k ≤ 2000 ∧ p ≤ q ∧ q ≤ p + 12 ∧ Rd w' r q ∧ OnlyR r w w' := by
  have hlt := hr.lt
  have hA : w.heap.size ≠ r := by omega
  go_enter Try.func37, Try.ntmps37
  go_wp2_with fail
  refine (l20Many_any r p _ (hr.alloc _) (by omega) (by omega)).mono ?_
  rintro e w3 ⟨n, s, k, q, rfl, n0, n1, s0, s1, k0, k1, q0, q1, hr3, ho3⟩
  have u3 := ho3.two (Two.new w (.int .i64 0) (.int .i64 0) 24) hA
  have hz3 := u3.lt
  have hzr := hr3.lt
  have o3 : OnlyR r w w3 := ((OnlyR.refl r w).alloc _).trans ho3
  have t4 : Two (w3.alloc (.cells #[.int .i64 n, .int .i64 s] 24)) w3.heap.size (.int .i64 n) (.int .i64 s) 24 := Two.new _ _ _ _
  have u4 := u3.alloc (.cells #[.int .i64 n, .int .i64 s] 24)
  have hr4 := hr3.alloc (.cells #[.int .i64 n, .int .i64 s] 24)
  have o4 := o3.alloc (.cells #[.int .i64 n, .int .i64 s] 24)
  have hT : w3.heap.size ≠ r := by omega
  have hTA : w3.heap.size ≠ w.heap.size := by omega
  have c0 := t4.cell0
  have c1 := t4.cell1
  clear ho3 hr3 u3 o3
  go_wp2_with fail
  refine (specScaleSizes_any n s _).mono ?_; rintro e w5 ⟨v5, rfl, ho5, hb5⟩
  have t5 := t4.below hb5 t4.lt
  have u5 := u4.below hb5 u4.lt
  have hr5 := hr4.below hb5
  have o5 := o4.ofBelow hb5
  obtain ⟨hl8, hx8⟩ := scalesF_bd n s
  generalize scalesF n s = D at *
  generalize w3.heap.size = T at *
  obtain ⟨L, hL⟩ : ∃ L, D.length = L := ⟨_, rfl⟩
  have hz45 := hb5.size
  have hr4l := hr4.lt
  have hTl := t4.lt
  rw [hL] at hl8 hx8
  have HX := Lib.hid hx8
  clear t4 u4 hr4 o4 hb5 c0 c1 hx8
  by_cases h0 : L = 0
  · have h0' : decide ((0 : Int) < (L : Int)) = false := decide_eq_false (by omega)
    have h0n : decide (0 < L) = false := decide_eq_false (by omega)
    obtain ⟨a5, cap5, rfl, _⟩ := ho5.reads.cells hL
    subst h0
    clear ho5 hL
    have c0 := t5.cell0
    have c1 := t5.cell1
    have d0 := u5.cell0
    have d1 := u5.cell1
    have f0 := u5.free 0
    have f1 := u5.free 1
    have u9 := (u5.set0 (.int .i64 n)).set1 (.int .i64 s)
    have e0 := u9.cell0
    have e1 := u9.cell1
    go_wp2
    refine bodyPost_ret (v := .tuple #[(.agg #[.int .i64 (n), .int .i64 (s)]), .int .i64 k]) (by simp [results, Try.results37, go_sem, e0, e1]) rfl ?_
    exact ⟨n, s, k, q, rfl, n0, n1, k0, k1, by omega, by omega, (hr5.set (b := w.heap.size) hlt 0 _).set (b := w.heap.size) hlt 1 _, (o5.setAbove (Nat.le_refl _) 0 _).setAbove (Nat.le_refl _) 1 _⟩
  · have h0' : (0 : Int) < (L : Int) := by omega
    have h0n : 0 < L := by omega
    have lv5 := World.ownsRow.lt ho5
    obtain ⟨g5, cap5, cur5, rfl, hbg5, hrow5, _, hnc5, _, hcu5⟩ := ho5.rowI (N := L) hL h0
    have lg5 := hrow5.lt
    have hgr : g5 ≠ r := by omega
    have hgA : g5 ≠ w.heap.size := by omega
    have HL5 : Hid (∀ i, i < L → w5.cell? ⟨g5, i, none⟩ = some (.int .i64 (D.getD i 0))) := fun i hi => by rw [hrow5.cell, hcu5 i hi]
    clear ho5 hrow5 hcu5 hL lv5
    go_wp2_with fail
    refine (pick_any r _ _ _ hr5 (by omega) (by omega) (by omega)).mono ?_; rintro e w6 ⟨v, rfl, va, vb, hr6, ho6, hs6⟩
    have t6 := ho6.two t5 hT
    have u6 := ho6.two u5 hA
    have o6 := o5.trans ho6
    by_cases hv : 0 < v
    · have hl6 : ∀ i, i < L → w6.cell? ⟨g5, i, none⟩ = some (.int .i64 (D.getD i 0)) := fun i hi => (ho6.cells.1 g5 i lg5 hgr).trans (HL5.out i hi)
      have lg6 : g5 < w6.heap.size := by omega
      have c0 := t6.cell0
      have c1 := t6.cell1
      have d0 := u6.cell0
      have d1 := u6.cell1
      have f0 := u6.free 0
      have f1 := u6.free 1
      go_wp2_with fail
      go_region_held3 (fun w' => w'.cell? ⟨T, 0, none⟩ = some (.int .i64 n) ∧ w'.cell? ⟨T, 1, none⟩ = some (.int .i64 s) ∧ ∀ j, j < L → w'.cell? ⟨g5, j, none⟩ = some (.int .i64 (D.getD j 0)))
        (first | exact ⟨c0', c1', hl'⟩ | exact ⟨c0, c1, hl6⟩ | exact ⟨((t'.set (b := w.heap.size) (Ne.symm hTA) 0 _).set (b := w.heap.size) (Ne.symm hTA) 1 _).cell0, ((t'.set (b := w.heap.size) (Ne.symm hTA) 0 _).set (b := w.heap.size) (Ne.symm hTA) 1 _).cell1, fun j hj => (World.cell?_of_block ((Below.heap_setCell _ _ _ _ hgA).trans (Below.heap_setCell _ _ _ _ hgA))).trans (hl' j hj)⟩)
        (first | (go_at_call 52; refine (pick_any r _ _ _ (by assumption) (by omega) (by omega) (by omega)).mono ?_; rintro e w' ⟨v', rfl, a', b', r', o', s'⟩; have t' := o'.two (by assumption : Two _ T (.int .i64 n) (.int .i64 s) 24) hT; have u' := o'.two (by assumption : Two _ w.heap.size (.int .i64 0) (.int .i64 0) 24) hA; have hl' : ∀ j, j < L → w'.cell? ⟨g5, j, none⟩ = some (.int .i64 (D.getD j 0)) := fun j hj => (o'.cells.1 g5 j lg6 hgr).trans (hl6 j hj); have hv1 : v' < (L : Int) := (by omega); have hv2 : v'.toNat < L := (by omega); have hv3 := hl' v'.toNat hv2; have c0' := t'.cell0; have c1' := t'.cell1; have d0' := u'.cell0; have d1' := u'.cell1; have f0' := u'.free 0; have f1' := u'.free 1))
      all_goals
        have u9 := (u'.set0 (.int .i64 n)).set1 (.int .i64 s)
        have e0 := u9.cell0
        have e1 := u9.cell1
        have hs' := o'.size
        have hxv := HX.out v'.toNat hv2
        have hxw := hxv
        rw [List.getD_eq_getElem?_getD] at hxw
        go_wp2
        refine bodyPost_ret (v := .tuple #[(.agg #[.int .i64 (n), .int .i64 (s)]), .int .i64 _]) (by simp [results, Try.results37, go_sem, e0, e1]; rfl) rfl ?_
        exact ⟨n, s, _, _, rfl, n0, n1, by omega, by omega, by omega, by omega, (r'.set (b := w.heap.size) hlt 0 _).set (b := w.heap.size) hlt 1 _, (((o6.drewN 1).trans o').setAbove (Nat.le_refl _) 0 _).setAbove (Nat.le_refl _) 1 _⟩
    · have hv' : decide (0 < v) = false := decide_eq_false hv
      have c0 := t6.cell0
      have c1 := t6.cell1
      have d0 := u6.cell0
      have d1 := u6.cell1
      have f0 := u6.free 0
      have f1 := u6.free 1
      have u9 := (u6.set0 (.int .i64 n)).set1 (.int .i64 s)
      have e0 := u9.cell0
      have e1 := u9.cell1
      go_wp2
      refine bodyPost_ret (v := .tuple #[(.agg #[.int .i64 (n), .int .i64 (s)]), .int .i64 k]) (by simp [results, Try.results37, go_sem, e0, e1]) rfl ?_
      exact ⟨n, s, k, _, rfl, n0, n1, k0, k1, by omega, by omega, (hr6.set (b := w.heap.size) hlt 0 _).set (b := w.heap.size) hlt 1 _, (o6.setAbove (Nat.le_refl _) 0 _).setAbove (Nat.le_refl _) 1 _⟩

set_option maxHeartbeats 1000000 in
theorem drawScaleOk_any (a : Option Addr) (len cap : Nat) (w : World) (hc : CodeIn w a len cap) (hl : len ≤ 1048576) :
    Calls Try.prog 11 #[.slice a len cap] w (STIPost w) := by
  have hb0 : Below w.heap.size w (w.alloc (.cells #[.int .i64 0, .int .i64 0] 24)) := (by repeat (first | exact Below.refl _ _ | assumption | (refine Below.trans ?_ (Below.mono (by assumption) (by first | omega | (simp <;> omega)))) | (refine Below.alloc ?_ (by first | omega | (simp <;> omega)) _) | (refine below_drewN ?_ _) | (refine Below.drew ?_) | (refine Below.setCell ?_ (by first | omega | (simp <;> omega)) _)))
  go_enter Try.func11, Try.ntmps11
  go_wp2_with fail
  refine (l20Open_any a len cap _ (hc.below hb0) hl).mono ?_; rintro e w1 ⟨r, rfl, hr, hr1, hb1⟩
  simp at hr
  have hA : w.heap.size ≠ r := by omega
  have u1 := (Two.new w (.int .i64 0) (.int .i64 0) 24).same (hb1.block _ (by simp))
  have hB1 := hb0.trans (hb1.mono (by simp))
  clear hb1
  go_wp2_with fail
  refine (l20Scale_any r 0 _ hr1 (by omega) (by omega)).mono ?_
  rintro e w3 ⟨n, s, k, q, rfl, n0, n1, k0, k1, q0, q1, hr3, ho3⟩
  have u4 := ho3.two u1 hA
  have hB4 := hB1.trans (ho3.below (by omega) hB1.size)
  clear ho3 u1 hr1
  have c0 := u4.cell0
  have c1 := u4.cell1
  have f0 := u4.free 0
  have f1 := u4.free 1
  have u5 := (u4.set0 (.int .i64 n)).set1 (.int .i64 s)
  have e0 := u5.cell0
  have e1 := u5.cell1
  go_wp2
  refine bodyPost_ret (v := .tuple #[(.agg #[.int .i64 (n), .int .i64 (s)]), .int .i64 k]) (by simp [results, Try.results11, go_sem, e0, e1]) rfl ?_
  exact ⟨n, s, k, rfl, by omega, by omega, by omega, by omega, (hB4.setCell (Nat.le_refl _) _).setCell (Nat.le_refl _) _⟩

set_option maxHeartbeats 4000000 in
theorem drawSizesOf_any (a : Option Addr) (len cap : Nat) (w : World) (hc : CodeIn w a len cap) (hl : len ≤ 1048576) :
    Calls Try.prog 27 #[.slice a len cap] w (STIIPost w) := by
  have hb0 : Below w.heap.size w (w.alloc (.cells #[.int .i64 0, .int .i64 0] 24)) := (by repeat (first | exact Below.refl _ _ | assumption | (refine Below.trans ?_ (Below.mono (by assumption) (by first | omega | (simp <;> omega)))) | (refine Below.alloc ?_ (by first | omega | (simp <;> omega)) _) | (refine below_drewN ?_ _) | (refine Below.drew ?_) | (refine Below.setCell ?_ (by first | omega | (simp <;> omega)) _)))
  go_enter Try.func27, Try.ntmps27
  go_wp2_with fail
  refine (l20Open_any a len cap _ (hc.below hb0) hl).mono ?_; rintro e w1 ⟨r, rfl, hr, hr1, hb1⟩
  simp at hr
  have hA : w.heap.size ≠ r := by omega
  have u1 := (Two.new w (.int .i64 0) (.int .i64 0) 24).same (hb1.block _ (by simp))
  have hB1 := hb0.trans (hb1.mono (by simp))
  clear hb1
  go_wp2_with fail
  refine (l20Scale_any r 0 _ hr1 (by omega) (by omega)).mono ?_
  rintro e w3 ⟨n, s, k, q, rfl, n0, n1, k0, k1, q0, q1, hr3, ho3⟩
  go_wp2_with fail
  have u3 := ho3.two u1 hA
  have hz3 := u3.lt
  have hzr := hr3.lt
  have hB3 := hB1.trans (ho3.below (by omega) hB1.size)
  have t4 : Two (w3.alloc (.cells #[.int .i64 n, .int .i64 s] 24)) w3.heap.size (.int .i64 n) (.int .i64 s) 24 := Two.new _ _ _ _
  have u4 := u3.alloc (.cells #[.int .i64 n, .int .i64 s] 24)
  have hr4 := hr3.alloc (.cells #[.int .i64 n, .int .i64 s] 24)
  have hB4 := hB3.alloc hB3.size (.cells #[.int .i64 n, .int .i64 s] 24)
  have hT : w3.heap.size ≠ r := by omega
  have hTA : w3.heap.size ≠ w.heap.size := by omega
  clear ho3 hr3 u3 u1 hr1 hB3
  generalize w3.alloc (.cells #[.int .i64 n, .int .i64 s] 24) = w4 at *
  generalize w3.heap.size = T at *
  have c0 := t4.cell0
  have c1 := t4.cell1
  have d0 := u4.cell0
  have d1 := u4.cell1
  have f0 := u4.free 0
  have f1 := u4.free 1
  by_cases hk1 : k < 1
  · have hk2 : ¬ 60 < k := by omega
    go_region_held3 (fun w' => w'.cell? ⟨T, 0, none⟩ = some (.int .i64 n) ∧ w'.cell? ⟨T, 1, none⟩ = some (.int .i64 s))
      (first | go_keep | exact ⟨c0', c1'⟩ | exact ⟨((t'.set (b := w.heap.size) (Ne.symm hTA) 0 _).set (b := w.heap.size) (Ne.symm hTA) 1 _).cell0, ((t'.set (b := w.heap.size) (Ne.symm hTA) 0 _).set (b := w.heap.size) (Ne.symm hTA) 1 _).cell1⟩)
      (first | (go_at_call 52; refine (pick_any r _ _ _ (by assumption) (by omega) (by omega) (by omega)).mono ?_; rintro e w' ⟨v', rfl, a', b', r', o', s'⟩; have t' := o'.two (by assumption : Two _ T (.int .i64 n) (.int .i64 s) 24) hT; have u' := o'.two (by assumption : Two _ w.heap.size (.int .i64 0) (.int .i64 0) 24) hA; have c0' := t'.cell0; have c1' := t'.cell1; have d0' := u'.cell0; have d1' := u'.cell1; have f0' := u'.free 0; have f1' := u'.free 1))
    all_goals
      have u9 := (u'.set0 (.int .i64 n)).set1 (.int .i64 s)
      have e0 := u9.cell0
      have e1 := u9.cell1
      have hs' := o'.size
      go_wp2
      refine bodyPost_ret (v := .tuple #[(.agg #[.int .i64 (n), .int .i64 (s)]), .int .i64 k, .int .i64 _]) (by simp [results, Try.results27, go_sem, e0, e1]; rfl) rfl ?_
      exact ⟨n, s, k, _, rfl, n0, n1, k0, k1, (Below.setCell (Below.setCell (hB4.trans ((OnlyR.trans (OnlyR.trans (OnlyR.drewN (OnlyR.refl r _) 1) (by assumption)) (OnlyR.trans (by assumption) o')).below (by omega : w.heap.size ≤ r) hB4.size)) (Nat.le_refl _) _) (Nat.le_refl _) _)⟩
  · by_cases hk2 : 60 < k
    · skip
      go_region_held3 (fun w' => w'.cell? ⟨T, 0, none⟩ = some (.int .i64 n) ∧ w'.cell? ⟨T, 1, none⟩ = some (.int .i64 s))
        (first | go_keep | exact ⟨c0', c1'⟩ | exact ⟨((t'.set (b := w.heap.size) (Ne.symm hTA) 0 _).set (b := w.heap.size) (Ne.symm hTA) 1 _).cell0, ((t'.set (b := w.heap.size) (Ne.symm hTA) 0 _).set (b := w.heap.size) (Ne.symm hTA) 1 _).cell1⟩)
        (first | (go_at_call 52; refine (pick_any r _ _ _ (by assumption) (by omega) (by omega) (by omega)).mono ?_; rintro e w' ⟨v', rfl, a', b', r', o', s'⟩; have t' := o'.two (by assumption : Two _ T (.int .i64 n) (.int .i64 s) 24) hT; have u' := o'.two (by assumption : Two _ w.heap.size (.int .i64 0) (.int .i64 0) 24) hA; have c0' := t'.cell0; have c1' := t'.cell1; have d0' := u'.cell0; have d1' := u'.cell1; have f0' := u'.free 0; have f1' := u'.free 1))
      all_goals
        have u9 := (u'.set0 (.int .i64 n)).set1 (.int .i64 s)
        have e0 := u9.cell0
        have e1 := u9.cell1
        have hs' := o'.size
        go_wp2
        refine bodyPost_ret (v := .tuple #[(.agg #[.int .i64 (n), .int .i64 (s)]), .int .i64 k, .int .i64 _]) (by simp [results, Try.results27, go_sem, e0, e1]; rfl) rfl ?_
        exact ⟨n, s, k, _, rfl, n0, n1, k0, k1, (Below.setCell (Below.setCell (hB4.trans ((OnlyR.trans (OnlyR.trans (OnlyR.drewN (OnlyR.refl r _) 1) (by assumption)) (OnlyR.trans (by assumption) o')).below (by omega : w.heap.size ≤ r) hB4.size)) (Nat.le_refl _) _) (Nat.le_refl _) _)⟩
    · skip
      go_region_held3 (fun w' => w'.cell? ⟨T, 0, none⟩ = some (.int .i64 n) ∧ w'.cell? ⟨T, 1, none⟩ = some (.int .i64 s))
        (first | go_keep | exact ⟨c0', c1'⟩ | exact ⟨((t'.set (b := w.heap.size) (Ne.symm hTA) 0 _).set (b := w.heap.size) (Ne.symm hTA) 1 _).cell0, ((t'.set (b := w.heap.size) (Ne.symm hTA) 0 _).set (b := w.heap.size) (Ne.symm hTA) 1 _).cell1⟩)
        (first | (go_at_call 52; refine (pick_any r _ _ _ (by assumption) (by omega) (by omega) (by omega)).mono ?_; rintro e w' ⟨v', rfl, a', b', r', o', s'⟩; have t' := o'.two (by assumption : Two _ T (.int .i64 n) (.int .i64 s) 24) hT; have u' := o'.two (by assumption : Two _ w.heap.size (.int .i64 0) (.int .i64 0) 24) hA; have c0' := t'.cell0; have c1' := t'.cell1; have d0' := u'.cell0; have d1' := u'.cell1; have f0' := u'.free 0; have f1' := u'.free 1))
      all_goals
        have u9 := (u'.set0 (.int .i64 n)).set1 (.int .i64 s)
        have e0 := u9.cell0
        have e1 := u9.cell1
        have hs' := o'.size
        go_wp2
        refine bodyPost_ret (v := .tuple #[(.agg #[.int .i64 (n), .int .i64 (s)]), .int .i64 k, .int .i64 _]) (by simp [results, Try.results27, go_sem, e0, e1]; rfl) rfl ?_
        exact ⟨n, s, k, _, rfl, n0, n1, k0, k1, (Below.setCell (Below.setCell (hB4.trans ((OnlyR.trans (OnlyR.trans (OnlyR.drewN (OnlyR.refl r _) 1) (by assumption)) (OnlyR.trans (by assumption) o')).below (by omega : w.heap.size ≤ r) hB4.size)) (Nat.le_refl _) _) (Nat.le_refl _) _)⟩
end Go.Proofs.Ytcfhjkaemhhndaa
