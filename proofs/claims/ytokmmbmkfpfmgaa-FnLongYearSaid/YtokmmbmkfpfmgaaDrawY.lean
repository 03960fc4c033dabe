/- Contracts of the Draw functions of chapter 14. -/
import Derived.Test.YtokmmbmkfpfmgaaGDraw
import Derived.Test.YtokmmbmkfpfmgaaYearS
import Derived.Deep.Cut
import Derived.Deep.RegionHeld3
set_option linter.unusedVariables false
namespace Go.Proofs.Ytokmmbmkfpfmgaa
set_option maxRecDepth 4000

set_option maxRecDepth 4000
open Go.ChangeShapes Go.WideShapes Go.ChangeAt Go.RowKit Go.Joins

theorem onR {w W w' : World} {r : Nat} (h : Below w.heap.size w W) (o : OnlyR r W w') (hr : w.heap.size ≤ r) : Below w.heap.size w w' := h.trans (o.below hr h.size)

/-- a turn and numbers come back -/
def Y1Post (w : World) (e : Ending) (w' : World) : Prop := ∃ (n s k : Int), e = .returned (.tuple #[(.agg #[.int .i64 (n), .int .i64 (s)]), .int .i64 k]) ∧ Below w.heap.size w w'

def Y2Post (w : World) (e : Ending) (w' : World) : Prop := ∃ (n s k u : Int), e = .returned (.tuple #[(.agg #[.int .i64 (n), .int .i64 (s)]), .int .i64 k, .int .i64 u]) ∧ Below w.heap.size w w'

def Y3Post (w : World) (e : Ending) (w' : World) : Prop := ∃ (n s k u v : Int), e = .returned (.tuple #[(.agg #[.int .i64 (n), .int .i64 (s)]), .int .i64 k, .int .i64 u, .int .i64 v]) ∧ Below w.heap.size w w'

set_option maxHeartbeats 4000000 in
theorem l20Year_any (r : Nat) (p : Int) (w : World) (hr : Rd w r p) (hp0 : 0 ≤ p) (hp : p ≤ 800000) :
    Calls Try.prog 37 #[.pointer (some ⟨r, 0, none⟩)] w fun e w' => ∃ (n s k q : Int), e = .returned (.tuple #[(.agg #[.int .i64 (n), .int .i64 (s)]), .int .i64 k]) ∧ p ≤ q ∧ q ≤ p + 20 ∧ Rd w' r q ∧ OnlyR r w w' := by
  have hlt := hr.lt
  have hA : w.heap.size ≠ r := by omega
  go_enter Try.func37, Try.ntmps37
  go_wp2_with fail
  refine (l20Turn_any r p 12 _ (hr.alloc _) (by omega) (by omega) (by omega)).mono ?_
  rintro e w1 ⟨n, s, q, rfl, n0, n1, s0, s1, q0, q1, hr1, ho1⟩
  have u1 := ho1.two (Two.new w (.int .i64 0) (.int .i64 0) 24) hA
  have o1 : OnlyR r w w1 := ((OnlyR.refl r w).alloc _).trans ho1
  go_wp2_with fail
  refine (pick_any r _ 70 _ hr1 (by omega) (by omega) (by omega)).mono ?_; rintro e w2 ⟨v2, rfl, a2, b2, hr2, ho2, hs2⟩
  have u2 := ho2.two u1 hA
  have o2 := o1.trans ho2
  go_wp2_with fail
  refine (pick_any r _ 20 _ hr2 (by omega) (by omega) (by omega)).mono ?_; rintro e w3 ⟨v3, rfl, a3, b3, hr3, ho3, hs3⟩
  have u3 := ho3.two u2 hA
  have o3 := o2.trans ho3
  go_wp2_with fail
  refine (pick_any r _ 40 _ hr3 (by omega) (by omega) (by omega)).mono ?_; rintro e w4 ⟨v4, rfl, a4, b4, hr4, ho4, hs4⟩
  have u4 := ho4.two u3 hA
  have o4 := o3.trans ho4
  have c0 := u4.cell0
  have c1 := u4.cell1
  have f0 := u4.free 0
  have f1 := u4.free 1
  have u9 := (u4.set0 (.int .i64 n)).set1 (.int .i64 s)
  have e0 := u9.cell0
  have e1 := u9.cell1
  go_wp2
  refine bodyPost_ret (v := .tuple #[(.agg #[.int .i64 (n), .int .i64 (s)]), .int .i64 _]) (by simp [results, Try.results37, go_sem, e0, e1]; first | rfl | exact ⟨rfl, rfl⟩) rfl ?_
  exact ⟨n, s, _, _, rfl, by omega, by omega, (hr4.set (b := w.heap.size) hlt 0 _).set (b := w.heap.size) hlt 1 _, (o4.setAbove (Nat.le_refl _) 0 _).setAbove (Nat.le_refl _) 1 _⟩

set_option maxHeartbeats 1000000 in
theorem drawLongYear_any (a : Option Addr) (len cap : Nat) (w : World) (hc : CodeIn w a len cap) (hl : len ≤ 1048576) :
    Calls Try.prog 15 #[.slice a len cap] w (Y1Post w) := by
  have hb0 : Below w.heap.size w (w.alloc (.cells #[.int .i64 0, .int .i64 0] 24)) := (by repeat (first | exact Below.refl _ _ | assumption | (refine Below.trans ?_ (Below.mono (by assumption) (by first | omega | (simp <;> omega)))) | (refine Below.alloc ?_ (by first | omega | (simp <;> omega)) _) | (refine below_drewN ?_ _) | (refine Below.drew ?_) | (refine Below.setCell ?_ (by first | omega | (simp <;> omega)) _)))
  go_enter Try.func15, Try.ntmps15
  go_wp2_with fail
  refine (l20Open_any a len cap _ (hc.below hb0) hl).mono ?_; rintro e w1 ⟨r, rfl, hr, hr1, hb1⟩
  simp at hr
  have hA : w.heap.size ≠ r := by omega
  have u1 := (Two.new w (.int .i64 0) (.int .i64 0) 24).same (hb1.block _ (by simp))
  have hB1 := hb0.trans (hb1.mono (by simp))
  clear hb1
  go_wp2_with fail
  refine (l20Year_any r 0 _ hr1 (by omega) (by omega)).mono ?_
  rintro e w2 ⟨n, s, k, q, rfl, q0, q1, hr2, ho2⟩
  have u2 := ho2.two u1 hA
  have hB2 := hB1.trans (ho2.below (by omega) hB1.size)
  clear ho2 u1 hr1 hB1
  have c0 := u2.cell0
  have c1 := u2.cell1
  have f0 := u2.free 0
  have f1 := u2.free 1
  have u9 := (u2.set0 (.int .i64 n)).set1 (.int .i64 s)
  have e0 := u9.cell0
  have e1 := u9.cell1
  go_wp2
  refine bodyPost_ret (v := .tuple #[(.agg #[.int .i64 (n), .int .i64 (s)]), .int .i64 k]) (by simp [results, Try.results15, go_sem, e0, e1]) rfl ?_
  exact ⟨n, s, k, rfl, (hB2.setCell (Nat.le_refl _) _).setCell (Nat.le_refl _) _⟩

set_option maxHeartbeats 1000000 in
theorem drawLongBefore_any (a : Option Addr) (len cap : Nat) (w : World) (hc : CodeIn w a len cap) (hl : len ≤ 1048576) :
    Calls Try.prog 20 #[.slice a len cap] w (Y1Post w) := by
  have hb0 : Below w.heap.size w (w.alloc (.cells #[.int .i64 0, .int .i64 0] 24)) := (by repeat (first | exact Below.refl _ _ | assumption | (refine Below.trans ?_ (Below.mono (by assumption) (by first | omega | (simp <;> omega)))) | (refine Below.alloc ?_ (by first | omega | (simp <;> omega)) _) | (refine below_drewN ?_ _) | (refine Below.drew ?_) | (refine Below.setCell ?_ (by first | omega | (simp <;> omega)) _)))
  go_enter Try.func20, Try.ntmps20
  go_wp2_with fail
  refine (l20Open_any a len cap _ (hc.below hb0) hl).mono ?_; rintro e w1 ⟨r, rfl, hr, hr1, hb1⟩
  simp at hr
  have hA : w.heap.size ≠ r := by omega
  have u1 := (Two.new w (.int .i64 0) (.int .i64 0) 24).same (hb1.block _ (by simp))
  have hB1 := hb0.trans (hb1.mono (by simp))
  clear hb1
  go_wp2_with fail
  refine (l20Year_any r 0 _ hr1 (by omega) (by omega)).mono ?_
  rintro e w2 ⟨n, s, k, q, rfl, q0, q1, hr2, ho2⟩
  have u2 := ho2.two u1 hA
  have hB2 := hB1.trans (ho2.below (by omega) hB1.size)
  clear ho2 u1 hr1 hB1
  have c0 := u2.cell0
  have c1 := u2.cell1
  have f0 := u2.free 0
  have f1 := u2.free 1
  have u9 := (u2.set0 (.int .i64 n)).set1 (.int .i64 s)
  have e0 := u9.cell0
  have e1 := u9.cell1
  go_wp2
  refine bodyPost_ret (v := .tuple #[(.agg #[.int .i64 (n), .int .i64 (s)]), .int .i64 k]) (by simp [results, Try.results20, go_sem, e0, e1]) rfl ?_
  exact ⟨n, s, k, rfl, (hB2.setCell (Nat.le_refl _) _).setCell (Nat.le_refl _) _⟩

set_option maxHeartbeats 1000000 in
theorem drawDriftOf_any (a : Option Addr) (len cap : Nat) (w : World) (hc : CodeIn w a len cap) (hl : len ≤ 1048576) :
    Calls Try.prog 32 #[.slice a len cap] w (Y1Post w) := by
  have hb0 : Below w.heap.size w (w.alloc (.cells #[.int .i64 0, .int .i64 0] 24)) := (by repeat (first | exact Below.refl _ _ | assumption | (refine Below.trans ?_ (Below.mono (by assumption) (by first | omega | (simp <;> omega)))) | (refine Below.alloc ?_ (by first | omega | (simp <;> omega)) _) | (refine below_drewN ?_ _) | (refine Below.drew ?_) | (refine Below.setCell ?_ (by first | omega | (simp <;> omega)) _)))
  go_enter Try.func32, Try.ntmps32
  go_wp2_with fail
  refine (l20Open_any a len cap _ (hc.below hb0) hl).mono ?_; rintro e w1 ⟨r, rfl, hr, hr1, hb1⟩
  simp at hr
  have hA : w.heap.size ≠ r := by omega
  have u1 := (Two.new w (.int .i64 0) (.int .i64 0) 24).same (hb1.block _ (by simp))
  have hB1 := hb0.trans (hb1.mono (by simp))
  clear hb1
  go_wp2_with fail
  refine (l20Year_any r 0 _ hr1 (by omega) (by omega)).mono ?_
  rintro e w2 ⟨n, s, k, q, rfl, q0, q1, hr2, ho2⟩
  have u2 := ho2.two u1 hA
  have hB2 := hB1.trans (ho2.below (by omega) hB1.size)
  clear ho2 u1 hr1 hB1
  have c0 := u2.cell0
  have c1 := u2.cell1
  have f0 := u2.free 0
  have f1 := u2.free 1
  have u9 := (u2.set0 (.int .i64 n)).set1 (.int .i64 s)
  have e0 := u9.cell0
  have e1 := u9.cell1
  go_wp2
  refine bodyPost_ret (v := .tuple #[(.agg #[.int .i64 (n), .int .i64 (s)]), .int .i64 k]) (by simp [results, Try.results32, go_sem, e0, e1]) rfl ?_
  exact ⟨n, s, k, rfl, (hB2.setCell (Nat.le_refl _) _).setCell (Nat.le_refl _) _⟩

set_option maxHeartbeats 4000000 in
theorem drawDaysBefore_any (a : Option Addr) (len cap : Nat) (w : World) (hc : CodeIn w a len cap) (hl : len ≤ 1048576) :
    Calls Try.prog 23 #[.slice a len cap] w (Y2Post w) := by
  have hb0 : Below w.heap.size w (w.alloc (.cells #[.int .i64 0, .int .i64 0] 24)) := (by repeat (first | exact Below.refl _ _ | assumption | (refine Below.trans ?_ (Below.mono (by assumption) (by first | omega | (simp <;> omega)))) | (refine Below.alloc ?_ (by first | omega | (simp <;> omega)) _) | (refine below_drewN ?_ _) | (refine Below.drew ?_) | (refine Below.setCell ?_ (by first | omega | (simp <;> omega)) _)))
  go_enter Try.func23, Try.ntmps23
  go_wp2_with fail
  refine (l20Open_any a len cap _ (hc.below hb0) hl).mono ?_; rintro e w1 ⟨r, rfl, hr, hr1, hb1⟩
  simp at hr
  have hA : w.heap.size ≠ r := by omega
  have u1 := (Two.new w (.int .i64 0) (.int .i64 0) 24).same (hb1.block _ (by simp))
  have hB1 := hb0.trans (hb1.mono (by simp))
  clear hb1
  go_wp2_with fail
  refine (l20Year_any r 0 _ hr1 (by omega) (by omega)).mono ?_
  rintro e w2 ⟨n, s, k, q, rfl, q0, q1, hr2, ho2⟩
  have u2 := ho2.two u1 hA
  have hB2 := hB1.trans (ho2.below (by omega) hB1.size)
  clear ho2 u1 hr1 hB1
  go_wp2_with fail
  have hz2 := u2.lt
  have hzr := hr2.lt
  have t3 : Two (w2.alloc (.cells #[.int .i64 n, .int .i64 s] 24)) w2.heap.size (.int .i64 n) (.int .i64 s) 24 := Two.new _ _ _ _
  have u3 := u2.alloc (.cells #[.int .i64 n, .int .i64 s] 24)
  have hr3 := hr2.alloc (.cells #[.int .i64 n, .int .i64 s] 24)
  have hB3 := hB2.alloc hB2.size (.cells #[.int .i64 n, .int .i64 s] 24)
  have hT : w2.heap.size ≠ r := by omega
  have hTA : w2.heap.size ≠ w.heap.size := by omega
  have hrW : w.heap.size ≤ r := by omega
  clear hr2 u2 hB2
  generalize w2.alloc (.cells #[.int .i64 n, .int .i64 s] 24) = w3 at *
  have B3 : Below w.heap.size w w3.drew := below_drewN hB3 1
  generalize w2.heap.size = T at *
  have c0 := t3.cell0
  have c1 := t3.cell1
  have d0 := u3.cell0
  have d1 := u3.cell1
  have f0 := u3.free 0
  have f1 := u3.free 1
  go_region_held3 (fun w' => w'.cell? ⟨T, 0, none⟩ = some (.int .i64 n) ∧ w'.cell? ⟨T, 1, none⟩ = some (.int .i64 s))
    (first | go_keep | exact ⟨c0', c1'⟩ | exact ⟨((t'.set (b := w.heap.size) (Ne.symm hTA) 0 _).set (b := w.heap.size) (Ne.symm hTA) 1 _).cell0, ((t'.set (b := w.heap.size) (Ne.symm hTA) 0 _).set (b := w.heap.size) (Ne.symm hTA) 1 _).cell1⟩)
    (first | (go_at_call 47; refine (pick_any r _ _ _ (by assumption) (by omega) (by omega) (by omega)).mono ?_; rintro e w' ⟨v', rfl, a', b', r', o', s'⟩; have t' := o'.two (by assumption : Two _ T (.int .i64 n) (.int .i64 s) 24) hT; have u' := o'.two (by assumption : Two _ w.heap.size (.int .i64 0) (.int .i64 0) 24) hA; have B' : Below w.heap.size w w' := onR (by assumption) o' hrW; have c0' := t'.cell0; have c1' := t'.cell1; have d0' := u'.cell0; have d1' := u'.cell1; have f0' := u'.free 0; have f1' := u'.free 1))
  all_goals
    have u9 := (u'.set0 (.int .i64 n)).set1 (.int .i64 s)
    have e0 := u9.cell0
    have e1 := u9.cell1
    go_wp2
    refine bodyPost_ret (v := .tuple #[(.agg #[.int .i64 (n), .int .i64 (s)]), .int .i64 _, .int .i64 k]) (by simp [results, Try.results23, go_sem, e0, e1]; first | rfl | exact ⟨rfl, rfl⟩) rfl ?_
    exact ⟨n, s, _, k, rfl, (B'.setCell (Nat.le_refl _) _).setCell (Nat.le_refl _) _⟩

set_option maxHeartbeats 4000000 in
theorem drawDayNumber_any (a : Option Addr) (len cap : Nat) (w : World) (hc : CodeIn w a len cap) (hl : len ≤ 1048576) :
    Calls Try.prog 26 #[.slice a len cap] w (Y3Post w) := by
  have hb0 : Below w.heap.size w (w.alloc (.cells #[.int .i64 0, .int .i64 0] 24)) := (by repeat (first | exact Below.refl _ _ | assumption | (refine Below.trans ?_ (Below.mono (by assumption) (by first | omega | (simp <;> omega)))) | (refine Below.alloc ?_ (by first | omega | (simp <;> omega)) _) | (refine below_drewN ?_ _) | (refine Below.drew ?_) | (refine Below.setCell ?_ (by first | omega | (simp <;> omega)) _)))
  go_enter Try.func26, Try.ntmps26
  go_wp2_with fail
  refine (l20Open_any a len cap _ (hc.below hb0) hl).mono ?_; rintro e w1 ⟨r, rfl, hr, hr1, hb1⟩
  simp at hr
  have hA : w.heap.size ≠ r := by omega
  have u1 := (Two.new w (.int .i64 0) (.int .i64 0) 24).same (hb1.block _ (by simp))
  have hB1 := hb0.trans (hb1.mono (by simp))
  clear hb1
  go_wp2_with fail
  refine (l20Year_any r 0 _ hr1 (by omega) (by omega)).mono ?_
  rintro e w2 ⟨n, s, k, q, rfl, q0, q1, hr2, ho2⟩
  have u2 := ho2.two u1 hA
  have hB2 := hB1.trans (ho2.below (by omega) hB1.size)
  clear ho2 u1 hr1 hB1
  have hz2 := u2.lt
  have hzr := hr2.lt
  have t3 : Two (w2.alloc (.cells #[.int .i64 n, .int .i64 s] 24)) w2.heap.size (.int .i64 n) (.int .i64 s) 24 := Two.new _ _ _ _
  have u3 := u2.alloc (.cells #[.int .i64 n, .int .i64 s] 24)
  have hr3 := hr2.alloc (.cells #[.int .i64 n, .int .i64 s] 24)
  have hB3 := hB2.alloc hB2.size (.cells #[.int .i64 n, .int .i64 s] 24)
  have hT : w2.heap.size ≠ r := by omega
  have hTA : w2.heap.size ≠ w.heap.size := by omega
  have hrW : w.heap.size ≤ r := by omega
  clear hr2 u2 hB2
  go_wp2_with fail
  refine (pick_any r _ 20 _ hr3 (by omega) (by omega) (by omega)).mono ?_; rintro e w4 ⟨v4, rfl, a4, b4, hr4, ho4, hs4⟩
  have t4 := ho4.two t3 hT
  have u4 := ho4.two u3 hA
  have hB4 := hB3.trans (ho4.below hrW hB3.size)
  clear t3 u3 hr3 hB3
  go_wp2_with fail
  refine (pick_any r _ 40 _ hr4 (by omega) (by omega) (by omega)).mono ?_; rintro e w5 ⟨v5, rfl, a5, b5, hr5, ho5, hs5⟩
  have t5 := ho5.two t4 hT
  have u5 := ho5.two u4 hA
  have hB5 := hB4.trans (ho5.below hrW hB4.size)
  clear t4 u4 hr4 hB4
  have hd : ∃ D : Int, IntKind.i64.wrap (1 + v4 - v5.tdiv 39) = D ∧ 0 ≤ D ∧ D ≤ 20 ∧ IntKind.i64.wrap (1 + v4) = 1 + v4 ∧ IntKind.i64.wrap (v5.tdiv 39) = v5.tdiv 39 ∧ v5.tdiv 39 = v5 / 39 := by
    have e : v5.tdiv 39 = v5 / 39 := Int.tdiv_eq_ediv_of_nonneg a5
    rw [e]
    exact ⟨_, rfl, by rw [IntWalk.i64_in _ (by omega)]; omega, by rw [IntWalk.i64_in _ (by omega)]; omega, IntWalk.i64_in _ (by omega), IntWalk.i64_in _ (by omega), rfl⟩
  obtain ⟨D, hD, D0, D1, wr1, wr2, td⟩ := hd
  rw [td] at wr2 hD
  go_wp2_with fail
  refine (pick_any r _ 3 _ hr5 (by omega) (by omega) (by omega)).mono ?_; rintro e w6 ⟨v6, rfl, a6, b6, hr6, ho6, hs6⟩
  have t6 := ho6.two t5 hT
  have u6 := ho6.two u5 hA
  have hB6 := hB5.trans (ho6.below hrW hB5.size)
  clear t5 u5 hr5 hB5
  by_cases h6 : v6 = 0
  · subst h6
    have c0 := t6.cell0
    have c1 := t6.cell1
    have d0 := u6.cell0
    have d1 := u6.cell1
    have f0 := u6.free 0
    have f1 := u6.free 1
    have u9 := (u6.set0 (.int .i64 n)).set1 (.int .i64 s)
    have e0 := u9.cell0
    have e1 := u9.cell1
    go_wp2_with fail
    try (go_region_with (fail))
    go_wp2
    refine bodyPost_ret (v := .tuple #[(.agg #[.int .i64 (n), .int .i64 (s)]), .int .i64 D, .int .i64 k, .int .i64 D]) (by simp [results, Try.results26, go_sem, e0, e1]) rfl ?_
    exact ⟨n, s, D, k, D, rfl, (by repeat (first | exact Below.refl _ _ | assumption | (refine Below.trans ?_ (Below.mono (by assumption) (by first | omega | (simp <;> omega)))) | (refine Below.alloc ?_ (by first | omega | (simp <;> omega)) _) | (refine below_drewN ?_ _) | (refine Below.drew ?_) | (refine Below.setCell ?_ (by first | omega | (simp <;> omega)) _)))⟩
  · have h6' : (v6 == 0) = false := by simpa using h6
    have hM1 : (if D < 1 then (1 : Int) else D) = max D 1 := by split <;> omega
    have hM2 : (if 1 > D then (1 : Int) else D) = max D 1 := by split <;> omega
    obtain ⟨M, hM⟩ : ∃ M, max D 1 = M := ⟨_, rfl⟩
    have hMb : 1 ≤ M ∧ M ≤ 20 := by omega
    rw [hM] at hM1 hM2
    have wM : IntKind.i64.wrap (M + 2) = M + 2 := IntWalk.i64_in _ (by omega)
    have B6 : Below w.heap.size w w6.drew := below_drewN hB6 1
    by_cases hD1 : D < 1
    · have e1M : M = 1 := by omega
      subst e1M
      have wM3 : IntKind.i64.wrap 3 = 3 := IntWalk.i64_in _ (by omega)
      generalize w2.heap.size = T at *
      have c0 := t6.cell0
      have c1 := t6.cell1
      have d0 := u6.cell0
      have d1 := u6.cell1
      have f0 := u6.free 0
      have f1 := u6.free 1
      go_wp2_with fail
      go_region_held3 (fun w' => w'.cell? ⟨T, 0, none⟩ = some (.int .i64 n) ∧ w'.cell? ⟨T, 1, none⟩ = some (.int .i64 s))
        (first | go_keep | exact ⟨c0', c1'⟩ | exact ⟨((t'.set (b := w.heap.size) (Ne.symm hTA) 0 _).set (b := w.heap.size) (Ne.symm hTA) 1 _).cell0, ((t'.set (b := w.heap.size) (Ne.symm hTA) 0 _).set (b := w.heap.size) (Ne.symm hTA) 1 _).cell1⟩)
        (first | (go_at_call 47; refine (pick_any r _ _ _ (by assumption) (by omega) (by omega) (by omega)).mono ?_; rintro e w' ⟨v', rfl, a', b', r', o', s'⟩; have t' := o'.two (by assumption : Two _ T (.int .i64 n) (.int .i64 s) 24) hT; have u' := o'.two (by assumption : Two _ w.heap.size (.int .i64 0) (.int .i64 0) 24) hA; have B' : Below w.heap.size w w' := onR (by assumption) o' hrW; have c0' := t'.cell0; have c1' := t'.cell1; have d0' := u'.cell0; have d1' := u'.cell1; have f0' := u'.free 0; have f1' := u'.free 1))
      all_goals
        have u9 := (u'.set0 (.int .i64 n)).set1 (.int .i64 s)
        have e0 := u9.cell0
        have e1 := u9.cell1
        go_wp2
        refine bodyPost_ret (v := .tuple #[(.agg #[.int .i64 (n), .int .i64 (s)]), .int .i64 D, .int .i64 k, .int .i64 _]) (by simp [results, Try.results26, go_sem, e0, e1]; first | rfl | exact ⟨rfl, rfl⟩) rfl ?_
        exact ⟨n, s, D, k, _, rfl, (B'.setCell (Nat.le_refl _) _).setCell (Nat.le_refl _) _⟩
    · have eM : M = D := by omega
      subst eM
      generalize w2.heap.size = T at *
      have c0 := t6.cell0
      have c1 := t6.cell1
      have d0 := u6.cell0
      have d1 := u6.cell1
      have f0 := u6.free 0
      have f1 := u6.free 1
      go_wp2_with fail
      go_region_held3 (fun w' => w'.cell? ⟨T, 0, none⟩ = some (.int .i64 n) ∧ w'.cell? ⟨T, 1, none⟩ = some (.int .i64 s))
        (first | go_keep | exact ⟨c0', c1'⟩ | exact ⟨((t'.set (b := w.heap.size) (Ne.symm hTA) 0 _).set (b := w.heap.size) (Ne.symm hTA) 1 _).cell0, ((t'.set (b := w.heap.size) (Ne.symm hTA) 0 _).set (b := w.heap.size) (Ne.symm hTA) 1 _).cell1⟩)
        (first | (go_at_call 47; refine (pick_any r _ _ _ (by assumption) (by omega) (by omega) (by omega)).mono ?_; rintro e w' ⟨v', rfl, a', b', r', o', s'⟩; have t' := o'.two (by assumption : Two _ T (.int .i64 n) (.int .i64 s) 24) hT; have u' := o'.two (by assumption : Two _ w.heap.size (.int .i64 0) (.int .i64 0) 24) hA; have B' : Below w.heap.size w w' := onR (by assumption) o' hrW; have c0' := t'.cell0; have c1' := t'.cell1; have d0' := u'.cell0; have d1' := u'.cell1; have f0' := u'.free 0; have f1' := u'.free 1))
      all_goals
        have u9 := (u'.set0 (.int .i64 n)).set1 (.int .i64 s)
        have e0 := u9.cell0
        have e1 := u9.cell1
        go_wp2
        refine bodyPost_ret (v := .tuple #[(.agg #[.int .i64 (n), .int .i64 (s)]), .int .i64 M, .int .i64 k, .int .i64 _]) (by simp [results, Try.results26, go_sem, e0, e1]; first | rfl | exact ⟨rfl, rfl⟩) rfl ?_
        exact ⟨n, s, M, k, _, rfl, (B'.setCell (Nat.le_refl _) _).setCell (Nat.le_refl _) _⟩

set_option maxHeartbeats 4000000 in
theorem drawDateOf_any (a : Option Addr) (len cap : Nat) (w : World) (hc : CodeIn w a len cap) (hl : len ≤ 1048576) :
    Calls Try.prog 30 #[.slice a len cap] w (Y2Post w) := by
  have hb0 : Below w.heap.size w (w.alloc (.cells #[.int .i64 0, .int .i64 0] 24)) := (by repeat (first | exact Below.refl _ _ | assumption | (refine Below.trans ?_ (Below.mono (by assumption) (by first | omega | (simp <;> omega)))) | (refine Below.alloc ?_ (by first | omega | (simp <;> omega)) _) | (refine below_drewN ?_ _) | (refine Below.drew ?_) | (refine Below.setCell ?_ (by first | omega | (simp <;> omega)) _)))
  go_enter Try.func30, Try.ntmps30
  go_wp2_with fail
  refine (l20Open_any a len cap _ (hc.below hb0) hl).mono ?_; rintro e w1 ⟨r, rfl, hr, hr1, hb1⟩
  simp at hr
  have hA : w.heap.size ≠ r := by omega
  have u1 := (Two.new w (.int .i64 0) (.int .i64 0) 24).same (hb1.block _ (by simp))
  have hB1 := hb0.trans (hb1.mono (by simp))
  clear hb1
  go_wp2_with fail
  refine (l20Year_any r 0 _ hr1 (by omega) (by omega)).mono ?_
  rintro e w2 ⟨n, s, k, q, rfl, q0, q1, hr2, ho2⟩
  have u2 := ho2.two u1 hA
  have hB2 := hB1.trans (ho2.below (by omega) hB1.size)
  clear ho2 u1 hr1 hB1
  have hz2 := u2.lt
  have hzr := hr2.lt
  have t3 : Two (w2.alloc (.cells #[.int .i64 n, .int .i64 s] 24)) w2.heap.size (.int .i64 n) (.int .i64 s) 24 := Two.new _ _ _ _
  have u3 := u2.alloc (.cells #[.int .i64 n, .int .i64 s] 24)
  have hr3 := hr2.alloc (.cells #[.int .i64 n, .int .i64 s] 24)
  have hB3 := hB2.alloc hB2.size (.cells #[.int .i64 n, .int .i64 s] 24)
  have hT : w2.heap.size ≠ r := by omega
  have hTA : w2.heap.size ≠ w.heap.size := by omega
  have hrW : w.heap.size ≤ r := by omega
  clear hr2 u2 hB2
  go_wp2_with fail
  refine (pick_any r _ 20 _ hr3 (by omega) (by omega) (by omega)).mono ?_; rintro e w4 ⟨v4, rfl, a4, b4, hr4, ho4, hs4⟩
  have t4 := ho4.two t3 hT
  have u4 := ho4.two u3 hA
  have hB4 := hB3.trans (ho4.below hrW hB3.size)
  clear t3 u3 hr3 hB3
  go_wp2_with fail
  refine (pick_any r _ 40 _ hr4 (by omega) (by omega) (by omega)).mono ?_; rintro e w5 ⟨v5, rfl, a5, b5, hr5, ho5, hs5⟩
  have t5 := ho5.two t4 hT
  have u5 := ho5.two u4 hA
  have hB5 := hB4.trans (ho5.below hrW hB4.size)
  clear t4 u4 hr4 hB4
  have B5 : Below w.heap.size w w5.drew := below_drewN hB5 1
  generalize w2.heap.size = T at *
  have c0 := t5.cell0
  have c1 := t5.cell1
  have d0 := u5.cell0
  have d1 := u5.cell1
  have f0 := u5.free 0
  have f1 := u5.free 1
  go_wp2_with fail
  go_region_held3 (fun w' => w'.cell? ⟨T, 0, none⟩ = some (.int .i64 n) ∧ w'.cell? ⟨T, 1, none⟩ = some (.int .i64 s))
    (first | go_keep | exact ⟨c0', c1'⟩ | exact ⟨((t'.set (b := w.heap.size) (Ne.symm hTA) 0 _).set (b := w.heap.size) (Ne.symm hTA) 1 _).cell0, ((t'.set (b := w.heap.size) (Ne.symm hTA) 0 _).set (b := w.heap.size) (Ne.symm hTA) 1 _).cell1⟩)
    (first | (go_at_call 25; refine (specDaysBefore_any _ _ _ _ _).mono ?_; rintro e w' ⟨rfl, hb'⟩; have t' := Two.below (by assumption : Two _ T (.int .i64 n) (.int .i64 s) 24) hb' (Two.lt (by assumption : Two _ T (.int .i64 n) (.int .i64 s) 24)); have u' := Two.below (by assumption : Two _ w.heap.size (.int .i64 0) (.int .i64 0) 24) hb' (Two.lt (by assumption : Two _ w.heap.size (.int .i64 0) (.int .i64 0) 24)); have B' : Below w.heap.size w w' := hold_on (by assumption) hb'; have r' := Rd.below (by assumption) hb'; have c0' := t'.cell0; have c1' := t'.cell1; have d0' := u'.cell0; have d1' := u'.cell1; have f0' := u'.free 0; have f1' := u'.free 1) | (go_at_call 47; refine (pick_any r _ _ _ (by assumption) (by omega) (by omega) (by omega)).mono ?_; rintro e w' ⟨v', rfl, a', b', r', o', s'⟩; have t' := o'.two (by assumption : Two _ T (.int .i64 n) (.int .i64 s) 24) hT; have u' := o'.two (by assumption : Two _ w.heap.size (.int .i64 0) (.int .i64 0) 24) hA; have B' : Below w.heap.size w w' := onR (by assumption) o' hrW; have c0' := t'.cell0; have c1' := t'.cell1; have d0' := u'.cell0; have d1' := u'.cell1; have f0' := u'.free 0; have f1' := u'.free 1))
  all_goals
    have u9 := (u'.set0 (.int .i64 n)).set1 (.int .i64 s)
    have e0 := u9.cell0
    have e1 := u9.cell1
    go_wp2
    refine bodyPost_ret (v := .tuple #[(.agg #[.int .i64 (n), .int .i64 (s)]), .int .i64 _, .int .i64 _]) (by simp [results, Try.results30, go_sem, e0, e1]; first | rfl | exact ⟨rfl, rfl⟩) rfl ?_
    exact ⟨n, s, _, _, rfl, (B'.setCell (Nat.le_refl _) _).setCell (Nat.le_refl _) _⟩
end Go.Proofs.Ytokmmbmkfpfmgaa
