/- Contracts of the Draw functions of chapter 10. -/
import Derived.Test.YtdkcodinlegheaaGDraw
import Derived.Deep.Cut
import Derived.Deep.RegionHeld3
set_option linter.unusedVariables false
namespace Go.Proofs.Ytdkcodinlegheaa

set_option maxRecDepth 4000
open Go.ChangeShapes Go.WideShapes Go.ChangeAt Go.RowKit Go.Joins

/-- four numbers, of a reader -/
def SumPost (r : Nat) (w : World) (e : Ending) (w' : World) : Prop := ∃ (m b t a q : Int), e = .returned (.tuple #[.int .i64 m, .int .i64 b, .int .i64 t, .int .i64 a]) ∧ Rd w' r q ∧ OnlyR r w w'

def F4Post (w : World) (e : Ending) (w' : World) : Prop := ∃ (m b t a : Int), e = .returned (.tuple #[.int .i64 m, .int .i64 b, .int .i64 t, .int .i64 a]) ∧ Below w.heap.size w w'

set_option maxHeartbeats 4000000 in
theorem l20Sum_any (r : Nat) (p : Int) (w : World) (hr : Rd w r p) (hp0 : 0 ≤ p) (hp : p ≤ 700000) :
    Calls Try.prog 41 #[.pointer (some ⟨r, 0, none⟩)] w (SumPost r w) := by
  have hlt := hr.lt
  go_enter Try.func41, Try.ntmps41
  go_wp2_with fail
  refine (pick_any r _ _ _ hr (by omega) (by omega) (by omega)).mono ?_; rintro e w1 ⟨v1, rfl, a1, b1, r1, o1, s1⟩
  go_wp2_with fail
  refine (pick_any r _ _ _ r1 (by omega) (by omega) (by omega)).mono ?_; rintro e w2 ⟨v2, rfl, a2, b2, r2, o2, s2⟩
  clear s1
  go_wp2_with fail
  refine (pick_any r _ _ _ r2 (by omega) (by omega) (by omega)).mono ?_; rintro e w3 ⟨v3, rfl, a3, b3, r3, o3, s3⟩
  clear s2
  go_wp2_with fail
  refine (pick_any r _ _ _ r3 (by omega) (by omega) (by omega)).mono ?_; rintro e w4 ⟨v4, rfl, a4, b4, r4, o4, s4⟩
  clear s3
  go_wp2_with fail
  refine (pick_any r _ _ _ r4 (by omega) (by omega) (by omega)).mono ?_; rintro e w5 ⟨v5, rfl, a5, b5, r5, o5, s5⟩
  clear s4
  go_wp2_with fail
  refine (pick_any r _ _ _ r5 (by omega) (by omega) (by omega)).mono ?_; rintro e w6 ⟨v6, rfl, a6, b6, r6, o6, s6⟩
  clear s5
  go_wp2_with fail
  refine (pick_any r _ _ _ r6 (by omega) (by omega) (by omega)).mono ?_; rintro e w7 ⟨v7, rfl, a7, b7, r7, o7, s7⟩
  clear s6
  go_wp2_with fail
  refine (pick_any r _ _ _ r7 (by omega) (by omega) (by omega)).mono ?_; rintro e w8 ⟨v8, rfl, a8, b8, r8, o8, s8⟩
  clear s7
  go_wp2
  refine bodyPost_ret (v := .tuple #[.int .i64 _, .int .i64 _, .int .i64 _, .int .i64 _]) (by simp [results, Try.results41, go_sem]; exact ⟨rfl, rfl, rfl, rfl⟩) rfl ?_
  exact ⟨_, _, _, _, _, rfl, r8, ((((((o1.trans o2).trans o3).trans o4).trans o5).trans o6).trans o7).trans o8⟩

set_option maxHeartbeats 1000000 in
theorem drawSumOneByOne_any (a : Option Addr) (len cap : Nat) (w : World) (hc : CodeIn w a len cap) (hl : len ≤ 1048576) :
    Calls Try.prog 15 #[.slice a len cap] w (F4Post w) := by
  go_enter Try.func15, Try.ntmps15
  go_wp2_with fail
  refine (l20Open_any a len cap _ hc hl).mono ?_; rintro e w1 ⟨r, rfl, hr, hr1, hb1⟩
  go_wp2_with fail
  refine (l20Sum_any r 0 _ hr1 (by omega) (by omega)).mono ?_; rintro e w2 ⟨x, y, u, v, q, rfl, hr2, ho2⟩
  have hB := hb1.trans (ho2.below hr hb1.size)
  go_wp2
  refine bodyPost_ret (v := .tuple #[.int .i64 x, .int .i64 y, .int .i64 u, .int .i64 v]) (by simp [results, Try.results15, go_sem]) rfl ?_
  exact ⟨x, y, u, v, rfl, hB⟩

set_option maxHeartbeats 1000000 in
theorem drawSumByRule_any (a : Option Addr) (len cap : Nat) (w : World) (hc : CodeIn w a len cap) (hl : len ≤ 1048576) :
    Calls Try.prog 21 #[.slice a len cap] w (F4Post w) := by
  go_enter Try.func21, Try.ntmps21
  go_wp2_with fail
  refine (l20Open_any a len cap _ hc hl).mono ?_; rintro e w1 ⟨r, rfl, hr, hr1, hb1⟩
  go_wp2_with fail
  refine (l20Sum_any r 0 _ hr1 (by omega) (by omega)).mono ?_; rintro e w2 ⟨x, y, u, v, q, rfl, hr2, ho2⟩
  have hB := hb1.trans (ho2.below hr hb1.size)
  go_wp2
  refine bodyPost_ret (v := .tuple #[.int .i64 x, .int .i64 y, .int .i64 u, .int .i64 v]) (by simp [results, Try.results21, go_sem]) rfl ?_
  exact ⟨x, y, u, v, rfl, hB⟩

set_option maxHeartbeats 1000000 in
theorem drawPointsUnder_any (a : Option Addr) (len cap : Nat) (w : World) (hc : CodeIn w a len cap) (hl : len ≤ 1048576) :
    Calls Try.prog 23 #[.slice a len cap] w (F4Post w) := by
  go_enter Try.func23, Try.ntmps23
  go_wp2_with fail
  refine (l20Open_any a len cap _ hc hl).mono ?_; rintro e w1 ⟨r, rfl, hr, hr1, hb1⟩
  go_wp2_with fail
  refine (l20Sum_any r 0 _ hr1 (by omega) (by omega)).mono ?_; rintro e w2 ⟨x, y, u, v, q, rfl, hr2, ho2⟩
  have hB := hb1.trans (ho2.below hr hb1.size)
  go_wp2
  refine bodyPost_ret (v := .tuple #[.int .i64 x, .int .i64 y, .int .i64 u, .int .i64 v]) (by simp [results, Try.results23, go_sem]) rfl ?_
  exact ⟨x, y, u, v, rfl, hB⟩

set_option maxHeartbeats 1000000 in
theorem drawSawOf_any (a : Option Addr) (len cap : Nat) (w : World) (hc : CodeIn w a len cap) (hl : len ≤ 1048576) :
    Calls Try.prog 25 #[.slice a len cap] w (DTPost w) := by
  have hb0 : Below w.heap.size w (w.alloc (.cells #[.int .i64 0, .int .i64 0] 29)) := (by repeat (first | exact Below.refl _ _ | assumption | (refine Below.trans ?_ (Below.mono (by assumption) (by first | omega | (simp <;> omega)))) | (refine Below.alloc ?_ (by first | omega | (simp <;> omega)) _) | (refine below_drewN ?_ _) | (refine Below.drew ?_) | (refine Below.setCell ?_ (by first | omega | (simp <;> omega)) _)))
  go_enter Try.func25, Try.ntmps25
  go_wp2_with fail
  refine (l20Open_any a len cap _ (hc.below hb0) hl).mono ?_; rintro e w1 ⟨r, rfl, hr, hr1, hb1⟩
  simp at hr
  have hA : w.heap.size ≠ r := by omega
  have u1 := (Two.new w (.int .i64 0) (.int .i64 0) 29).same (hb1.block _ (by simp))
  have hB1 := hb0.trans (hb1.mono (by simp))
  clear hb1
  go_wp2_with fail
  refine (l20Turn_any r 0 9 _ hr1 (by omega) (by omega) (by omega)).mono ?_
  rintro e w3 ⟨n, s, q, rfl, n0, n1, s0, s1, q0, q1, hr3, ho3⟩
  have u4 := ho3.two u1 hA
  have hB4 := hB1.trans (ho3.below (by omega) hB1.size)
  clear ho3 u1 hr1
  have c0 := u4.cell0
  have c1 := u4.cell1
  have f0 := u4.free 0
  have f1 := u4.free 1
  have u5 := (u4.set0 (.int .i64 n)).set1 (.int .i64 s)
  have e0 := u5.cell0
  have e1 := u5.cell1
  go_wp2
  refine bodyPost_ret (v := (.agg #[.int .i64 (n), .int .i64 (s)])) (by simp [results, Try.results25, go_sem, e0, e1]) rfl ?_
  exact ⟨n, s, rfl, by omega, by omega, by omega, by omega, (hB4.setCell (Nat.le_refl _) _).setCell (Nat.le_refl _) _⟩

set_option maxHeartbeats 1000000 in
theorem drawSawBy_any (a : Option Addr) (len cap : Nat) (w : World) (hc : CodeIn w a len cap) (hl : len ≤ 1048576) :
    Calls Try.prog 32 #[.slice a len cap] w (DTPost w) := by
  have hb0 : Below w.heap.size w (w.alloc (.cells #[.int .i64 0, .int .i64 0] 29)) := (by repeat (first | exact Below.refl _ _ | assumption | (refine Below.trans ?_ (Below.mono (by assumption) (by first | omega | (simp <;> omega)))) | (refine Below.alloc ?_ (by first | omega | (simp <;> omega)) _) | (refine below_drewN ?_ _) | (refine Below.drew ?_) | (refine Below.setCell ?_ (by first | omega | (simp <;> omega)) _)))
  go_enter Try.func32, Try.ntmps32
  go_wp2_with fail
  refine (l20Open_any a len cap _ (hc.below hb0) hl).mono ?_; rintro e w1 ⟨r, rfl, hr, hr1, hb1⟩
  simp at hr
  have hA : w.heap.size ≠ r := by omega
  have u1 := (Two.new w (.int .i64 0) (.int .i64 0) 29).same (hb1.block _ (by simp))
  have hB1 := hb0.trans (hb1.mono (by simp))
  clear hb1
  go_wp2_with fail
  refine (l20Turn_any r 0 9 _ hr1 (by omega) (by omega) (by omega)).mono ?_
  rintro e w3 ⟨n, s, q, rfl, n0, n1, s0, s1, q0, q1, hr3, ho3⟩
  have u4 := ho3.two u1 hA
  have hB4 := hB1.trans (ho3.below (by omega) hB1.size)
  clear ho3 u1 hr1
  have c0 := u4.cell0
  have c1 := u4.cell1
  have f0 := u4.free 0
  have f1 := u4.free 1
  have u5 := (u4.set0 (.int .i64 n)).set1 (.int .i64 s)
  have e0 := u5.cell0
  have e1 := u5.cell1
  go_wp2
  refine bodyPost_ret (v := (.agg #[.int .i64 (n), .int .i64 (s)])) (by simp [results, Try.results32, go_sem, e0, e1]) rfl ?_
  exact ⟨n, s, rfl, by omega, by omega, by omega, by omega, (hB4.setCell (Nat.le_refl _) _).setCell (Nat.le_refl _) _⟩
end Go.Proofs.Ytdkcodinlegheaa
