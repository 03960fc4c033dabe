/- Contracts of the Draw functions of chapter 5. Contracts of DrawTurnOfCode, DrawOnesUpTo and DrawPartsOf. Contracts of DrawCodeOk, DrawBalancedOk and DrawCodeOf. -/
import Derived.Test.YtppahekbgbbidabGTxt
import Derived.Test.YtppahekbgbbidabGWord
import Derived.Test.YtppahekbgbbidabDraw9
import Derived.Deep.RegionHeld3
import Derived.Deep.RegionWith
import Derived.Deep.Cut
set_option linter.unusedVariables false
namespace Go.Proofs.Ytppahekbgbbidab

set_option maxRecDepth 4000
open Go.ChangeShapes Go.WideShapes Go.ChangeAt Go.RowKit Go.Joins

def digS (j : Nat) : ByteArray := if j = 0 then ⟨#[48]⟩ else ⟨#[49]⟩

theorem digS_size (j : Nat) : (digS j).size = 1 := by unfold digS; split <;> rfl

theorem dig_cell {w : World} {g : Nat} (h : RowS w g #[.string ⟨#[48]⟩, .string ⟨#[49]⟩]) (j : Nat) (hj : j < 2) : w.cell? ⟨g, j, none⟩ = some (.string (digS j)) := by
  rw [h.cell j]
  match j, hj with
  | 0, _ => rfl
  | 1, _ => rfl

theorem pick2_any (r : Nat) (p : Int) (w : World) (hr : Rd w r p) (hp0 : 0 ≤ p) (hp : p ≤ 1000000) :
    Calls Try.prog 84 #[.pointer (some ⟨r, 0, none⟩), .int .i64 2] w fun e w' => ∃ j : Nat, e = .returned (.int .i64 j) ∧ j < 2 ∧ Rd w' r (p + 1) ∧ OnlyR r w w' := by
  refine (pick_any r p 2 w hr hp0 hp (by omega)).mono ?_
  rintro e w' ⟨v, rfl, a, b, r', o', s'⟩
  obtain ⟨j, rfl⟩ := Int.eq_ofNat_of_zero_le a
  exact ⟨j, rfl, by omega, r', o'⟩

def CodePost (r : Nat) (p : Int) (w : World) (e : Ending) (w' : World) : Prop :=
  ∃ (u : ByteArray) (q : Int), e = .returned (.string u) ∧ u.size ≤ 100 ∧ p ≤ q ∧ q ≤ p + 20 ∧ Rd w' r q ∧ OnlyR r w w'

set_option maxHeartbeats 4000000 in
theorem l20Code_any (r : Nat) (p n : Int) (w : World) (hr : Rd w r p) (hp0 : 0 ≤ p) (hp : p ≤ 800000) (hn : n ≤ 1000000) :
    Calls Try.prog 85 #[.pointer (some ⟨r, 0, none⟩), .int .i64 n] w (CodePost r p w) := by
  have hlt := hr.lt
  go_enter Try.func85, Try.ntmps85
  go_wp2_with fail
  refine (odd_any r p n _ hr hp0 (by omega) hn).mono ?_; rintro e w1 ⟨v1, q1, rfl, a1, b1, hr1, ho1, hs1⟩
  cases v1 with
  | true =>
    have hr2 := hr1.alloc (.cells #[.string ⟨#[50]⟩, .string ⟨#[48, 120, 49]⟩, .string ⟨#[32]⟩] 9)
    have rs2 := RowS.new w1 #[.string ⟨#[50]⟩, .string ⟨#[48, 120, 49]⟩, .string ⟨#[32]⟩]
    have ho2 := ho1.alloc (.cells #[.string ⟨#[50]⟩, .string ⟨#[48, 120, 49]⟩, .string ⟨#[32]⟩] 9)
    have hg : w1.heap.size ≠ r := by omega
    rw [hs1] at rs2 hg
    go_wp2_with fail
    refine (pick_any r q1 3 _ hr2 (by omega) (by omega) (by omega)).mono ?_; rintro e w3 ⟨v3, rfl, a3, b3, hr3, ho3, hs3⟩
    have rs3 := rs2.onlyR ho3 hg
    have ho4 := ho2.trans ho3
    have k0 : w3.cell? ⟨w.heap.size, 0, none⟩ = some (.string ⟨#[50]⟩) := rs3.cell 0
    have k1 : w3.cell? ⟨w.heap.size, 1, none⟩ = some (.string ⟨#[48, 120, 49]⟩) := rs3.cell 1
    have k2 : w3.cell? ⟨w.heap.size, 2, none⟩ = some (.string ⟨#[32]⟩) := rs3.cell 2
    have hv : v3 = 0 ∨ v3 = 1 ∨ v3 = 2 := by omega
    clear rs3 rs2 hr2 ho2 ho3 a3 b3 hr1 ho1
    rcases hv with rfl | rfl | rfl
    · go_wp2
      go_ret
      exact ⟨_, q1 + 1, rfl, by decide, by omega, by omega, hr3, ho4⟩
    · go_wp2
      go_ret
      exact ⟨_, q1 + 1, rfl, by decide, by omega, by omega, hr3, ho4⟩
    · go_wp2
      go_ret
      exact ⟨_, q1 + 1, rfl, by decide, by omega, by omega, hr3, ho4⟩
  | false =>
    go_wp2_with fail
    refine (l20Turn_any r q1 0 _ hr1 (by omega) (by omega) (by omega)).mono ?_
    rintro e w2 ⟨N, S, q2, rfl, n0, n1, s0, s1, a2, b2, hr2, ho2⟩
    have t3 : Two (w2.alloc (.cells #[.int .i64 N, .int .i64 S] 24)) w2.heap.size (.int .i64 N) (.int .i64 S) 24 := Two.new _ _ _ _
    have hr3 := hr2.alloc (.cells #[.int .i64 N, .int .i64 S] 24)
    have ho3 := (ho1.trans ho2).alloc (.cells #[.int .i64 N, .int .i64 S] 24)
    have hT : w2.heap.size ≠ r := by have := hr2.lt; omega
    have hz := ho3.size
    clear hr2 ho2 hr1 ho1
    go_wp2_with fail
    generalize w2.alloc (.cells #[.int .i64 N, .int .i64 S] 24) = w3 at *
    generalize w2.heap.size = T at *
    have c0 := t3.cell0
    have c1 := t3.cell1
    have hw1 : IntKind.i64.wrap (N + 1) = N + 1 := IntWalk.i64_in _ (by omega)
    go_region_held3 (fun w' => w'.cell? ⟨T, 0, none⟩ = some (.int .i64 N) ∧ w'.cell? ⟨T, 1, none⟩ = some (.int .i64 S))
      (first | go_keep | exact ⟨c0', c1'⟩)
      (first
        | (go_at_call 84; refine (pick_any r _ _ _ (by assumption) (by omega) (by omega) (by first | omega | (rw [hw1]; omega))).mono ?_; rintro e w' ⟨v, rfl, a, b, r', o', s'⟩; have t' := o'.two (by assumption : Two _ T (.int .i64 N) (.int .i64 S) 24) hT; have c0' := t'.cell0; have c1' := t'.cell1)
        | (go_at_call 45; refine (specCodeOf_any _ _ _ _ _).mono ?_; rintro e w' ⟨rfl, b'⟩; have t' := Two.below (b := T) (x := .int .i64 N) (y := .int .i64 S) (T := 24) (by assumption) b' (Two.lt (by assumption : Two _ T (.int .i64 N) (.int .i64 S) 24)); have c0' := t'.cell0; have c1' := t'.cell1))
    have r9 := r'.below b'
    have o9 := (((ho3.drewN 1).trans (by assumption)).trans o').ofBelow b'
    have hs9 : ∀ x y, (txtB (codeF N S x y)).size ≤ 60 := fun x y => by rw [txtB_size]; exact codeF_len _ _ _ _
    generalize hw9 : txtB (codeF N S _ v) = U at *
    have hUs : U.size ≤ 60 := by rw [← hw9]; exact hs9 _ _
    clear hs9 hw9 t' c0' c1' b' r' o' t3 c0 c1 hr3 ho3 hr
    rename_i wz _
    go_wp2_with fail
    refine (pick_any r _ 3 _ r9 (by omega) (by omega) (by omega)).mono ?_; rintro e w5 ⟨v5, rfl, a5, b5, hr5, ho5, hs5⟩
    have o5 := o9.trans ho5
    clear ho5 o9 r9
    by_cases h5 : v5 = 0 ∧ 0 < U.size
    · obtain ⟨rfl, hU0⟩ := h5
      have hU0' : (0 : Int) < U.size := by omega
      go_wp2_with fail
      refine (pick_any r _ U.size _ hr5 (by omega) (by omega) (by omega)).mono ?_; rintro e w6 ⟨v6, rfl, a6, b6, hr6, ho6, hs6⟩
      have o6 := o5.trans ho6
      clear ho6 o5 hr5
      obtain ⟨k, rfl⟩ := Int.eq_ofNat_of_zero_le a6
      have hk : k < U.size := by omega
      go_wp2_with fail
      have hw2 : IntKind.i64.wrap ((k : Int) + 1) = (k : Int) + 1 := IntWalk.i64_in _ (by omega)
      have hw3 : ((k : Int) + 1).toNat = k + 1 := by omega
      have hx1 : (U.extract 0 k).size = k := by rw [ByteArray.size_extract]; omega
      have hx2 : (U.extract (k + 1) U.size).size = U.size - (k + 1) := by rw [ByteArray.size_extract]; omega
      have hg6 : w6.heap.size ≠ r := by have := hr6.lt; omega
      have kk0 : (0 : Int) ≤ k := by omega
      have kk1 : (k : Int) ≤ U.size := by omega
      have kk2 : (k : Int) + 1 ≤ U.size := by omega
      have kk3 : (0 : Int) ≤ (k : Int) + 1 := by omega
      clear t' c0' c1' a b a5 b5 b6 n0 n1 s0 s1 hs5 hs6
      have hrA : Rd (w6.alloc (.cells #[.string ⟨#[48]⟩, .string ⟨#[49]⟩] 9)).drew r _ := Rd.drewN (Rd.alloc hr6 _) 1
      have rsA : RowS (w6.alloc (.cells #[.string ⟨#[48]⟩, .string ⟨#[49]⟩] 9)).drew w6.heap.size #[.string ⟨#[48]⟩, .string ⟨#[49]⟩] := RowS.new w6 _
      have hrB : Rd w6.drew r _ := Rd.drewN hr6 1
      have q0 : 0 ≤ q2 := by omega
      have q1' : q2 ≤ 900000 := by omega
      go_region_with (go_at_call 84; refine (pick2_any r _ _ (by assumption) (by omega) (by omega)).mono ?_; rintro e w' ⟨j, rfl, hj, r', o'⟩; have hj0 : (0 : Int) ≤ j := (by omega); have hj1 : (j : Int) < 2 := (by omega); have hds := digS_size j; have hn : (w'.alloc (.cells #[.string ⟨#[48]⟩, .string ⟨#[49]⟩] 9)).cell? ⟨w'.heap.size, j, none⟩ = some (.string (digS j)) := dig_cell (RowS.new w' #[.string ⟨#[48]⟩, .string ⟨#[49]⟩]) j hj; try (have hy : w'.cell? ⟨w6.heap.size, j, none⟩ = some (.string (digS j)) := dig_cell (RowS.onlyR rsA o' hg6) j hj))
      all_goals (
        go_wp2_with fail
        go_ret
        refine ⟨_, q2 + 1 + 1 + 1 + 1 + 1, rfl, (by simp only [ByteArray.size_append]; omega), (by omega), (by omega), ?_, ?_⟩
        · first | exact r' | exact r'.alloc _
        · first | exact ((o6.alloc _).drewN 1).trans o' | exact ((o6.drewN 1).trans o').alloc _)
    · by_cases h6 : v5 = 0
      · subst h6
        have hU0' : ¬ (0 : Int) < U.size := by omega
        go_wp2
        go_ret
        exact ⟨_, _, rfl, by omega, by omega, by omega, hr5, o5⟩
      · have h6' : (v5 == 0) = false := by simpa using h6
        go_wp2
        go_ret
        exact ⟨_, _, rfl, by omega, by omega, by omega, hr5, o5⟩
end Go.Proofs.Ytppahekbgbbidab

set_option linter.unusedVariables false
namespace Go.Proofs.Ytppahekbgbbidab

set_option maxRecDepth 4000
open Go.ChangeShapes Go.WideShapes Go.ChangeAt Go.RowKit Go.Joins

/-- a turn and a number come back -/
def DTJPost (w : World) (e : Ending) (w' : World) : Prop :=
  ∃ (n s k : Int), e = .returned (.tuple #[(.agg #[.int .i64 (n), .int .i64 (s)]), .int .i64 k]) ∧ -2 ≤ n ∧ n ≤ 100 ∧ -2 ≤ s ∧ s ≤ 100 ∧ -3000 ≤ k ∧ k ≤ 3000 ∧ Below w.heap.size w w'

/-- a text of at most 100 bytes comes back -/
def DSPost (w : World) (e : Ending) (w' : World) : Prop := ∃ u : ByteArray, e = .returned (.string u) ∧ u.size ≤ 100 ∧ Below w.heap.size w w'

set_option maxHeartbeats 1000000 in
theorem drawPartsOf_any (a : Option Addr) (len cap : Nat) (w : World) (hc : CodeIn w a len cap) (hl : len ≤ 1048576) :
    Calls Try.prog 56 #[.slice a len cap] w (DTJPost w) := by
  have hb0 : Below w.heap.size w (w.alloc (.cells #[.int .i64 0, .int .i64 0] 24)) := (by repeat (first | exact Below.refl _ _ | assumption | (refine Below.trans ?_ (Below.mono (by assumption) (by first | omega | (simp <;> omega)))) | (refine Below.alloc ?_ (by first | omega | (simp <;> omega)) _) | (refine below_drewN ?_ _) | (refine Below.drew ?_) | (refine Below.setCell ?_ (by first | omega | (simp <;> omega)) _)))
  go_enter Try.func56, Try.ntmps56
  go_wp2_with fail
  refine (l20Open_any a len cap _ (hc.below hb0) hl).mono ?_; rintro e w1 ⟨r, rfl, hr, hr1, hb1⟩
  simp at hr
  have hA : w.heap.size ≠ r := by omega
  have u1 := (Two.new w (.int .i64 0) (.int .i64 0) 24).same (hb1.block _ (by simp))
  have hB1 := hb0.trans (hb1.mono (by simp))
  clear hb1
  go_wp2_with fail
  refine (l20Many_any r 0 _ hr1 (by omega) (by omega)).mono ?_
  rintro e w3 ⟨n, s, k, q, rfl, n0, n1, s0, s1, k0, k1, q0, q1, hr3, ho3⟩
  have u3 := ho3.two u1 hA
  have hB3 := hB1.trans (ho3.below (by omega) hB1.size)
  have hz3 := u3.lt
  have u4 := u3.alloc (.cells #[.int .i64 n, .int .i64 s] 24)
  have t4 : Two (w3.alloc (.cells #[.int .i64 n, .int .i64 s] 24)) w3.heap.size (.int .i64 n) (.int .i64 s) 24 := Two.new _ _ _ _
  have hB4 := hB3.alloc hB3.size (.cells #[.int .i64 n, .int .i64 s] 24)
  clear ho3 u1 hr1
  go_upto_region 3 with fail
  generalize w3.alloc (.cells #[.int .i64 n, .int .i64 s] 24) = w4 at *
  generalize w3.heap.size = T at *
  have c0 := u4.cell0
  have c1 := u4.cell1
  have d0 := t4.cell0
  have d1 := t4.cell1
  have f0 := u4.free 0
  have f1 := u4.free 1
  have u5 := (u4.set0 (.int .i64 n)).set1 (.int .i64 s)
  have e0 := u5.cell0
  have e1 := u5.cell1
  go_wp2
  refine bodyPost_ret (v := .tuple #[(.agg #[.int .i64 (n), .int .i64 (s)]), .int .i64 (k - 1)]) (by simp [results, Try.results56, go_sem, e0, e1]) rfl ?_
  exact ⟨n, s, k - 1, rfl, by omega, by omega, by omega, by omega, by omega, by omega, (hB4.setCell (Nat.le_refl _) _).setCell (Nat.le_refl _) _⟩

set_option maxHeartbeats 2000000 in
theorem drawOnesUpTo_any (a : Option Addr) (len cap : Nat) (w : World) (hc : CodeIn w a len cap) (hl : len ≤ 1048576) :
    Calls Try.prog 55 #[.slice a len cap] w (DTJPost w) := by
  have hb0 : Below w.heap.size w (w.alloc (.cells #[.int .i64 0, .int .i64 0] 24)) := (by repeat (first | exact Below.refl _ _ | assumption | (refine Below.trans ?_ (Below.mono (by assumption) (by first | omega | (simp <;> omega)))) | (refine Below.alloc ?_ (by first | omega | (simp <;> omega)) _) | (refine below_drewN ?_ _) | (refine Below.drew ?_) | (refine Below.setCell ?_ (by first | omega | (simp <;> omega)) _)))
  go_enter Try.func55, Try.ntmps55
  go_wp2_with fail
  refine (l20Open_any a len cap _ (hc.below hb0) hl).mono ?_; rintro e w1 ⟨r, rfl, hr, hr1, hb1⟩
  simp at hr
  have hA : w.heap.size ≠ r := by omega
  have u1 := (Two.new w (.int .i64 0) (.int .i64 0) 24).same (hb1.block _ (by simp))
  have hB1 := hb0.trans (hb1.mono (by simp))
  clear hb1
  go_wp2_with fail
  refine (l20Many_any r 0 _ hr1 (by omega) (by omega)).mono ?_
  rintro e w3 ⟨n, s, k, q, rfl, n0, n1, s0, s1, k0, k1, q0, q1, hr3, ho3⟩
  have u3 := ho3.two u1 hA
  have hB3 := hB1.trans (ho3.below (by omega) hB1.size)
  have hz3 := u3.lt
  have hzr := hr3.lt
  have u4 := u3.alloc (.cells #[.int .i64 n, .int .i64 s] 24)
  have t4 : Two (w3.alloc (.cells #[.int .i64 n, .int .i64 s] 24)) w3.heap.size (.int .i64 n) (.int .i64 s) 24 := Two.new _ _ _ _
  have hB4 := hB3.alloc hB3.size (.cells #[.int .i64 n, .int .i64 s] 24)
  have hr4 := hr3.alloc (.cells #[.int .i64 n, .int .i64 s] 24)
  have hT : w3.heap.size ≠ r := by omega
  have hTA : w3.heap.size ≠ w.heap.size := by omega
  clear ho3 u1 hr1 hr3 u3 hB3
  go_wp2_with fail
  generalize w3.alloc (.cells #[.int .i64 n, .int .i64 s] 24) = w4 at *
  generalize w3.heap.size = T at *
  have c0 := t4.cell0
  have c1 := t4.cell1
  have d0 := u4.cell0
  have d1 := u4.cell1
  have f0 := u4.free 0
  have f1 := u4.free 1
  go_region_held3 (fun w' => w'.cell? ⟨T, 0, none⟩ = some (.int .i64 n) ∧ w'.cell? ⟨T, 1, none⟩ = some (.int .i64 s))
    (first | go_keep | exact ⟨c0', c1'⟩ | exact ⟨((t'.set (b := w.heap.size) (Ne.symm hTA) 0 _).set (b := w.heap.size) (Ne.symm hTA) 1 _).cell0, ((t'.set (b := w.heap.size) (Ne.symm hTA) 0 _).set (b := w.heap.size) (Ne.symm hTA) 1 _).cell1⟩)
    (first | (go_at_call 84; refine (pick_any r _ _ _ (by assumption) (by omega) (by omega) (by omega)).mono ?_; rintro e w' ⟨v, rfl, a, b, r', o', s'⟩; have t' := o'.two (by assumption : Two _ T (.int .i64 n) (.int .i64 s) 24) hT; have u' := o'.two (by assumption : Two _ w.heap.size (.int .i64 0) (.int .i64 0) 24) hA; have c0' := t'.cell0; have c1' := t'.cell1; have d0' := u'.cell0; have d1' := u'.cell1; have f0' := u'.free 0; have f1' := u'.free 1))
  have u9 := (u'.set0 (.int .i64 n)).set1 (.int .i64 s)
  have e0 := u9.cell0
  have e1 := u9.cell1
  have hs' := o'.size
  have hB9 := hB4.trans ((OnlyR.drewN (OnlyR.refl r _) 1).trans o' |>.below (by omega : w.heap.size ≤ r) hB4.size)
  have hv : v < 9 := by omega
  have hq : v.tdiv 8 = 0 ∨ v.tdiv 8 = 1 := by
    rw [Int.tdiv_eq_ediv_of_nonneg a]
    omega
  generalize v.tdiv 8 = z at *
  have hwz : IntKind.i64.wrap z = z := IntWalk.i64_in _ (by omega)
  have hwk : IntKind.i64.wrap (k - z) = k - z := IntWalk.i64_in _ (by omega)
  go_wp2
  refine bodyPost_ret (v := .tuple #[(.agg #[.int .i64 (n), .int .i64 (s)]), .int .i64 (k - z)]) (by simp [results, Try.results55, go_sem, e0, e1, hwz, hwk]) rfl ?_
  exact ⟨n, s, k - z, rfl, by omega, by omega, by omega, by omega, by omega, by omega, (hB9.setCell (Nat.le_refl _) _).setCell (Nat.le_refl _) _⟩

set_option maxHeartbeats 2000000 in
theorem drawTurnOfCode_any (a : Option Addr) (len cap : Nat) (w : World) (hc : CodeIn w a len cap) (hl : len ≤ 1048576) :
    Calls Try.prog 57 #[.slice a len cap] w (DSPost w) := by
  go_enter Try.func57, Try.ntmps57
  go_wp2_with fail
  refine (l20Open_any a len cap _ hc hl).mono ?_; rintro e w1 ⟨r, rfl, hr, hr1, hb1⟩
  go_wp2_with fail
  refine (pick_any r 0 3 _ hr1 (by omega) (by omega) (by omega)).mono ?_; rintro e w2 ⟨v2, rfl, a2, b2, hr2, ho2, hs2⟩
  have hB2 := hb1.trans (ho2.below hr hb1.size)
  have hzr := hr2.lt
  clear hr1 ho2 hb1 hs2
  by_cases h0 : v2 = 0
  · subst h0
    go_wp2_with fail
    refine (l20Code_any r _ 6 _ hr2 (by omega) (by omega) (by omega)).mono ?_
    rintro e w3 ⟨u, q, rfl, hu, q0, q1, hr3, ho3⟩
    have hB3 := hB2.trans (ho3.below hr hB2.size)
    go_wp2
    go_ret
    exact ⟨_, rfl, hu, hB3⟩
  · have h0' : (v2 == 0) = false := by simpa using h0
    go_wp2_with fail
    refine (l20Turn_any r _ 0 _ hr2 (by omega) (by omega) (by omega)).mono ?_
    rintro e w3 ⟨n, s, q, rfl, n0, n1, s0, s1, q0, q1, hr3, ho3⟩
    have hB3 := hB2.trans (ho3.below hr hB2.size)
    have hz3 := hr3.lt
    have t4 : Two (w3.alloc (.cells #[.int .i64 n, .int .i64 s] 24)) w3.heap.size (.int .i64 n) (.int .i64 s) 24 := Two.new _ _ _ _
    have hB4 := hB3.alloc hB3.size (.cells #[.int .i64 n, .int .i64 s] 24)
    have hr4 := hr3.alloc (.cells #[.int .i64 n, .int .i64 s] 24)
    have hT : w3.heap.size ≠ r := by omega
    clear hr3 ho3 hB3
    go_wp2_with fail
    generalize w3.alloc (.cells #[.int .i64 n, .int .i64 s] 24) = w4 at *
    generalize w3.heap.size = T at *
    have c0 := t4.cell0
    have c1 := t4.cell1
    go_region_held3 (fun w' => w'.cell? ⟨T, 0, none⟩ = some (.int .i64 n) ∧ w'.cell? ⟨T, 1, none⟩ = some (.int .i64 s))
      (first | go_keep | exact ⟨c0', c1'⟩)
      (first
        | (go_at_call 84; refine (pick_any r _ _ _ (by assumption) (by omega) (by omega) (by omega)).mono ?_; rintro e w' ⟨v, rfl, a, b, r', o', s'⟩; have t' := o'.two (by assumption : Two _ T (.int .i64 n) (.int .i64 s) 24) hT; have c0' := t'.cell0; have c1' := t'.cell1)
        | (go_at_call 45; refine (specCodeOf_any _ _ _ _ _).mono ?_; rintro e w' ⟨rfl, b'⟩; have t' := Two.below (b := T) (x := .int .i64 n) (y := .int .i64 s) (T := 24) (by assumption) b' (Two.lt (by assumption : Two _ T (.int .i64 n) (.int .i64 s) 24)); have c0' := t'.cell0; have c1' := t'.cell1))
    have hs9 : ∀ x y, (txtB (codeF n s x y)).size ≤ 60 := fun x y => by rw [txtB_size]; exact codeF_len _ _ _ _
    have hB5 := hB4.trans ((OnlyR.drewN (OnlyR.refl r _) 1).trans o' |>.below (by omega : w.heap.size ≤ r) hB4.size)
    have hB9 := hB5.trans (b'.mono hB5.size)
    go_wp2
    go_ret
    exact ⟨_, rfl, Nat.le_trans (hs9 _ _) (by omega), hB9⟩
end Go.Proofs.Ytppahekbgbbidab

set_option linter.unusedVariables false
namespace Go.Proofs.Ytppahekbgbbidab

set_option maxRecDepth 4000
open Go.ChangeShapes Go.WideShapes Go.ChangeAt Go.RowKit Go.Joins

def DTII0Post (w : World) (e : Ending) (w' : World) : Prop :=
  ∃ (n s k m : Int), e = .returned (.tuple #[(.agg #[.int .i64 (n), .int .i64 (s)]), .int .i64 k, .int .i64 m]) ∧ Below w.heap.size w w'

end Go.Proofs.Ytppahekbgbbidab
