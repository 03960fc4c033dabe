/- Contracts of chapter 7's functions of the program: steps until something holds. -/
import Derived.Test.YtkhnnbgmckeoaaaRetF
import Derived.Test.YtkhnnbgmckeoaaaOne
set_option linter.unusedVariables false
namespace Go.Proofs.Ytkhnnbgmckeoaaa

set_option maxRecDepth 4000
open Go.ChangeShapes Go.WideShapes Go.ChangeAt Go.RowKit Go.Joins N

set_option maxHeartbeats 1000000 in
theorem pointAfter_any (n s p k : Int) (w : World) (n0 : 2 ≤ n) (n1 : n ≤ 60) (s0 : 0 ≤ s) (s1 : s ≤ 60) (k0 : 0 ≤ k) (k1 : k ≤ 200) (p0 : 0 ≤ p) (p1 : p ≤ 60) :
    Calls Try.prog 66 #[(.agg #[.int .i64 (n), .int .i64 (s)]), .int .i64 p, .int .i64 k] w fun e w' => e = .returned (.int .i64 ((p + k * s) % n)) ∧ Below w.heap.size w w' := by
  
  rw [← Int.add_emod_emod p (k * s) n]
  have H1 := Lib.hid (fun w => pointAt_any n s k w n0 n1 s0 s1 k0 k1)
  have g0 := Int.emod_nonneg (k * s) (by omega : n ≠ 0)
  have g1 : k * s % n < n := Int.emod_lt_of_pos _ (by omega)
  generalize k * s % n = A at *
  have wr1 : IntKind.i64.wrap (p + A) = p + A := IntWalk.i64_in _ (by omega)
  have tm1 : (p + A).tmod n = (p + A) % n := Int.tmod_eq_emod_of_nonneg (by omega)
  have nz : ¬ n = 0 := by omega
  have g2 := Int.emod_nonneg (p + A) (by omega : n ≠ 0)
  have g3 : (p + A) % n < n := Int.emod_lt_of_pos _ (by omega)
  have hB0 : Below w.heap.size w (w.alloc (.cells #[.int .i64 n, .int .i64 s] 24)) := (by repeat (first | exact Below.refl _ _ | assumption | (refine Below.trans ?_ (Below.mono (by assumption) (by first | omega | (simp <;> omega)))) | (refine Below.alloc ?_ (by first | omega | (simp <;> omega)) _) | (refine below_drewN ?_ _) | (refine Below.drew ?_) | (refine Below.setCell ?_ (by first | omega | (simp <;> omega)) _)))
  have t0 : Two (w.alloc (.cells #[.int .i64 n, .int .i64 s] 24)) w.heap.size (.int .i64 n) (.int .i64 s) 24 := Two.new _ _ _ _
  go_enter Try.func66, Try.ntmps66
  go_wp2_with fail
  generalize w.alloc (.cells #[.int .i64 n, .int .i64 s] 24) = W at *
  have hz := hB0.size
  have c0 := t0.cell0
  have c1 := t0.cell1
  go_region_held3 (fun w' => w'.cell? ⟨w.heap.size, 0, none⟩ = some (.int .i64 n) ∧ w'.cell? ⟨w.heap.size, 1, none⟩ = some (.int .i64 s))
    (first | go_keep | exact ⟨t'c, t'd⟩)
    (first | (go_at_call 87; (with_reducible refine (H1.out _).mono ?_); rintro e w' ⟨rfl, hb'⟩; have t' : Two w' w.heap.size (.int .i64 n) (.int .i64 s) 24 := Two.below (Two.drewS t0) hb' t0.lt; have B' : Below w.heap.size w w' := (below_drewN hB0 1).trans (hb'.mono hz); have t'c := t'.cell0; have t'd := t'.cell1))
  go_wp2
  go_ret
  exact ⟨rfl, B'⟩

set_option maxHeartbeats 1000000 in
theorem closRet_any (u x : Int) (w : World) (b : Nat)  (hb : One w b (.int .i64 u) 3) :
    Calls Try.prog 62 #[.int .i64 x, .pointer (some ⟨b, 0, none⟩)] w fun e w' => e = .returned (.bool (decide (x < u))) ∧ Below w.heap.size w w' := by
  have d0 := hb.cell
  have hB0 := Below.refl w.heap.size w
  go_enter Try.func62, Try.ntmps62
  go_wp2
  go_ret
  exact ⟨rfl, hB0⟩

set_option maxHeartbeats 2000000 in
theorem untilRet_any (n s u p : Int) (K : Nat) (w : World) (b : Nat) (n2 : 2 ≤ n) (n60 : n ≤ 60) (s0 : 0 ≤ s) (s1 : s ≤ 60) (p0 : 0 ≤ p) (p1 : p ≤ 60)  (hF : IsFirst (fun x => decide (x < u)) n s p K) (hb : One w b (.int .i64 u) 3) :
    Calls Try.prog 61 #[(.agg #[.int .i64 (n), .int .i64 (s)]), .int .i64 p, .func (.func 62) #[] #[.pointer (some ⟨b, 0, none⟩)]] w fun e w' => e = .returned (.int .i64 (K : Nat)) ∧ Below w.heap.size w w' := by
  have HC := Lib.hid (fun (x : Int) (wr : World) (hB : Below w.heap.size w wr) => closRet_any u x wr b  (hb.below hB hb.lt))
  have k1 := hF.pos
  have k2 := hF.le
  have HH := Lib.hid hF.hit
  have HM := Lib.hid hF.miss
  have HA := Lib.hid (fun (k : Nat) (wr : World) (hk : k ≤ K) => pointAfter_any n s p k wr n2 n60 s0 s1 (by omega) (by omega) p0 p1)
  have t0 : Two (w.alloc (.cells #[.int .i64 n, .int .i64 s] 24)) w.heap.size (.int .i64 n) (.int .i64 s) 24 := Two.new _ _ _ _
  have hB0 : Below w.heap.size w (w.alloc (.cells #[.int .i64 n, .int .i64 s] 24)) := (by repeat (first | exact Below.refl _ _ | assumption | (refine Below.trans ?_ (Below.mono (by assumption) (by first | omega | (simp <;> omega)))) | (refine Below.alloc ?_ (by first | omega | (simp <;> omega)) _) | (refine below_drewN ?_ _) | (refine Below.drew ?_) | (refine Below.setCell ?_ (by first | omega | (simp <;> omega)) _)))
  clear hF hb
  go_enter Try.func61, Try.ntmps61
  go_wp2_with fail
  go_loopw [7] (fun x wr => ∃ k : Nat, x = .int .i64 k ∧ 1 ≤ k ∧ k ≤ K ∧ Two wr w.heap.size (.int .i64 n) (.int .i64 s) 24 ∧ Below w.heap.size w wr) (fun x _ => K - (intOf x).toNat)
  case atStart => exact ⟨1, rfl, by omega, by omega, t0, hB0⟩
  case round =>
    obtain ⟨k, rfl, hk1, hk, t1, hB⟩ := hrel
    clear t0 hB0
    have t1c := t1.cell0
    have t1d := t1.cell1
    go_wp2_with fail
    refine (HA.out k _ hk).mono ?_; rintro e w2 ⟨rfl, hb2⟩
    have hB2 := hB.trans (hb2.mono hB.size)
    have t2 := t1.below hb2 t1.lt
    clear t1 t1c t1d hb2 hB
    have hcall := HC.out (fromP n s p k) w2 hB2
    have hM := Lib.hid (fun (h : k < K) => HM.out k hk1 h)
    have hH := Lib.hid (fun (h : k = K) => (h ▸ HH.out : (fun x => decide (x < u)) (fromP n s p k) = true))
    have hv : (p + (k : Int) * s) % n = fromP n s p k := rfl
    rw [hv]
    clear hv
    generalize fromP n s p k = x at *
    have hM : Hid (k < K → (decide (x < u)) = false) := hM
    have hH : Hid (k = K → (decide (x < u)) = true) := hH
    generalize hP : (decide (x < u)) = B at *
    clear hP
    by_cases hkm : k < K
    · obtain rfl := hM.out hkm
      go_wp2_with fail
      refine hcall.mono ?_; rintro e w3 ⟨rfl, hb3⟩
      have hB3 := hB2.trans (hb3.mono hB2.size)
      have t3 := t2.below hb3 t2.lt
      clear hb3 hB2 t2 hcall
      go_wp2_with fail
      go_roundw
      case rel => exact ⟨k + 1, by go_num, by omega, by omega, t3, hB3⟩
      case measure => simp only [intOf]; omega
    · obtain rfl : k = K := by omega
      obtain rfl := hH.out rfl
      go_wp2_with fail
      refine hcall.mono ?_; rintro e w3 ⟨rfl, hb3⟩
      have hB3 := hB2.trans (hb3.mono hB2.size)
      clear hb3 hB2 t2 hcall
      go_wp2
      go_ret
      exact ⟨rfl, hB3⟩

set_option maxHeartbeats 1000000 in
theorem closUp_any (u x : Int) (w : World) (b : Nat)  (hb : One w b (.int .i64 u) 3) :
    Calls Try.prog 74 #[.int .i64 x, .pointer (some ⟨b, 0, none⟩)] w fun e w' => e = .returned (.bool (decide (x < u))) ∧ Below w.heap.size w w' := by
  have d0 := hb.cell
  have hB0 := Below.refl w.heap.size w
  go_enter Try.func74, Try.ntmps74
  go_wp2
  go_ret
  exact ⟨rfl, hB0⟩

set_option maxHeartbeats 2000000 in
theorem untilUp_any (n s u p : Int) (K : Nat) (w : World) (b : Nat) (n2 : 2 ≤ n) (n60 : n ≤ 60) (s0 : 0 ≤ s) (s1 : s ≤ 60) (p0 : 0 ≤ p) (p1 : p ≤ 60)  (hF : IsFirst (fun x => decide (x < u)) n s p K) (hb : One w b (.int .i64 u) 3) :
    Calls Try.prog 61 #[(.agg #[.int .i64 (n), .int .i64 (s)]), .int .i64 p, .func (.func 74) #[] #[.pointer (some ⟨b, 0, none⟩)]] w fun e w' => e = .returned (.int .i64 (K : Nat)) ∧ Below w.heap.size w w' := by
  have HC := Lib.hid (fun (x : Int) (wr : World) (hB : Below w.heap.size w wr) => closUp_any u x wr b  (hb.below hB hb.lt))
  have k1 := hF.pos
  have k2 := hF.le
  have HH := Lib.hid hF.hit
  have HM := Lib.hid hF.miss
  have HA := Lib.hid (fun (k : Nat) (wr : World) (hk : k ≤ K) => pointAfter_any n s p k wr n2 n60 s0 s1 (by omega) (by omega) p0 p1)
  have t0 : Two (w.alloc (.cells #[.int .i64 n, .int .i64 s] 24)) w.heap.size (.int .i64 n) (.int .i64 s) 24 := Two.new _ _ _ _
  have hB0 : Below w.heap.size w (w.alloc (.cells #[.int .i64 n, .int .i64 s] 24)) := (by repeat (first | exact Below.refl _ _ | assumption | (refine Below.trans ?_ (Below.mono (by assumption) (by first | omega | (simp <;> omega)))) | (refine Below.alloc ?_ (by first | omega | (simp <;> omega)) _) | (refine below_drewN ?_ _) | (refine Below.drew ?_) | (refine Below.setCell ?_ (by first | omega | (simp <;> omega)) _)))
  clear hF hb
  go_enter Try.func61, Try.ntmps61
  go_wp2_with fail
  go_loopw [7] (fun x wr => ∃ k : Nat, x = .int .i64 k ∧ 1 ≤ k ∧ k ≤ K ∧ Two wr w.heap.size (.int .i64 n) (.int .i64 s) 24 ∧ Below w.heap.size w wr) (fun x _ => K - (intOf x).toNat)
  case atStart => exact ⟨1, rfl, by omega, by omega, t0, hB0⟩
  case round =>
    obtain ⟨k, rfl, hk1, hk, t1, hB⟩ := hrel
    clear t0 hB0
    have t1c := t1.cell0
    have t1d := t1.cell1
    go_wp2_with fail
    refine (HA.out k _ hk).mono ?_; rintro e w2 ⟨rfl, hb2⟩
    have hB2 := hB.trans (hb2.mono hB.size)
    have t2 := t1.below hb2 t1.lt
    clear t1 t1c t1d hb2 hB
    have hcall := HC.out (fromP n s p k) w2 hB2
    have hM := Lib.hid (fun (h : k < K) => HM.out k hk1 h)
    have hH := Lib.hid (fun (h : k = K) => (h ▸ HH.out : (fun x => decide (x < u)) (fromP n s p k) = true))
    have hv : (p + (k : Int) * s) % n = fromP n s p k := rfl
    rw [hv]
    clear hv
    generalize fromP n s p k = x at *
    have hM : Hid (k < K → (decide (x < u)) = false) := hM
    have hH : Hid (k = K → (decide (x < u)) = true) := hH
    generalize hP : (decide (x < u)) = B at *
    clear hP
    by_cases hkm : k < K
    · obtain rfl := hM.out hkm
      go_wp2_with fail
      refine hcall.mono ?_; rintro e w3 ⟨rfl, hb3⟩
      have hB3 := hB2.trans (hb3.mono hB2.size)
      have t3 := t2.below hb3 t2.lt
      clear hb3 hB2 t2 hcall
      go_wp2_with fail
      go_roundw
      case rel => exact ⟨k + 1, by go_num, by omega, by omega, t3, hB3⟩
      case measure => simp only [intOf]; omega
    · obtain rfl : k = K := by omega
      obtain rfl := hH.out rfl
      go_wp2_with fail
      refine hcall.mono ?_; rintro e w3 ⟨rfl, hb3⟩
      have hB3 := hB2.trans (hb3.mono hB2.size)
      clear hb3 hB2 t2 hcall
      go_wp2
      go_ret
      exact ⟨rfl, hB3⟩

set_option maxHeartbeats 1000000 in
theorem closDown_any (n s u x : Int) (w : World) (a b : Nat) (n2 : 2 ≤ n) (n60 : n ≤ 60) (u0 : 0 ≤ u) (u1 : u ≤ n) (ha : Two w a (.int .i64 n) (.int .i64 s) 24) (hb : One w b (.int .i64 u) 3) :
    Calls Try.prog 77 #[.int .i64 x, .pointer (some ⟨a, 0, none⟩), .pointer (some ⟨b, 0, none⟩)] w fun e w' => e = .returned (.bool (decide (n - u < x))) ∧ Below w.heap.size w w' := by
  have hwu : IntKind.i64.wrap (n - u) = n - u := IntWalk.i64_in _ (by omega)
  have c0 := ha.cell0
  have c1 := ha.cell1
  have d0 := hb.cell
  have hB0 := Below.refl w.heap.size w
  go_enter Try.func77, Try.ntmps77
  go_wp2
  go_ret
  exact ⟨rfl, hB0⟩

set_option maxHeartbeats 2000000 in
theorem untilDown_any (n s u p : Int) (K : Nat) (w : World) (a b : Nat) (n2 : 2 ≤ n) (n60 : n ≤ 60) (s0 : 0 ≤ s) (s1 : s ≤ 60) (p0 : 0 ≤ p) (p1 : p ≤ 60) (u0 : 0 ≤ u) (u1 : u ≤ n) (hF : IsFirst (fun x => decide (n - u < x)) n s p K) (ha : Two w a (.int .i64 n) (.int .i64 s) 24) (hb : One w b (.int .i64 u) 3) :
    Calls Try.prog 61 #[(.agg #[.int .i64 (n), .int .i64 (s)]), .int .i64 p, .func (.func 77) #[] #[.pointer (some ⟨a, 0, none⟩), .pointer (some ⟨b, 0, none⟩)]] w fun e w' => e = .returned (.int .i64 (K : Nat)) ∧ Below w.heap.size w w' := by
  have HC := Lib.hid (fun (x : Int) (wr : World) (hB : Below w.heap.size w wr) => closDown_any n s u x wr a b n2 n60 u0 u1 (ha.below hB ha.lt) (hb.below hB hb.lt))
  have k1 := hF.pos
  have k2 := hF.le
  have HH := Lib.hid hF.hit
  have HM := Lib.hid hF.miss
  have HA := Lib.hid (fun (k : Nat) (wr : World) (hk : k ≤ K) => pointAfter_any n s p k wr n2 n60 s0 s1 (by omega) (by omega) p0 p1)
  have t0 : Two (w.alloc (.cells #[.int .i64 n, .int .i64 s] 24)) w.heap.size (.int .i64 n) (.int .i64 s) 24 := Two.new _ _ _ _
  have hB0 : Below w.heap.size w (w.alloc (.cells #[.int .i64 n, .int .i64 s] 24)) := (by repeat (first | exact Below.refl _ _ | assumption | (refine Below.trans ?_ (Below.mono (by assumption) (by first | omega | (simp <;> omega)))) | (refine Below.alloc ?_ (by first | omega | (simp <;> omega)) _) | (refine below_drewN ?_ _) | (refine Below.drew ?_) | (refine Below.setCell ?_ (by first | omega | (simp <;> omega)) _)))
  clear hF ha hb
  go_enter Try.func61, Try.ntmps61
  go_wp2_with fail
  go_loopw [7] (fun x wr => ∃ k : Nat, x = .int .i64 k ∧ 1 ≤ k ∧ k ≤ K ∧ Two wr w.heap.size (.int .i64 n) (.int .i64 s) 24 ∧ Below w.heap.size w wr) (fun x _ => K - (intOf x).toNat)
  case atStart => exact ⟨1, rfl, by omega, by omega, t0, hB0⟩
  case round =>
    obtain ⟨k, rfl, hk1, hk, t1, hB⟩ := hrel
    clear t0 hB0
    have t1c := t1.cell0
    have t1d := t1.cell1
    go_wp2_with fail
    refine (HA.out k _ hk).mono ?_; rintro e w2 ⟨rfl, hb2⟩
    have hB2 := hB.trans (hb2.mono hB.size)
    have t2 := t1.below hb2 t1.lt
    clear t1 t1c t1d hb2 hB
    have hcall := HC.out (fromP n s p k) w2 hB2
    have hM := Lib.hid (fun (h : k < K) => HM.out k hk1 h)
    have hH := Lib.hid (fun (h : k = K) => (h ▸ HH.out : (fun x => decide (n - u < x)) (fromP n s p k) = true))
    have hv : (p + (k : Int) * s) % n = fromP n s p k := rfl
    rw [hv]
    clear hv
    generalize fromP n s p k = x at *
    have hM : Hid (k < K → (decide (n - u < x)) = false) := hM
    have hH : Hid (k = K → (decide (n - u < x)) = true) := hH
    generalize hP : (decide (n - u < x)) = B at *
    clear hP
    by_cases hkm : k < K
    · obtain rfl := hM.out hkm
      go_wp2_with fail
      refine hcall.mono ?_; rintro e w3 ⟨rfl, hb3⟩
      have hB3 := hB2.trans (hb3.mono hB2.size)
      have t3 := t2.below hb3 t2.lt
      clear hb3 hB2 t2 hcall
      go_wp2_with fail
      go_roundw
      case rel => exact ⟨k + 1, by go_num, by omega, by omega, t3, hB3⟩
      case measure => simp only [intOf]; omega
    · obtain rfl : k = K := by omega
      obtain rfl := hH.out rfl
      go_wp2_with fail
      refine hcall.mono ?_; rintro e w3 ⟨rfl, hb3⟩
      have hB3 := hB2.trans (hb3.mono hB2.size)
      clear hb3 hB2 t2 hcall
      go_wp2
      go_ret
      exact ⟨rfl, hB3⟩
end Go.Proofs.Ytkhnnbgmckeoaaa
