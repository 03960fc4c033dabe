/- Contracts of chapter 7's functions of the program: steps until something holds. Contracts of chapter 7's functions of the program. Contract of ReturnsBy of the program. -/
import Derived.Test.YtppahekbgbbidacGRet
import Derived.Test.YtppahekbgbbidacOne
import Derived.Test.YtppahekbgbbidacGRetS
import Derived.Test.YtppahekbgbbidacGList
import Derived.Deep.Cut
set_option linter.unusedVariables false
namespace Go.Proofs.Ytppahekbgbbidac

set_option maxRecDepth 4000
open Go.ChangeShapes Go.WideShapes Go.ChangeAt Go.RowKit Go.Joins N

set_option maxHeartbeats 1000000 in
theorem pointAfter_any (n s p k : Int) (w : World) (n0 : 2 ≤ n) (n1 : n ≤ 60) (s0 : 0 ≤ s) (s1 : s ≤ 60) (k0 : 0 ≤ k) (k1 : k ≤ 200) (p0 : 0 ≤ p) (p1 : p ≤ 60) :
    Calls Try.prog 108 #[(.agg #[.int .i64 (n), .int .i64 (s)]), .int .i64 p, .int .i64 k] w fun e w' => e = .returned (.int .i64 ((p + k * s) % n)) ∧ Below w.heap.size w w' := by
  
  rw [← Int.add_emod_emod p (k * s) n]
  have H1 := Lib.hid (fun w => pointAt_any n s k w n0 n1 s0 s1 k0 k1)
  have g0 := Int.emod_nonneg (k * s) (by omega : n ≠ 0)
  have g1 : k * s % n < n := Int.emod_lt_of_pos _ (by omega)
  generalize k * s % n = A at *
  have wr1 : IntKind.i64.wrap (p + A) = p + A := IntWalk.i64_in _ (by omega)
  have tm1 : (p + A).tmod n = (p + A) % n := Int.tmod_eq_emod_of_nonneg (by omega)
  have nz : ¬ n = 0 := by omega
  have g2 := Int.emod_nonneg (p + A) (by omega : n ≠ 0)
  have g3 : (p + A) % n < n := Int.emod_lt_of_pos _ (by omega)
  have hB0 : Below w.heap.size w (w.alloc (.cells #[.int .i64 n, .int .i64 s] 24)) := (by repeat (first | exact Below.refl _ _ | assumption | (refine Below.trans ?_ (Below.mono (by assumption) (by first | omega | (simp <;> omega)))) | (refine Below.alloc ?_ (by first | omega | (simp <;> omega)) _) | (refine below_drewN ?_ _) | (refine Below.drew ?_) | (refine Below.setCell ?_ (by first | omega | (simp <;> omega)) _)))
  have t0 : Two (w.alloc (.cells #[.int .i64 n, .int .i64 s] 24)) w.heap.size (.int .i64 n) (.int .i64 s) 24 := Two.new _ _ _ _
  go_enter Try.func108, Try.ntmps108
  go_wp2_with fail
  generalize w.alloc (.cells #[.int .i64 n, .int .i64 s] 24) = W at *
  have hz := hB0.size
  have c0 := t0.cell0
  have c1 := t0.cell1
  go_region_held3 (fun w' => w'.cell? ⟨w.heap.size, 0, none⟩ = some (.int .i64 n) ∧ w'.cell? ⟨w.heap.size, 1, none⟩ = some (.int .i64 s))
    (first | go_keep | exact ⟨t'c, t'd⟩)
    (first | (go_at_call 63; (with_reducible refine (H1.out _).mono ?_); rintro e w' ⟨rfl, hb'⟩; have t' : Two w' w.heap.size (.int .i64 n) (.int .i64 s) 24 := Two.below (Two.drewS t0) hb' t0.lt; have B' : Below w.heap.size w w' := (below_drewN hB0 1).trans (hb'.mono hz); have t'c := t'.cell0; have t'd := t'.cell1))
  go_wp2
  go_ret
  exact ⟨rfl, B'⟩

set_option maxHeartbeats 1000000 in
theorem closRet_any (u x : Int) (w : World) (b : Nat)  (hb : One w b (.int .i64 u) 3) :
    Calls Try.prog 111 #[.int .i64 x, .pointer (some ⟨b, 0, none⟩)] w fun e w' => e = .returned (.bool (decide (x < u))) ∧ Below w.heap.size w w' := by
  have d0 := hb.cell
  have hB0 := Below.refl w.heap.size w
  go_enter Try.func111, Try.ntmps111
  go_wp2
  go_ret
  exact ⟨rfl, hB0⟩

set_option maxHeartbeats 2000000 in
theorem untilRet_any (n s u p : Int) (K : Nat) (w : World) (b : Nat) (n2 : 2 ≤ n) (n60 : n ≤ 60) (s0 : 0 ≤ s) (s1 : s ≤ 60) (p0 : 0 ≤ p) (p1 : p ≤ 60)  (hF : IsFirst (fun x => decide (x < u)) n s p K) (hb : One w b (.int .i64 u) 3) :
    Calls Try.prog 97 #[(.agg #[.int .i64 (n), .int .i64 (s)]), .int .i64 p, .func (.func 111) #[] #[.pointer (some ⟨b, 0, none⟩)]] w fun e w' => e = .returned (.int .i64 (K : Nat)) ∧ Below w.heap.size w w' := by
  have HC := Lib.hid (fun (x : Int) (wr : World) (hB : Below w.heap.size w wr) => closRet_any u x wr b  (hb.below hB hb.lt))
  have k1 := hF.pos
  have k2 := hF.le
  have HH := Lib.hid hF.hit
  have HM := Lib.hid hF.miss
  have HA := Lib.hid (fun (k : Nat) (wr : World) (hk : k ≤ K) => pointAfter_any n s p k wr n2 n60 s0 s1 (by omega) (by omega) p0 p1)
  have t0 : Two (w.alloc (.cells #[.int .i64 n, .int .i64 s] 24)) w.heap.size (.int .i64 n) (.int .i64 s) 24 := Two.new _ _ _ _
  have hB0 : Below w.heap.size w (w.alloc (.cells #[.int .i64 n, .int .i64 s] 24)) := (by repeat (first | exact Below.refl _ _ | assumption | (refine Below.trans ?_ (Below.mono (by assumption) (by first | omega | (simp <;> omega)))) | (refine Below.alloc ?_ (by first | omega | (simp <;> omega)) _) | (refine below_drewN ?_ _) | (refine Below.drew ?_) | (refine Below.setCell ?_ (by first | omega | (simp <;> omega)) _)))
  clear hF hb
  go_enter Try.func97, Try.ntmps97
  go_wp2_with fail
  go_loopw [7] (fun x wr => ∃ k : Nat, x = .int .i64 k ∧ 1 ≤ k ∧ k ≤ K ∧ Two wr w.heap.size (.int .i64 n) (.int .i64 s) 24 ∧ Below w.heap.size w wr) (fun x _ => K - (intOf x).toNat)
  case atStart => exact ⟨1, rfl, by omega, by omega, t0, hB0⟩
  case round =>
    obtain ⟨k, rfl, hk1, hk, t1, hB⟩ := hrel
    clear t0 hB0
    have t1c := t1.cell0
    have t1d := t1.cell1
    go_wp2_with fail
    refine (HA.out k _ hk).mono ?_; rintro e w2 ⟨rfl, hb2⟩
    have hB2 := hB.trans (hb2.mono hB.size)
    have t2 := t1.below hb2 t1.lt
    clear t1 t1c t1d hb2 hB
    have hcall := HC.out (fromP n s p k) w2 hB2
    have hM := Lib.hid (fun (h : k < K) => HM.out k hk1 h)
    have hH := Lib.hid (fun (h : k = K) => (h ▸ HH.out : (fun x => decide (x < u)) (fromP n s p k) = true))
    have hv : (p + (k : Int) * s) % n = fromP n s p k := rfl
    rw [hv]
    clear hv
    generalize fromP n s p k = x at *
    have hM : Hid (k < K → (decide (x < u)) = false) := hM
    have hH : Hid (k = K → (decide (x < u)) = true) := hH
    generalize hP : (decide (x < u)) = B at *
    clear hP
    by_cases hkm : k < K
    · obtain rfl := hM.out hkm
      go_wp2_with fail
      refine hcall.mono ?_; rintro e w3 ⟨rfl, hb3⟩
      have hB3 := hB2.trans (hb3.mono hB2.size)
      have t3 := t2.below hb3 t2.lt
      clear hb3 hB2 t2 hcall
      go_wp2_with fail
      go_roundw
      case rel => exact ⟨k + 1, by go_num, by omega, by omega, t3, hB3⟩
      case measure => simp only [intOf]; omega
    · obtain rfl : k = K := by omega
      obtain rfl := hH.out rfl
      go_wp2_with fail
      refine hcall.mono ?_; rintro e w3 ⟨rfl, hb3⟩
      have hB3 := hB2.trans (hb3.mono hB2.size)
      clear hb3 hB2 t2 hcall
      go_wp2
      go_ret
      exact ⟨rfl, hB3⟩

set_option maxHeartbeats 1000000 in
theorem closUp_any (u x : Int) (w : World) (b : Nat)  (hb : One w b (.int .i64 u) 3) :
    Calls Try.prog 98 #[.int .i64 x, .pointer (some ⟨b, 0, none⟩)] w fun e w' => e = .returned (.bool (decide (x < u))) ∧ Below w.heap.size w w' := by
  have d0 := hb.cell
  have hB0 := Below.refl w.heap.size w
  go_enter Try.func98, Try.ntmps98
  go_wp2
  go_ret
  exact ⟨rfl, hB0⟩

set_option maxHeartbeats 2000000 in
theorem untilUp_any (n s u p : Int) (K : Nat) (w : World) (b : Nat) (n2 : 2 ≤ n) (n60 : n ≤ 60) (s0 : 0 ≤ s) (s1 : s ≤ 60) (p0 : 0 ≤ p) (p1 : p ≤ 60)  (hF : IsFirst (fun x => decide (x < u)) n s p K) (hb : One w b (.int .i64 u) 3) :
    Calls Try.prog 97 #[(.agg #[.int .i64 (n), .int .i64 (s)]), .int .i64 p, .func (.func 98) #[] #[.pointer (some ⟨b, 0, none⟩)]] w fun e w' => e = .returned (.int .i64 (K : Nat)) ∧ Below w.heap.size w w' := by
  have HC := Lib.hid (fun (x : Int) (wr : World) (hB : Below w.heap.size w wr) => closUp_any u x wr b  (hb.below hB hb.lt))
  have k1 := hF.pos
  have k2 := hF.le
  have HH := Lib.hid hF.hit
  have HM := Lib.hid hF.miss
  have HA := Lib.hid (fun (k : Nat) (wr : World) (hk : k ≤ K) => pointAfter_any n s p k wr n2 n60 s0 s1 (by omega) (by omega) p0 p1)
  have t0 : Two (w.alloc (.cells #[.int .i64 n, .int .i64 s] 24)) w.heap.size (.int .i64 n) (.int .i64 s) 24 := Two.new _ _ _ _
  have hB0 : Below w.heap.size w (w.alloc (.cells #[.int .i64 n, .int .i64 s] 24)) := (by repeat (first | exact Below.refl _ _ | assumption | (refine Below.trans ?_ (Below.mono (by assumption) (by first | omega | (simp <;> omega)))) | (refine Below.alloc ?_ (by first | omega | (simp <;> omega)) _) | (refine below_drewN ?_ _) | (refine Below.drew ?_) | (refine Below.setCell ?_ (by first | omega | (simp <;> omega)) _)))
  clear hF hb
  go_enter Try.func97, Try.ntmps97
  go_wp2_with fail
  go_loopw [7] (fun x wr => ∃ k : Nat, x = .int .i64 k ∧ 1 ≤ k ∧ k ≤ K ∧ Two wr w.heap.size (.int .i64 n) (.int .i64 s) 24 ∧ Below w.heap.size w wr) (fun x _ => K - (intOf x).toNat)
  case atStart => exact ⟨1, rfl, by omega, by omega, t0, hB0⟩
  case round =>
    obtain ⟨k, rfl, hk1, hk, t1, hB⟩ := hrel
    clear t0 hB0
    have t1c := t1.cell0
    have t1d := t1.cell1
    go_wp2_with fail
    refine (HA.out k _ hk).mono ?_; rintro e w2 ⟨rfl, hb2⟩
    have hB2 := hB.trans (hb2.mono hB.size)
    have t2 := t1.below hb2 t1.lt
    clear t1 t1c t1d hb2 hB
    have hcall := HC.out (fromP n s p k) w2 hB2
    have hM := Lib.hid (fun (h : k < K) => HM.out k hk1 h)
    have hH := Lib.hid (fun (h : k = K) => (h ▸ HH.out : (fun x => decide (x < u)) (fromP n s p k) = true))
    have hv : (p + (k : Int) * s) % n = fromP n s p k := rfl
    rw [hv]
    clear hv
    generalize fromP n s p k = x at *
    have hM : Hid (k < K → (decide (x < u)) = false) := hM
    have hH : Hid (k = K → (decide (x < u)) = true) := hH
    generalize hP : (decide (x < u)) = B at *
    clear hP
    by_cases hkm : k < K
    · obtain rfl := hM.out hkm
      go_wp2_with fail
      refine hcall.mono ?_; rintro e w3 ⟨rfl, hb3⟩
      have hB3 := hB2.trans (hb3.mono hB2.size)
      have t3 := t2.below hb3 t2.lt
      clear hb3 hB2 t2 hcall
      go_wp2_with fail
      go_roundw
      case rel => exact ⟨k + 1, by go_num, by omega, by omega, t3, hB3⟩
      case measure => simp only [intOf]; omega
    · obtain rfl : k = K := by omega
      obtain rfl := hH.out rfl
      go_wp2_with fail
      refine hcall.mono ?_; rintro e w3 ⟨rfl, hb3⟩
      have hB3 := hB2.trans (hb3.mono hB2.size)
      clear hb3 hB2 t2 hcall
      go_wp2
      go_ret
      exact ⟨rfl, hB3⟩

set_option maxHeartbeats 1000000 in
theorem closDown_any (n s u x : Int) (w : World) (a b : Nat) (n2 : 2 ≤ n) (n60 : n ≤ 60) (u0 : 0 ≤ u) (u1 : u ≤ n) (ha : Two w a (.int .i64 n) (.int .i64 s) 24) (hb : One w b (.int .i64 u) 3) :
    Calls Try.prog 99 #[.int .i64 x, .pointer (some ⟨a, 0, none⟩), .pointer (some ⟨b, 0, none⟩)] w fun e w' => e = .returned (.bool (decide (n - u < x))) ∧ Below w.heap.size w w' := by
  have hwu : IntKind.i64.wrap (n - u) = n - u := IntWalk.i64_in _ (by omega)
  have c0 := ha.cell0
  have c1 := ha.cell1
  have d0 := hb.cell
  have hB0 := Below.refl w.heap.size w
  go_enter Try.func99, Try.ntmps99
  go_wp2
  go_ret
  exact ⟨rfl, hB0⟩

set_option maxHeartbeats 2000000 in
theorem untilDown_any (n s u p : Int) (K : Nat) (w : World) (a b : Nat) (n2 : 2 ≤ n) (n60 : n ≤ 60) (s0 : 0 ≤ s) (s1 : s ≤ 60) (p0 : 0 ≤ p) (p1 : p ≤ 60) (u0 : 0 ≤ u) (u1 : u ≤ n) (hF : IsFirst (fun x => decide (n - u < x)) n s p K) (ha : Two w a (.int .i64 n) (.int .i64 s) 24) (hb : One w b (.int .i64 u) 3) :
    Calls Try.prog 97 #[(.agg #[.int .i64 (n), .int .i64 (s)]), .int .i64 p, .func (.func 99) #[] #[.pointer (some ⟨a, 0, none⟩), .pointer (some ⟨b, 0, none⟩)]] w fun e w' => e = .returned (.int .i64 (K : Nat)) ∧ Below w.heap.size w w' := by
  have HC := Lib.hid (fun (x : Int) (wr : World) (hB : Below w.heap.size w wr) => closDown_any n s u x wr a b n2 n60 u0 u1 (ha.below hB ha.lt) (hb.below hB hb.lt))
  have k1 := hF.pos
  have k2 := hF.le
  have HH := Lib.hid hF.hit
  have HM := Lib.hid hF.miss
  have HA := Lib.hid (fun (k : Nat) (wr : World) (hk : k ≤ K) => pointAfter_any n s p k wr n2 n60 s0 s1 (by omega) (by omega) p0 p1)
  have t0 : Two (w.alloc (.cells #[.int .i64 n, .int .i64 s] 24)) w.heap.size (.int .i64 n) (.int .i64 s) 24 := Two.new _ _ _ _
  have hB0 : Below w.heap.size w (w.alloc (.cells #[.int .i64 n, .int .i64 s] 24)) := (by repeat (first | exact Below.refl _ _ | assumption | (refine Below.trans ?_ (Below.mono (by assumption) (by first | omega | (simp <;> omega)))) | (refine Below.alloc ?_ (by first | omega | (simp <;> omega)) _) | (refine below_drewN ?_ _) | (refine Below.drew ?_) | (refine Below.setCell ?_ (by first | omega | (simp <;> omega)) _)))
  clear hF ha hb
  go_enter Try.func97, Try.ntmps97
  go_wp2_with fail
  go_loopw [7] (fun x wr => ∃ k : Nat, x = .int .i64 k ∧ 1 ≤ k ∧ k ≤ K ∧ Two wr w.heap.size (.int .i64 n) (.int .i64 s) 24 ∧ Below w.heap.size w wr) (fun x _ => K - (intOf x).toNat)
  case atStart => exact ⟨1, rfl, by omega, by omega, t0, hB0⟩
  case round =>
    obtain ⟨k, rfl, hk1, hk, t1, hB⟩ := hrel
    clear t0 hB0
    have t1c := t1.cell0
    have t1d := t1.cell1
    go_wp2_with fail
    refine (HA.out k _ hk).mono ?_; rintro e w2 ⟨rfl, hb2⟩
    have hB2 := hB.trans (hb2.mono hB.size)
    have t2 := t1.below hb2 t1.lt
    clear t1 t1c t1d hb2 hB
    have hcall := HC.out (fromP n s p k) w2 hB2
    have hM := Lib.hid (fun (h : k < K) => HM.out k hk1 h)
    have hH := Lib.hid (fun (h : k = K) => (h ▸ HH.out : (fun x => decide (n - u < x)) (fromP n s p k) = true))
    have hv : (p + (k : Int) * s) % n = fromP n s p k := rfl
    rw [hv]
    clear hv
    generalize fromP n s p k = x at *
    have hM : Hid (k < K → (decide (n - u < x)) = false) := hM
    have hH : Hid (k = K → (decide (n - u < x)) = true) := hH
    generalize hP : (decide (n - u < x)) = B at *
    clear hP
    by_cases hkm : k < K
    · obtain rfl := hM.out hkm
      go_wp2_with fail
      refine hcall.mono ?_; rintro e w3 ⟨rfl, hb3⟩
      have hB3 := hB2.trans (hb3.mono hB2.size)
      have t3 := t2.below hb3 t2.lt
      clear hb3 hB2 t2 hcall
      go_wp2_with fail
      go_roundw
      case rel => exact ⟨k + 1, by go_num, by omega, by omega, t3, hB3⟩
      case measure => simp only [intOf]; omega
    · obtain rfl : k = K := by omega
      obtain rfl := hH.out rfl
      go_wp2_with fail
      refine hcall.mono ?_; rintro e w3 ⟨rfl, hb3⟩
      have hB3 := hB2.trans (hb3.mono hB2.size)
      clear hb3 hB2 t2 hcall
      go_wp2
      go_ret
      exact ⟨rfl, hB3⟩
end Go.Proofs.Ytppahekbgbbidac

set_option linter.unusedVariables false
namespace Go.Proofs.Ytppahekbgbbidac

set_option maxRecDepth 4000
open Go.ChangeShapes Go.WideShapes Go.ChangeAt Go.RowKit Go.Joins N

set_option maxHeartbeats 2000000 in
theorem returnOf_any (n s u p : Int) (w : World) :
    Calls Try.prog 103 #[(.agg #[.int .i64 (n), .int .i64 (s)]), .int .i64 u, .int .i64 p] w fun e w' => e = .returned (.int .i64 (retF n s u p)) ∧ Below w.heap.size w w' := by
  by_cases h : tok n s = true ∧ 0 ≤ u ∧ u ≤ n
  · have E1 := upF_yes h.1 h.2.1 h.2.2
    by_cases hp : p < 0
    · rw [retF_no (fun h => by omega)]
      obtain ⟨W, hW, ta, tb, hB⟩ := two_boxes n s u w
      have ca0 := ta.cell0
      have ca1 := ta.cell1
      have cb0 := tb.cell
      go_enter Try.func103, Try.ntmps103
      go_wp2_with fail
      rw [← hW]
      clear hW
      refine (upToSize_any n s u _).mono ?_; rintro e w1 ⟨rfl, hb1⟩
      rw [E1]
      have hB1 := hB.trans (hb1.mono hB.size)
      have ta1 := ta.below hb1 ta.lt
      have tb1 := tb.below hb1 tb.lt
      have da0 := ta1.cell0
      have da1 := ta1.cell1
      have db0 := tb1.cell
      clear hb1 hB ta tb ca0 ca1 cb0
      go_wp2
      go_ret
      exact ⟨rfl, hB1⟩
    · by_cases hp2 : u ≤ p
      · rw [retF_no (fun h => by omega)]
        obtain ⟨W, hW, ta, tb, hB⟩ := two_boxes n s u w
        have ca0 := ta.cell0
        have ca1 := ta.cell1
        have cb0 := tb.cell
        go_enter Try.func103, Try.ntmps103
        go_wp2_with fail
        rw [← hW]
        clear hW
        refine (upToSize_any n s u _).mono ?_; rintro e w1 ⟨rfl, hb1⟩
        rw [E1]
        have hB1 := hB.trans (hb1.mono hB.size)
        have ta1 := ta.below hb1 ta.lt
        have tb1 := tb.below hb1 tb.lt
        have da0 := ta1.cell0
        have da1 := ta1.cell1
        have db0 := tb1.cell
        clear hb1 hB ta tb ca0 ca1 cb0
        go_wp2
        go_ret
        exact ⟨rfl, hB1⟩
      · obtain ⟨ht, u0, u1⟩ := h
        have hb := tok_bd ht
        obtain ⟨K, hK, hF, _⟩ := ret_first ht (by omega) u1 (by omega : 0 ≤ p) (by omega)
        have HU := Lib.hid (fun (w : World) b hb' => untilRet_any n s u p K w b (by omega) (by omega) (by omega) (by omega) (by omega) (by omega) hF hb')
        have E := Lib.hid hK
        clear ht hF hK
        obtain ⟨W, hW, ta, tb, hB⟩ := two_boxes n s u w
        have ca0 := ta.cell0
        have ca1 := ta.cell1
        have cb0 := tb.cell
        go_enter Try.func103, Try.ntmps103
        go_wp2_with fail
        rw [← hW]
        clear hW
        refine (upToSize_any n s u _).mono ?_; rintro e w1 ⟨rfl, hb1⟩
        rw [E1]
        have hB1 := hB.trans (hb1.mono hB.size)
        have ta1 := ta.below hb1 ta.lt
        have tb1 := tb.below hb1 tb.lt
        have da0 := ta1.cell0
        have da1 := ta1.cell1
        have db0 := tb1.cell
        clear hb1 hB ta tb ca0 ca1 cb0
        go_wp2_with fail
        refine (HU.out _ _ tb1).mono ?_; rintro e w2 ⟨rfl, hb2⟩
        have hB2 := hB1.trans (hb2.mono hB1.size)
        go_wp2
        go_ret
        exact ⟨ret_int E.out.symm, hB2⟩
  · have E1 := upF_no h
    rw [retF_no (fun h' => h ⟨h'.1, by omega, h'.2.2.1⟩)]
    obtain ⟨W, hW, ta, tb, hB⟩ := two_boxes n s u w
    have ca0 := ta.cell0
    have ca1 := ta.cell1
    have cb0 := tb.cell
    go_enter Try.func103, Try.ntmps103
    go_wp2_with fail
    rw [← hW]
    clear hW
    refine (upToSize_any n s u _).mono ?_; rintro e w1 ⟨rfl, hb1⟩
    rw [E1]
    have hB1 := hB.trans (hb1.mono hB.size)
    have ta1 := ta.below hb1 ta.lt
    have tb1 := tb.below hb1 tb.lt
    have da0 := ta1.cell0
    have da1 := ta1.cell1
    have db0 := tb1.cell
    clear hb1 hB ta tb ca0 ca1 cb0
    go_wp2
    go_ret
    exact ⟨rfl, hB1⟩

set_option maxHeartbeats 2000000 in
theorem arcUp_any (n s u : Int) (w : World) :
    Calls Try.prog 73 #[(.agg #[.int .i64 (n), .int .i64 (s)]), .int .i64 u] w fun e w' => e = .returned (.int .i64 (aupF n s u)) ∧ Below w.heap.size w w' := by
  by_cases h : tok n s = true ∧ 0 ≤ u ∧ u ≤ n
  · have E1 := upF_yes h.1 h.2.1 h.2.2
    by_cases h2 : u < 2
    · rw [aupF_no (fun h => by omega)]
      obtain ⟨W, hW, ta, tb, hB⟩ := two_boxes n s u w
      have ca0 := ta.cell0
      have ca1 := ta.cell1
      have cb0 := tb.cell
      go_enter Try.func73, Try.ntmps73
      go_wp2_with fail
      rw [← hW]
      clear hW
      refine (upToSize_any n s u _).mono ?_; rintro e w1 ⟨rfl, hb1⟩
      rw [E1]
      have hB1 := hB.trans (hb1.mono hB.size)
      have ta1 := ta.below hb1 ta.lt
      have tb1 := tb.below hb1 tb.lt
      have da0 := ta1.cell0
      have da1 := ta1.cell1
      have db0 := tb1.cell
      clear hb1 hB ta tb ca0 ca1 cb0
      go_wp2
      go_ret
      exact ⟨rfl, hB1⟩
    · obtain ⟨ht, u0, u1⟩ := h
      have hb := tok_bd ht
      obtain ⟨K, hK, hF⟩ := up_first ht (by omega) u1
      have HU := Lib.hid (fun (w : World) b hb' => untilUp_any n s u 0 K w b (by omega) (by omega) (by omega) (by omega) (by omega) (by omega) hF hb')
      have E := Lib.hid hK
      clear ht hF hK
      obtain ⟨W, hW, ta, tb, hB⟩ := two_boxes n s u w
      have ca0 := ta.cell0
      have ca1 := ta.cell1
      have cb0 := tb.cell
      go_enter Try.func73, Try.ntmps73
      go_wp2_with fail
      rw [← hW]
      clear hW
      refine (upToSize_any n s u _).mono ?_; rintro e w1 ⟨rfl, hb1⟩
      rw [E1]
      have hB1 := hB.trans (hb1.mono hB.size)
      have ta1 := ta.below hb1 ta.lt
      have tb1 := tb.below hb1 tb.lt
      have da0 := ta1.cell0
      have da1 := ta1.cell1
      have db0 := tb1.cell
      clear hb1 hB ta tb ca0 ca1 cb0
      go_wp2_with fail
      refine (HU.out _ _ tb1).mono ?_; rintro e w2 ⟨rfl, hb2⟩
      have hB2 := hB1.trans (hb2.mono hB1.size)
      go_wp2
      go_ret
      exact ⟨ret_int E.out.symm, hB2⟩
  · have E1 := upF_no h
    rw [aupF_no (fun h' => h ⟨h'.1, by omega, h'.2.2⟩)]
    obtain ⟨W, hW, ta, tb, hB⟩ := two_boxes n s u w
    have ca0 := ta.cell0
    have ca1 := ta.cell1
    have cb0 := tb.cell
    go_enter Try.func73, Try.ntmps73
    go_wp2_with fail
    rw [← hW]
    clear hW
    refine (upToSize_any n s u _).mono ?_; rintro e w1 ⟨rfl, hb1⟩
    rw [E1]
    have hB1 := hB.trans (hb1.mono hB.size)
    have ta1 := ta.below hb1 ta.lt
    have tb1 := tb.below hb1 tb.lt
    have da0 := ta1.cell0
    have da1 := ta1.cell1
    have db0 := tb1.cell
    clear hb1 hB ta tb ca0 ca1 cb0
    go_wp2
    go_ret
    exact ⟨rfl, hB1⟩

set_option maxHeartbeats 2000000 in
theorem arcDown_any (n s u : Int) (w : World) :
    Calls Try.prog 74 #[(.agg #[.int .i64 (n), .int .i64 (s)]), .int .i64 u] w fun e w' => e = .returned (.int .i64 (adownF n s u)) ∧ Below w.heap.size w w' := by
  by_cases h : tok n s = true ∧ 0 ≤ u ∧ u ≤ n
  · have E1 := upF_yes h.1 h.2.1 h.2.2
    by_cases h2 : u < 2
    · rw [adownF_no (fun h => by omega)]
      obtain ⟨W, hW, ta, tb, hB⟩ := two_boxes n s u w
      have ca0 := ta.cell0
      have ca1 := ta.cell1
      have cb0 := tb.cell
      go_enter Try.func74, Try.ntmps74
      go_wp2_with fail
      rw [← hW]
      clear hW
      refine (upToSize_any n s u _).mono ?_; rintro e w1 ⟨rfl, hb1⟩
      rw [E1]
      have hB1 := hB.trans (hb1.mono hB.size)
      have ta1 := ta.below hb1 ta.lt
      have tb1 := tb.below hb1 tb.lt
      have da0 := ta1.cell0
      have da1 := ta1.cell1
      have db0 := tb1.cell
      clear hb1 hB ta tb ca0 ca1 cb0
      go_wp2
      go_ret
      exact ⟨rfl, hB1⟩
    · obtain ⟨ht, u0, u1⟩ := h
      have hb := tok_bd ht
      obtain ⟨K, hK, hF⟩ := down_first ht (by omega) u1
      have HU := Lib.hid (fun (w : World) a b ha' hb' => untilDown_any n s u 0 K w a b (by omega) (by omega) (by omega) (by omega) (by omega) (by omega) (by omega) (by omega) hF ha' hb')
      have E := Lib.hid hK
      clear ht hF hK
      obtain ⟨W, hW, ta, tb, hB⟩ := two_boxes n s u w
      have ca0 := ta.cell0
      have ca1 := ta.cell1
      have cb0 := tb.cell
      go_enter Try.func74, Try.ntmps74
      go_wp2_with fail
      rw [← hW]
      clear hW
      refine (upToSize_any n s u _).mono ?_; rintro e w1 ⟨rfl, hb1⟩
      rw [E1]
      have hB1 := hB.trans (hb1.mono hB.size)
      have ta1 := ta.below hb1 ta.lt
      have tb1 := tb.below hb1 tb.lt
      have da0 := ta1.cell0
      have da1 := ta1.cell1
      have db0 := tb1.cell
      clear hb1 hB ta tb ca0 ca1 cb0
      go_wp2_with fail
      refine (HU.out _ _ _ ta1 tb1).mono ?_; rintro e w2 ⟨rfl, hb2⟩
      have hB2 := hB1.trans (hb2.mono hB1.size)
      go_wp2
      go_ret
      exact ⟨ret_int E.out.symm, hB2⟩
  · have E1 := upF_no h
    rw [adownF_no (fun h' => h ⟨h'.1, by omega, h'.2.2⟩)]
    obtain ⟨W, hW, ta, tb, hB⟩ := two_boxes n s u w
    have ca0 := ta.cell0
    have ca1 := ta.cell1
    have cb0 := tb.cell
    go_enter Try.func74, Try.ntmps74
    go_wp2_with fail
    rw [← hW]
    clear hW
    refine (upToSize_any n s u _).mono ?_; rintro e w1 ⟨rfl, hb1⟩
    rw [E1]
    have hB1 := hB.trans (hb1.mono hB.size)
    have ta1 := ta.below hb1 ta.lt
    have tb1 := tb.below hb1 tb.lt
    have da0 := ta1.cell0
    have da1 := ta1.cell1
    have db0 := tb1.cell
    clear hb1 hB ta tb ca0 ca1 cb0
    go_wp2
    go_ret
    exact ⟨rfl, hB1⟩

set_option maxHeartbeats 2000000 in
theorem returnsOf_any (n s u : Int) (w : World) :
    Calls Try.prog 78 #[(.agg #[.int .i64 (n), .int .i64 (s)]), .int .i64 u] w (ListPost (retsF n s u) w) := by
  
  by_cases h : tok n s = true ∧ 0 ≤ u ∧ u ≤ n
  · have E1 := upF_yes h.1 h.2.1 h.2.2
    obtain ⟨ht, u0, u1⟩ := h
    have hb := tok_bd ht
    obtain ⟨u, rfl⟩ := Int.eq_ofNat_of_zero_le u0
    have hRT : retsF n s u = retsT n s u := by
      by_cases c : u = 0
      · subst c; rw [retsF_no (fun h => by omega)]; rfl
      · exact retsF_T ht (by omega) u1
    rw [hRT]
    have HR := Lib.hid (fun k (hk : k < u) => retsT_take (n := n) (s := s) hk)
    have HRet := Lib.hid (fun (k : Nat) (hk : k < u) => (show retF n s (u : Int) k = retB n (invF n s) u k from retF_yes ht (by omega) u1 (by omega) (by omega)))
    clear ht hRT
    go_enter Try.func78, Try.ntmps78
    go_wp2_with fail
    refine (upToSize_any _ _ _ _).mono ?_; rintro e w1 ⟨rfl, hb1⟩
    have hz1 := hb1.size
    try simp at hz1
    have t1 : Two w1 (w.heap.size) (.int .i64 n) (.int .i64 s) 24 := Two.below (by repeat (first | assumption | exact Two.new' _ _ _ _ _ (by simp) | refine Two.alloc ?_ _ | refine Two.drewN ?_ _)) hb1 (by first | omega | (simp <;> omega))
    have hlt1 : (w.heap.size) < w1.heap.size := t1.lt
    have hnt1 : ¬ (w.heap.size) = w1.heap.size := Nat.ne_of_lt hlt1
    have t1c := t1.cell0
    have t1d := t1.cell1
    rw [E1]
    have hB1 : Below w.heap.size w w1 := (by repeat (first | exact Below.refl _ _ | assumption | (refine Below.trans ?_ (Below.mono (by assumption) (by first | omega | (simp <;> omega)))) | (refine Below.alloc ?_ (by first | omega | (simp <;> omega)) _) | (refine below_drewN ?_ _) | (refine Below.drew ?_) | (refine Below.setCell ?_ (by first | omega | (simp <;> omega)) _)))
    clear hb1
    go_wp2_with fail
    go_loopw [5, 12] (fun y x wr => ∃ (k : Nat) (v0 : Value), x = .int .i64 k ∧ v0 = y ∧ k ≤ u ∧ OwnL wr w1.heap.size v0 ((retsT n s u).take k) ∧ Below w1.heap.size w1 wr) (fun _ x _ => u - (intOf x).toNat)
    case atStart => exact ⟨0, _, rfl, rfl, by omega, World.ownsRow_nil _ _ _ _, Below.refl _ _⟩
    case round =>
      obtain ⟨k, v0, rfl, rfl, hk, ho, hB⟩ := hrel
      by_cases hkm : k < u
      · have hkm' : (k : Int) < u := by omega
        have t2 := t1.below hB hlt1
        have t2c := t2.cell0
        have t2d := t2.cell1
        have hS := HR.out k hkm
        have hv := HRet.out k hkm
        have HL : Hid (((retsT n s u).take k).length = k) := by show _ = _; rw [List.length_take, retsT_len]; omega
        generalize retB n (invF n s) u k = X at *
        have HS := Lib.hid hS
        have HV := Lib.hid hv
        clear hS hv
        go_wp2_with fail
        refine (returnOf_any _ _ _ _ _).mono ?_; rintro e w3 ⟨rfl, hb3⟩
        rw [HV.out]
        have ho3 := ho.below hb3
        have hB3 := hB.trans (hb3.mono hB.size)
        have hz := hB3.size
        clear hb3 hB ho t2 t2c t2d
        go_wp2_with (at_builtin; refine append_int rfl _ _ rfl w1.heap.size v0 ((retsT n s u).take k) k HL (by omega) rfl ho3 hz rfl ?_)
        intro v5 w5 ho5 hn5 hb5
        rw [← HS.out] at ho5
        have hB5 := hB3.trans hb5
        clear ho3 hb5 hB3
        go_wp2_with fail
        go_roundw
        case rel => exact ⟨k + 1, _, by go_num, rfl, by omega, ho5, hB5⟩
        case measure => simp only [intOf]; omega
      · obtain rfl : k = u := by omega
        have hkm' : decide ((k : Int) < k) = false := by simp
        have hsz := hB1.size
        have ho' : OwnL wr w.heap.size v0 (retsT n s k) := by
          have h := OwnL.mono (b' := w.heap.size) ho (by omega)
          rwa [List.take_of_length_le (by rw [retsT_len]; omega)] at h
        have hB' : Below w.heap.size w wr := hB1.trans (hB.mono hsz)
        clear ho hB
        go_wp2
        go_ret
        exact ⟨_, rfl, ho', hB'⟩
  · have E1 := upF_no h
    rw [retsF_no (fun h' => h ⟨h'.1, by omega, h'.2.2⟩)]
    go_enter Try.func78, Try.ntmps78
    go_wp2_with fail
    refine (upToSize_any _ _ _ _).mono ?_; rintro e w1 ⟨rfl, hb1⟩
    have hz1 := hb1.size
    try simp at hz1
    have t1 : Two w1 (w.heap.size) (.int .i64 n) (.int .i64 s) 24 := Two.below (by repeat (first | assumption | exact Two.new' _ _ _ _ _ (by simp) | refine Two.alloc ?_ _ | refine Two.drewN ?_ _)) hb1 (by first | omega | (simp <;> omega))
    have hlt1 : (w.heap.size) < w1.heap.size := t1.lt
    have hnt1 : ¬ (w.heap.size) = w1.heap.size := Nat.ne_of_lt hlt1
    have t1c := t1.cell0
    have t1d := t1.cell1
    rw [E1]
    go_wp2
    go_ret
    exact ⟨_, rfl, World.ownsRow_nil _ _ _ _, (by repeat (first | exact Below.refl _ _ | assumption | (refine Below.trans ?_ (Below.mono (by assumption) (by first | omega | (simp <;> omega)))) | (refine Below.alloc ?_ (by first | omega | (simp <;> omega)) _) | (refine below_drewN ?_ _) | (refine Below.drew ?_) | (refine Below.setCell ?_ (by first | omega | (simp <;> omega)) _)))⟩

set_option maxHeartbeats 1000000 in
theorem returnTimes_any (n s u : Int) (w : World) :
    Calls Try.prog 36 #[(.agg #[.int .i64 (n), .int .i64 (s)]), .int .i64 u] w (ListPost (rtimesF n s u) w) := by
  have hp := returnsOf_any n s u (w.alloc (.cells #[.int .i64 n, .int .i64 s] 24))
  have hlen := retsF_len n s u
  unfold rtimesF
  generalize retsF n s u = L at hp hlen ⊢
  
  obtain ⟨N, hN⟩ : ∃ N, L.length = N := ⟨_, rfl⟩
  rw [hN] at hlen
  go_enter Try.func36, Try.ntmps36
  go_wp2_with fail
  refine (hp).mono ?_; rintro e w1 ⟨v1, rfl, ho1, hb1⟩
  have hz1 := hb1.size
  try simp at hz1
  clear hp
  obtain ⟨a, cap, rfl, HC0⟩ := ho1.reads.cells hN
  have HC1 : Hid (∀ j, j < N → ∃ g off, a = some ⟨g, off, none⟩ ∧ w1.cell? ⟨g, off + j, none⟩ = some (.int .i64 (L.getD j 0))) := fun j hj => by
    obtain ⟨g, off, e, h⟩ := HC0 (by omega)
    exact ⟨g, off, e, h.out j hj⟩
  have hB1 : Below w.heap.size w w1 := (by repeat (first | exact Below.refl _ _ | assumption | (refine Below.trans ?_ (Below.mono (by assumption) (by first | omega | (simp <;> omega)))) | (refine Below.alloc ?_ (by first | omega | (simp <;> omega)) _) | (refine below_drewN ?_ _) | (refine Below.drew ?_) | (refine Below.setCell ?_ (by first | omega | (simp <;> omega)) _)))
  have HN := Lib.hid hN
  clear ho1 hb1 HC0 hN
  go_wp2_with fail
  go_loopw [5, 12] (fun y x wr => ∃ (k : Nat) (v0 : Value), x = .int .i64 k ∧ v0 = y ∧ k ≤ N ∧ OwnL wr w1.heap.size v0 (kindsL (L.take k)) ∧ Below w1.heap.size w1 wr) (fun _ x _ => N - (intOf x).toNat)
  case atStart => exact ⟨0, _, rfl, rfl, by omega, World.ownsRow_nil _ _ _ _, Below.refl _ _⟩
  case round =>
    obtain ⟨k, v0, rfl, rfl, hk, ho, hB⟩ := hrel
    by_cases hkm : k < N
    · have hkm' : (k : Int) < N := by omega
      obtain ⟨g, off, rfl, c1⟩ := HC1.out k hkm
      have ck := (hB.cell (p := ⟨g, off + k, none⟩) (World.block_lt_of_cell? w1 _ c1)).trans c1
      have hS := kindsL_snoc (L.take k) (L.getD k 0)
      rw [← take_one L (by rw [HN.out]; exact hkm)] at hS
      have hwk := ((kindsL_is (L.take k)).1).imp (fun {a b} (h : a < b) => Int.le_of_lt h)
      have hlen := Nat.le_trans (kindsL_le (L.take k)) (by rw [List.length_take]; omega : (L.take k).length ≤ 60)
      generalize L.getD k 0 = X at c1 ck hS
      clear c1
      go_wp2_with fail
      refine (insertOnce_any v0 X _ w1.heap.size _ ho hB.size hwk (by omega)).mono ?_; rintro e w3 ⟨v3, rfl, ho3, hb3⟩
      rw [← hS] at ho3
      have hB3 := hB.trans hb3
      clear ck ho hb3 hwk hS hlen hB
      go_wp2_with fail
      go_roundw
      case rel => exact ⟨k + 1, _, by go_num, rfl, by omega, ho3, hB3⟩
      case measure => simp only [intOf]; omega
    · obtain rfl : k = N := by omega
      have hkm' : decide ((k : Int) < k) = false := by simp
      have hsz := hB1.size
      have ho' : OwnL wr w.heap.size v0 (kindsL L) := by
        have h := OwnL.mono (b' := w.heap.size) ho (by omega)
        rwa [List.take_of_length_le (by rw [HN.out]; omega)] at h
      have hB' : Below w.heap.size w wr := hB1.trans (hB.mono hsz)
      clear ho hB
      go_wp2
      go_ret
      exact ⟨_, rfl, ho', hB'⟩

set_option maxHeartbeats 1000000 in
theorem returnsLong_any (n s u x : Int) (w : World) :
    Calls Try.prog 38 #[(.agg #[.int .i64 (n), .int .i64 (s)]), .int .i64 u, .int .i64 x] w fun e w' => e = .returned (.int .i64 (rlongF n s u x)) ∧ Below w.heap.size w w' := by
  have hp := returnsOf_any n s u (w.alloc (.cells #[.int .i64 n, .int .i64 s] 24))
  have hlen := retsF_len n s u
  unfold rlongF
  generalize retsF n s u = L at hp hlen ⊢
  
  obtain ⟨N, hN⟩ : ∃ N, L.length = N := ⟨_, rfl⟩
  by_cases h0 : N = 0
  · subst h0
    obtain rfl := nil_of_len hN
    rw [if_pos rfl]
    go_enter Try.func38, Try.ntmps38
    go_wp2_with fail
    refine (hp).mono ?_; rintro e w1 ⟨v1, rfl, ho1, hb1⟩
    have hz1 := hb1.size
    try simp at hz1
    clear hp
    obtain ⟨a, cap, rfl⟩ := nil_cells ho1.reads
    go_wp2
    go_ret
    exact ⟨rfl, (by repeat (first | exact Below.refl _ _ | assumption | (refine Below.trans ?_ (Below.mono (by assumption) (by first | omega | (simp <;> omega)))) | (refine Below.alloc ?_ (by first | omega | (simp <;> omega)) _) | (refine below_drewN ?_ _) | (refine Below.drew ?_) | (refine Below.setCell ?_ (by first | omega | (simp <;> omega)) _)))⟩
  · have hne : L ≠ [] := fun e => h0 (by rw [e] at hN; simpa using hN.symm)
    rw [if_neg hne]
    have h0' : ((N : Int) == 0) = false := by simp; omega
    clear hne
    go_enter Try.func38, Try.ntmps38
    go_wp2_with fail
    refine (hp).mono ?_; rintro e w1 ⟨v1, rfl, ho1, hb1⟩
    have hz1 := hb1.size
    try simp at hz1
    clear hp
    have hr := ho1.reads
    obtain ⟨a, cap, e1, HC0⟩ := ho1.reads.cells hN
    obtain ⟨g, off, rfl, HC⟩ := HC0 h0
    have hB1 : Below w.heap.size w w1 := (by repeat (first | exact Below.refl _ _ | assumption | (refine Below.trans ?_ (Below.mono (by assumption) (by first | omega | (simp <;> omega)))) | (refine Below.alloc ?_ (by first | omega | (simp <;> omega)) _) | (refine below_drewN ?_ _) | (refine Below.drew ?_) | (refine Below.setCell ?_ (by first | omega | (simp <;> omega)) _)))
    have hK := countEqual_any v1 x L w1 hr (by omega)
    subst e1
    clear ho1 hb1 HC0 HC hN hr
    go_wp2_with fail
    refine hK.mono ?_; rintro e w2 ⟨rfl, rfl⟩
    go_wp2
    go_ret
    exact ⟨rfl, hB1⟩
end Go.Proofs.Ytppahekbgbbidac

set_option linter.unusedVariables false
namespace Go.Proofs.Ytppahekbgbbidac

set_option maxRecDepth 4000
open Go.ChangeShapes Go.WideShapes Go.ChangeAt Go.RowKit Go.Joins N

/-- a row of the table -/
theorem idx0 (a b c d e f : Int) (w : World) : (Instr.index 65 (.agg #[.int .i64 a, .int .i64 b, .int .i64 c, .int .i64 d, .int .i64 e, .int .i64 f]) (.int .i64 0)).run Try.prog w = .ok (.agg #[.int .i64 a, .int .i64 b]) w := by kernel_rfl

theorem idx1 (a b c d e f : Int) (w : World) : (Instr.index 65 (.agg #[.int .i64 a, .int .i64 b, .int .i64 c, .int .i64 d, .int .i64 e, .int .i64 f]) (.int .i64 1)).run Try.prog w = .ok (.agg #[.int .i64 c, .int .i64 d]) w := by kernel_rfl

theorem idx2 (a b c d e f : Int) (w : World) : (Instr.index 65 (.agg #[.int .i64 a, .int .i64 b, .int .i64 c, .int .i64 d, .int .i64 e, .int .i64 f]) (.int .i64 2)).run Try.prog w = .ok (.agg #[.int .i64 e, .int .i64 f]) w := by kernel_rfl

set_option maxHeartbeats 4000000 in
theorem returnsBy_any (n s u : Int) (w : World) :
    Calls Try.prog 28 #[(.agg #[.int .i64 (n), .int .i64 (s)]), .int .i64 u] w (ListPost (rbyF n s u) w) := by
  have hB0 : Below w.heap.size w (w.alloc (.cells #[.int .i64 n, .int .i64 s] 24)) := (by repeat (first | exact Below.refl _ _ | assumption | (refine Below.trans ?_ (Below.mono (by assumption) (by first | omega | (simp <;> omega)))) | (refine Below.alloc ?_ (by first | omega | (simp <;> omega)) _) | (refine below_drewN ?_ _) | (refine Below.drew ?_) | (refine Below.setCell ?_ (by first | omega | (simp <;> omega)) _)))
  have t0 : Two (w.alloc (.cells #[.int .i64 n, .int .i64 s] 24)) w.heap.size (.int .i64 n) (.int .i64 s) 24 := Two.new _ _ _ _
  have H1 := Lib.hid (fun w => arcUp_any n s u w)
  have H2 := Lib.hid (fun w => arcDown_any n s u w)
  rcases rby_cases n s u with ⟨h1, h2, h3, _⟩ | ⟨p, q, A, B, h1, h2, p0, p1, q0, q1, hA, hB, a0, a1, b0, b1, h3, ht, u1, u2⟩
  · rw [h3]
    rw [h1] at H1
    rw [h2] at H2
    clear h1 h2 h3
    go_enter Try.func28, Try.ntmps28
    go_wp2_with fail
    generalize w.alloc (.cells #[.int .i64 n, .int .i64 s] 24) = W at *
    have hz := hB0.size
    have c0 := t0.cell0
    have c1 := t0.cell1
    go_region_held3 (fun w' => w'.cell? ⟨w.heap.size, 0, none⟩ = some (.int .i64 n) ∧ w'.cell? ⟨w.heap.size, 1, none⟩ = some (.int .i64 s))
      (first | go_keep | exact ⟨t'c, t'd⟩)
      (first | (go_at_call 73; (with_reducible refine (H1.out _).mono ?_); rintro e w' ⟨rfl, hb'⟩; have t'' : Two w' w.heap.size (.int .i64 n) (.int .i64 s) 24 := (by first | exact Two.below t' hb' t'.lt | exact Two.below (Two.drewS t0) hb' t0.lt); have B'' : Below w.heap.size w w' := (by first | exact B'.trans (Below.mono hb' B'.size) | exact (below_drewN hB0 1).trans (hb'.mono hz)); have t' := t''; have B' := B''; have t'c := t'.cell0; have t'd := t'.cell1) | (go_at_call 74; (with_reducible refine (H2.out _).mono ?_); rintro e w' ⟨rfl, hb'⟩; have t'' : Two w' w.heap.size (.int .i64 n) (.int .i64 s) 24 := (by first | exact Two.below t' hb' t'.lt | exact Two.below (Two.drewS t0) hb' t0.lt); have B'' : Below w.heap.size w w' := (by first | exact B'.trans (Below.mono hb' B'.size) | exact (below_drewN hB0 1).trans (hb'.mono hz)); have t' := t''; have B' := B''; have t'c := t'.cell0; have t'd := t'.cell1))
    all_goals
      go_wp2
      go_ret
      exact ⟨_, rfl, World.ownsRow_nil _ _ _ _, B'⟩
  · have hb := tok_bd ht
    rw [h3]
    rw [h1] at H1
    rw [h2] at H2
    have E3 : pointF n s p = A := by rw [pointF_yes ht (by omega) (by omega)]; exact hA
    have E4 : pointF n s q = B := by rw [pointF_yes ht (by omega) (by omega)]; exact hB
    have H3 := Lib.hid (fun w => pointOf_any n s p w)
    have H4 := Lib.hid (fun w => pointOf_any n s q w)
    rw [E3] at H3
    rw [E4] at H4
    have p2 : ¬ p < 0 := by omega
    have q2 : ¬ q < 0 := by omega
    have wr1 : IntKind.i64.wrap (n - B) = n - B := IntWalk.i64_in _ (by omega)
    have wr2 : IntKind.i64.wrap (u - A) = u - A := IntWalk.i64_in _ (by omega)
    have wr3 : IntKind.i64.wrap (u - (n - B)) = u - (n - B) := IntWalk.i64_in _ (by omega)
    have wr4 : IntKind.i64.wrap (p + q) = p + q := IntWalk.i64_in _ (by omega)
    have wr5 : IntKind.i64.wrap (A + (n - B)) = A + (n - B) := IntWalk.i64_in _ (by omega)
    have wr6 : IntKind.i64.wrap (A + (n - B) - u) = A + (n - B) - u := IntWalk.i64_in _ (by omega)
    have i0 := fun w => idx0 p (u - A) q (u - (n - B)) (p + q) (A + (n - B) - u) w
    have i1 := fun w => idx1 p (u - A) q (u - (n - B)) (p + q) (A + (n - B) - u) w
    have i2 := fun w => idx2 p (u - A) q (u - (n - B)) (p + q) (A + (n - B) - u) w
    clear ht h1 h2 h3 hA hB E3 E4
    go_enter Try.func28, Try.ntmps28
    go_wp2_with fail
    generalize w.alloc (.cells #[.int .i64 n, .int .i64 s] 24) = W at *
    have hz := hB0.size
    have c0 := t0.cell0
    have c1 := t0.cell1
    go_region_held3 (fun w' => w'.cell? ⟨w.heap.size, 0, none⟩ = some (.int .i64 n) ∧ w'.cell? ⟨w.heap.size, 1, none⟩ = some (.int .i64 s))
      (first | go_keep | exact ⟨t'c, t'd⟩)
      (first | (go_at_call 73; (with_reducible refine (H1.out _).mono ?_); rintro e w' ⟨rfl, hb'⟩; have t'' : Two w' w.heap.size (.int .i64 n) (.int .i64 s) 24 := (by first | exact Two.below t' hb' t'.lt | exact Two.below (Two.drewS t0) hb' t0.lt); have B'' : Below w.heap.size w w' := (by first | exact B'.trans (Below.mono hb' B'.size) | exact (below_drewN hB0 1).trans (hb'.mono hz)); have t' := t''; have B' := B''; have t'c := t'.cell0; have t'd := t'.cell1) | (go_at_call 74; (with_reducible refine (H2.out _).mono ?_); rintro e w' ⟨rfl, hb'⟩; have t'' : Two w' w.heap.size (.int .i64 n) (.int .i64 s) 24 := (by first | exact Two.below t' hb' t'.lt | exact Two.below (Two.drewS t0) hb' t0.lt); have B'' : Below w.heap.size w w' := (by first | exact B'.trans (Below.mono hb' B'.size) | exact (below_drewN hB0 1).trans (hb'.mono hz)); have t' := t''; have B' := B''; have t'c := t'.cell0; have t'd := t'.cell1))
    clear t0 hB0 c0 c1 hz H1 H2
    have t0 := t'
    have hB0 := B'
    clear t' B' t'c t'd
    go_wp2_with fail
    have hz := hB0.size
    have c0 := t0.cell0
    have c1 := t0.cell1
    go_region_held3 (fun w' => w'.cell? ⟨w.heap.size, 0, none⟩ = some (.int .i64 n) ∧ w'.cell? ⟨w.heap.size, 1, none⟩ = some (.int .i64 s))
      (first | go_keep | exact ⟨t'c, t'd⟩)
      (first | (go_at_call 19; (with_reducible refine (H3.out _).mono ?_); rintro e w' ⟨rfl, hb'⟩; have t'' : Two w' w.heap.size (.int .i64 n) (.int .i64 s) 24 := (by first | exact Two.below t' hb' t'.lt | exact Two.below (Two.drewS t0) hb' t0.lt); have B'' : Below w.heap.size w w' := (by first | exact B'.trans (Below.mono hb' B'.size) | exact (below_drewN hB0 1).trans (hb'.mono hz)); have t' := t''; have B' := B''; have t'c := t'.cell0; have t'd := t'.cell1) | (go_at_call 19; (with_reducible refine (H4.out _).mono ?_); rintro e w' ⟨rfl, hb'⟩; have t'' : Two w' w.heap.size (.int .i64 n) (.int .i64 s) 24 := (by first | exact Two.below t' hb' t'.lt | exact Two.below (Two.drewS t0) hb' t0.lt); have B'' : Below w.heap.size w w' := (by first | exact B'.trans (Below.mono hb' B'.size) | exact (below_drewN hB0 1).trans (hb'.mono hz)); have t' := t''; have B' := B''; have t'c := t'.cell0; have t'd := t'.cell1))
    clear t0 hB0 c0 c1 hz H3 H4
    go_wp2_with fail
    go_loopw [10, 55] (fun y x wr => ∃ v0, v0 = y ∧ Below w.heap.size w wr ∧ ((x = .int .i64 0 ∧ OwnL wr w.heap.size v0 []) ∨ (x = .int .i64 1 ∧ OwnL wr w.heap.size v0 [p, u - A]) ∨ (x = .int .i64 2 ∧ OwnL wr w.heap.size v0 [p, u - A, q, u - (n - B)]) ∨ (x = .int .i64 3 ∧ OwnL wr w.heap.size v0 [p, u - A, q, u - (n - B), p + q, A + (n - B) - u]))) (fun _ x _ => 3 - (intOf x).toNat)
    case atStart => exact ⟨_, rfl, B'.alloc B'.size _, .inl ⟨rfl, World.ownsRow_nil _ _ _ _⟩⟩
    case round =>
    obtain ⟨v0, rfl, hB, ⟨rfl, ho⟩ | ⟨rfl, ho⟩ | ⟨rfl, ho⟩ | ⟨rfl, ho⟩⟩ := hrel
    · have HL : Hid (([] : List Int).length = 0) := rfl
      have tx : Two (wr.alloc (.cells #[.int .i64 (p), .int .i64 (u - A)] 64)) wr.heap.size (.int .i64 (p)) (.int .i64 (u - A)) 64 := Two.new _ _ _ _
      have hox : OwnL (wr.alloc (.cells #[.int .i64 (p), .int .i64 (u - A)] 64)) w.heap.size v0 [] := World.ownsRow.alloc ho _
      have hBx : Below w.heap.size w (wr.alloc (.cells #[.int .i64 (p), .int .i64 (u - A)] 64)) := hB.alloc hB.size _
      clear ho hB
      go_upto_region 10 with fail
      generalize wr.alloc (.cells #[.int .i64 (p), .int .i64 (u - A)] 64) = wx at *
      generalize wr.heap.size = G at *
      have hzx := hBx.size
      have txc := tx.cell0
      have txd := tx.cell1
      clear tx
      go_wp2_with (at_builtin; refine append_int2 rfl _ _ rfl w.heap.size v0 [] 0 HL (by omega) rfl hox hzx rfl ?_)
      intro v5 w5 ho5 hn5 hb5
      have hB5 : Below w.heap.size w w5 := hBx.trans hb5
      clear hox hb5 hBx
      go_wp2_with fail
      go_roundw
      case rel => exact ⟨_, rfl, hB5, .inr (.inl ⟨by go_num, ho5⟩)⟩
      case measure => simp only [intOf]; omega
    · have HL : Hid (([p, u - A] : List Int).length = 2) := rfl
      have tx : Two (wr.alloc (.cells #[.int .i64 (q), .int .i64 (u - (n - B))] 64)) wr.heap.size (.int .i64 (q)) (.int .i64 (u - (n - B))) 64 := Two.new _ _ _ _
      have hox : OwnL (wr.alloc (.cells #[.int .i64 (q), .int .i64 (u - (n - B))] 64)) w.heap.size v0 [p, u - A] := World.ownsRow.alloc ho _
      have hBx : Below w.heap.size w (wr.alloc (.cells #[.int .i64 (q), .int .i64 (u - (n - B))] 64)) := hB.alloc hB.size _
      clear ho hB
      go_upto_region 10 with fail
      generalize wr.alloc (.cells #[.int .i64 (q), .int .i64 (u - (n - B))] 64) = wx at *
      generalize wr.heap.size = G at *
      have hzx := hBx.size
      have txc := tx.cell0
      have txd := tx.cell1
      clear tx
      go_wp2_with (at_builtin; refine append_int2 rfl _ _ rfl w.heap.size v0 [p, u - A] 2 HL (by omega) rfl hox hzx rfl ?_)
      intro v5 w5 ho5 hn5 hb5
      have hB5 : Below w.heap.size w w5 := hBx.trans hb5
      clear hox hb5 hBx
      go_wp2_with fail
      go_roundw
      case rel => exact ⟨_, rfl, hB5, .inr (.inr (.inl ⟨by go_num, ho5⟩))⟩
      case measure => simp only [intOf]; omega
    · have HL : Hid (([p, u - A, q, u - (n - B)] : List Int).length = 4) := rfl
      have tx : Two (wr.alloc (.cells #[.int .i64 (p + q), .int .i64 (A + (n - B) - u)] 64)) wr.heap.size (.int .i64 (p + q)) (.int .i64 (A + (n - B) - u)) 64 := Two.new _ _ _ _
      have hox : OwnL (wr.alloc (.cells #[.int .i64 (p + q), .int .i64 (A + (n - B) - u)] 64)) w.heap.size v0 [p, u - A, q, u - (n - B)] := World.ownsRow.alloc ho _
      have hBx : Below w.heap.size w (wr.alloc (.cells #[.int .i64 (p + q), .int .i64 (A + (n - B) - u)] 64)) := hB.alloc hB.size _
      clear ho hB
      go_upto_region 10 with fail
      generalize wr.alloc (.cells #[.int .i64 (p + q), .int .i64 (A + (n - B) - u)] 64) = wx at *
      generalize wr.heap.size = G at *
      have hzx := hBx.size
      have txc := tx.cell0
      have txd := tx.cell1
      clear tx
      go_wp2_with (at_builtin; refine append_int2 rfl _ _ rfl w.heap.size v0 [p, u - A, q, u - (n - B)] 4 HL (by omega) rfl hox hzx rfl ?_)
      intro v5 w5 ho5 hn5 hb5
      have hB5 : Below w.heap.size w w5 := hBx.trans hb5
      clear hox hb5 hBx
      go_wp2_with fail
      go_roundw
      case rel => exact ⟨_, rfl, hB5, .inr (.inr (.inr ⟨by go_num, ho5⟩))⟩
      case measure => simp only [intOf]; omega
    · go_wp2
      go_ret
      exact ⟨_, rfl, ho, hB⟩
end Go.Proofs.Ytppahekbgbbidac
