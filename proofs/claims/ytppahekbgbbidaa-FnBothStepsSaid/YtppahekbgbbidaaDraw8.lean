/- Contract of DrawBothSteps. -/
import Derived.Test.YtppahekbgbbidaaGDraw
import Derived.Test.YtppahekbgbbidaaGMath
import Derived.BigRegion
set_option linter.unusedVariables false
namespace Go.Proofs.Ytppahekbgbbidaa
open Go.ChangeShapes Go.WideShapes Go.ChangeAt Go.RowKit Go.Joins

def DTTPost (w : World) (e : Ending) (w' : World) : Prop :=
  ∃ (n s m l : Int), e = .returned (.tuple #[(.agg #[.int .i64 (n), .int .i64 (s)]), (.agg #[.int .i64 (m), .int .i64 (l)])]) ∧ -2 ≤ n ∧ n ≤ 100 ∧ -2 ≤ s ∧ s ≤ 100 ∧ -2 ≤ m ∧ m ≤ 100 ∧ -2 ≤ l ∧ l ≤ 100 ∧ Below w.heap.size w w'

theorem set_away2 {w : World} {A g : Nat} (h : ¬ g = A) (o : Nat) (x y : Value) (p q : Nat) : ((w.setCell ⟨A, p, none⟩ x).setCell ⟨A, q, none⟩ y).cell? ⟨g, o, none⟩ = w.cell? ⟨g, o, none⟩ := by
  rw [World.cell?_of_block (w := w.setCell ⟨A, p, none⟩ x) (Below.heap_setCell _ _ _ _ h), World.cell?_of_block (w := w) (Below.heap_setCell _ _ _ _ h)]

set_option maxHeartbeats 4000000 in
theorem drawBothSteps_any (a : Option Addr) (len cap : Nat) (w : World) (hc : CodeIn w a len cap) (hl : len ≤ 1048576) :
    Calls Try.prog 24 #[.slice a len cap] w (DTTPost w) := by
  have hb0 : Below w.heap.size w ((w.alloc (.cells #[.int .i64 0, .int .i64 0] 24)).alloc (.cells #[.int .i64 0, .int .i64 0] 24)) := (by repeat (first | exact Below.refl _ _ | assumption | (refine Below.trans ?_ (Below.mono (by assumption) (by first | omega | (simp <;> omega)))) | (refine Below.alloc ?_ (by first | omega | (simp <;> omega)) _) | (refine below_drewN ?_ _) | (refine Below.drew ?_) | (refine Below.setCell ?_ (by first | omega | (simp <;> omega)) _)))
  have uA0 : Two ((w.alloc (.cells #[.int .i64 0, .int .i64 0] 24)).alloc (.cells #[.int .i64 0, .int .i64 0] 24)) w.heap.size (.int .i64 0) (.int .i64 0) 24 := (Two.new _ _ _ _).alloc _
  have uB0 : Two ((w.alloc (.cells #[.int .i64 0, .int .i64 0] 24)).alloc (.cells #[.int .i64 0, .int .i64 0] 24)) (w.heap.size + 1) (.int .i64 0) (.int .i64 0) 24 := Two.new' _ _ _ _ _ (by simp)
  go_enter Try.func24, Try.ntmps24
  go_wp2_with fail
  refine (l20Open_any a len cap _ (hc.below hb0) hl).mono ?_; rintro e w1 ⟨r, rfl, hr, hr1, hb1⟩
  simp at hr
  have hA : w.heap.size ≠ r := by omega
  have hA2 : w.heap.size + 1 ≠ r := by omega
  have uA1 := uA0.same (hb1.block _ (by simp; omega))
  have uB1 := uB0.same (hb1.block _ (by simp))
  have hB1 := hb0.trans (hb1.mono (by simp; omega))
  clear hb1 uA0 uB0 hb0
  go_wp2_with fail
  refine (l20Turn_any r 0 12 _ hr1 (by omega) (by omega) (by omega)).mono ?_
  rintro e w3 ⟨n, s, q, rfl, n0, n1, s0, s1, q0, q1, hr3, ho3⟩
  have uA3 := ho3.two uA1 hA
  have uB3 := ho3.two uB1 hA2
  have hB3 := hB1.trans (ho3.below (by omega) hB1.size)
  have hrl := hr3.lt
  have hT : w3.heap.size ≠ r := by omega
  clear ho3 uA1 uB1 hr1 hB1
  go_wp2_with fail
  refine (l20Turn_any r q 12 _ (hr3.alloc _) (by omega) (by omega) (by omega)).mono ?_
  rintro e w5 ⟨m, l, p, rfl, m0, m1, l0, l1, p0, p1, hr5, ho5⟩
  have t5 := ho5.two (Two.new w3 (.int .i64 n) (.int .i64 s) 24) hT
  have uA5 := ho5.two (uA3.alloc _) hA
  have uB5 := ho5.two (uB3.alloc _) hA2
  have hB5 := (hB3.alloc (by have := hB3.size; omega) _).trans (ho5.below (by omega) (by have := hB3.size; simp; omega))
  have tl5 := t5.lt
  have hU : w5.heap.size ≠ r := by have := hr5.lt; omega
  clear ho5 uA3 uB3 hr3 hB3
  generalize w3.heap.size = T at *
  have t5c := t5.cell0
  have t5d := t5.cell1
  go_wp2_with fail
  have t6 := t5.alloc (Obj.cells #[Value.int IntKind.i64 m, Value.int IntKind.i64 l] 24)
  have v6 := Two.new w5 (.int .i64 m) (.int .i64 l) 24
  have uA6 := uA5.alloc (Obj.cells #[Value.int IntKind.i64 m, Value.int IntKind.i64 l] 24)
  have uB6 := uB5.alloc (Obj.cells #[Value.int IntKind.i64 m, Value.int IntKind.i64 l] 24)
  have hr6 := hr5.alloc (Obj.cells #[Value.int IntKind.i64 m, Value.int IntKind.i64 l] 24)
  have hB6 := hB5.alloc (by have := hB5.size; omega) (Obj.cells #[Value.int IntKind.i64 m, Value.int IntKind.i64 l] 24)
  have hz6 : (w5.alloc (Obj.cells #[Value.int IntKind.i64 m, Value.int IntKind.i64 l] 24)).heap.size = w5.heap.size + 1 := by simp
  have hUl : w5.heap.size < (w5.alloc (Obj.cells #[Value.int IntKind.i64 m, Value.int IntKind.i64 l] 24)).heap.size := by simp
  have hTU : T < w5.heap.size := tl5
  clear t5 uA5 uB5 hr5 hB5 hz6 tl5 t5c t5d
  generalize w5.alloc (Obj.cells #[Value.int IntKind.i64 m, Value.int IntKind.i64 l] 24) = w6 at *
  generalize w5.heap.size = U at *
  refine (specTurnOk_any _ _ _).mono ?_; rintro e w7 ⟨rfl, hb7⟩
  have t7 := t6.below hb7 t6.lt
  have v7 := v6.below hb7 v6.lt
  have uA7 := uA6.below hb7 uA6.lt
  have uB7 := uB6.below hb7 uB6.lt
  have hr7 := hr6.below hb7
  have hB7 := hB6.trans (hb7.mono hB6.size)
  clear t6 v6 uA6 uB6 hr6 hb7 hB6
  have t7c := t7.cell0
  have t7d := t7.cell1
  have v7c := v7.cell0
  have v7d := v7.cell1
  by_cases ht : tok n s = true
  · have hbt := tok_bd ht
    rw [ht]
    go_wp2_with fail
    refine (specTurnOk_any _ _ _).mono ?_; rintro e w8 ⟨rfl, hb8⟩
    have t8 := t7.below hb8 t7.lt
    have v8 := v7.below hb8 v7.lt
    have uA8 := uA7.below hb8 uA7.lt
    have uB8 := uB7.below hb8 uB7.lt
    have hr8 := hr7.below hb8
    have hB8 := hB7.trans (hb8.mono hB7.size)
    clear t7 v7 uA7 uB7 hr7 hb8 hB7 t7c t7d v7c v7d
    have t8c := t8.cell0
    have t8d := t8.cell1
    have v8c := v8.cell0
    have v8d := v8.cell1
    by_cases hu : tok m l = true
    · rw [hu]
      go_wp2_with fail
      refine (pick_any r _ 6 _ hr8 (by omega) (by omega) (by omega)).mono ?_; rintro e w9 ⟨x, rfl, a9, b9, hr9, ho9, hs9⟩
      have t9 := ho9.two t8 hT
      have v9 := ho9.two v8 hU
      have uA9 := ho9.two uA8 hA
      have uB9 := ho9.two uB8 hA2
      have hB9 := hB8.trans (ho9.below (by omega) hB8.size)
      clear t8 v8 uA8 uB8 hr8 ho9 hB8 t8c t8d v8c v8d
      have t9c := t9.cell0
      have t9d := t9.cell1
      have v9c := v9.cell0
      have v9d := v9.cell1
      by_cases hx : 0 < x
      · have fv0 := v9.free 0
        have fv1 := v9.free 1
        have xTU : ¬ T = U := by omega
        have o9 := OnlyR.refl r w9
        have wrn : IntKind.i64.wrap (n - 1) = n - 1 := IntWalk.i64_in _ (by omega)
        go_wp2_with fail
        go_region_held3 (fun w' => w'.cell? ⟨T, 0, none⟩ = some (.int .i64 n) ∧ w'.cell? ⟨T, 1, none⟩ = some (.int .i64 s))
          (first | go_keep | exact ⟨c0', c1'⟩ | exact ⟨(set_away2 (by omega) _ _ _ _ _).trans c0', (set_away2 (by omega) _ _ _ _ _).trans c1'⟩)
          (first | (go_at_call 64; refine (pick_any r _ (n - 1) _ (by assumption) (by omega) (by omega) (by omega)).mono ?_; rintro e w' ⟨v, rfl, a', b', r', o', s'⟩; have t' := o'.two (by assumption : Two _ T (.int .i64 n) (.int .i64 s) 24) hT; have v' := o'.two (by assumption : Two _ U (.int .i64 m) (.int .i64 l) 24) hU; have uA' := o'.two (by assumption : Two _ w.heap.size (.int .i64 0) (.int .i64 0) 24) hA; have uB' := o'.two (by assumption : Two _ (w.heap.size + 1) (.int .i64 0) (.int .i64 0) 24) hA2; have c0' := t'.cell0; have c1' := t'.cell1; have d0' := v'.cell0; have d1' := v'.cell1; have f0' := v'.free 0; have f1' := v'.free 1))
        have wv : IntKind.i64.wrap (1 + v) = 1 + v := IntWalk.i64_in _ (by omega)
        rw [wv]
        have t10 := (t'.set (b := U) (by omega) 0 (.int .i64 n)).set (b := U) (by omega) 1 (.int .i64 (1 + v))
        have v10 := (v'.set0 (.int .i64 n)).set1 (.int .i64 (1 + v))
        have uA10 := (uA'.set (b := U) (by omega) 0 (.int .i64 n)).set (b := U) (by omega) 1 (.int .i64 (1 + v))
        have uB10 := (uB'.set (b := U) (by omega) 0 (.int .i64 n)).set (b := U) (by omega) 1 (.int .i64 (1 + v))
        have hB10 := (((Below.drew hB9).trans (o'.below (B := w.heap.size) (by omega) hB9.size)).setCell (p := ⟨U, 0, none⟩) (by simp; omega) (.int .i64 n)).setCell (p := ⟨U, 1, none⟩) (by simp; omega) (.int .i64 (1 + v))
        have k1 : 1 ≤ 1 + v := by omega
        have k2 : 1 + v < n := by omega
        clear wv t' v' uA' uB' c0' c1' d0' d1' f0' f1' o' o9 r' s' t9 v9 uA9 uB9 hr9 t9c t9d v9c v9d fv0 fv1 hs9
        generalize ((w'.setCell { block := U, off := 0 } (Value.int IntKind.i64 n)).setCell { block := U, off := 1 } (Value.int IntKind.i64 (1 + v))) = w10 at *
        go_wp2_with fail
        go_loopg [37] (1 + v).toNat (fun k _ wr => 1 ≤ k ∧ (k : Int) < n ∧ Two wr T (.int .i64 n) (.int .i64 s) 24 ∧ Two wr U (.int .i64 n) (.int .i64 k) 24 ∧ Two wr w.heap.size (.int .i64 0) (.int .i64 0) 24 ∧ Two wr (w.heap.size + 1) (.int .i64 0) (.int .i64 0) 24 ∧ Below w.heap.size w wr)
        case atStart =>
          refine ⟨by omega, by omega, t10, ?_, uA10, uB10, hB10⟩
          rw [Int.toNat_of_nonneg (by omega)]
          exact v10
        case round =>
          obtain ⟨g1, g2, t6, v6, uA6, uB6, hB6⟩ := hrel
          clear t10 v10 uA10 uB10 hB10 k1 k2
          have t6c := t6.cell0
          have t6d := t6.cell1
          have v6c := v6.cell0
          have v6d := v6.cell1
          have fv1 := v6.free 1
          by_cases hg : 1 < Nat.gcd n.toNat gk
          · have hg' : (1 : Int) < ((Nat.gcd n.toNat gk : Nat) : Int) := by omega
            have hk : gk ≠ 1 := by rintro rfl; simp at hg
            have t7 := t6.set (b := U) (by omega) 1 (.int .i64 (gk - 1))
            have v7 := v6.set1 (.int .i64 (gk - 1))
            have uA7 := uA6.set (b := U) (by omega) 1 (.int .i64 (gk - 1))
            have uB7 := uB6.set (b := U) (by omega) 1 (.int .i64 (gk - 1))
            have hB7 := hB6.setCell (p := ⟨U, 1, none⟩) (by simp; omega) (.int .i64 (gk - 1))
            go_wp2_with fail
            refine (l1Common_any _ _ _ (by omega) (by omega) (by omega) (by omega)).mono ?_; rintro e w' ⟨rfl, rfl⟩
            rw [Int.toNat_natCast]
            go_wp2_with fail
            go_roundg (gk - 1)
            case measure => omega
            case rel => exact ⟨by omega, by omega, t7, by rw [show ((gk - 1 : Nat) : Int) = (gk : Int) - 1 by omega]; exact v7, uA7, uB7, hB7⟩
          · have hg' : ¬ (1 : Int) < ((Nat.gcd n.toNat gk : Nat) : Int) := by omega
            go_wp2_with fail
            refine (l1Common_any _ _ _ (by omega) (by omega) (by omega) (by omega)).mono ?_; rintro e w' ⟨rfl, rfl⟩
            rw [Int.toNat_natCast]
            go_wp2_with fail
            have fA0 := uA6.free 0
            have fA1 := uA6.free 1
            have fB0 := uB6.free 0
            have fB1 := uB6.free 1
            have dA0 := uA6.cell0
            have dA1 := uA6.cell1
            have dB0 := uB6.cell0
            have dB1 := uB6.cell1
            have x1 : ¬ T = w.heap.size := by omega
            have x2 : ¬ T = w.heap.size + 1 := by omega
            have x3 : ¬ U = w.heap.size := by omega
            have x4 : ¬ U = w.heap.size + 1 := by omega
            have gA := (((uA6.set0 (.int .i64 n)).set1 (.int .i64 s)).set (b := w.heap.size + 1) (by omega) 0 (.int .i64 n)).set (b := w.heap.size + 1) (by omega) 1 (.int .i64 gk)
            have gB := (((uB6.set (b := w.heap.size) (by omega) 0 (.int .i64 n)).set (b := w.heap.size) (by omega) 1 (.int .i64 s)).set0 (.int .i64 n)).set1 (.int .i64 gk)
            have hBz := (((hB6.setCell (p := ⟨w.heap.size, 0, none⟩) (Nat.le_refl _) (.int .i64 n)).setCell (p := ⟨w.heap.size, 1, none⟩) (Nat.le_refl _) (.int .i64 s)).setCell (p := ⟨w.heap.size + 1, 0, none⟩) (by simp) (.int .i64 n)).setCell (p := ⟨w.heap.size + 1, 1, none⟩) (by simp) (.int .i64 gk)
            have e0 := gA.cell0
            have e1 := gA.cell1
            have e2 := gB.cell0
            have e3 := gB.cell1
            clear hg hg' hbt hu ht
            go_region
            go_wp2
            refine bodyPost_ret (v := .tuple #[(.agg #[.int .i64 (n), .int .i64 (s)]), (.agg #[.int .i64 (n), .int .i64 ((gk : Int))])]) (by simp [results, Try.results24, go_sem, e0, e1, e2, e3]) rfl ?_
            exact ⟨n, s, n, gk, rfl, by omega, by omega, by omega, by omega, by omega, by omega, by omega, by omega, Below.drew hBz⟩
      · have hx' : decide (0 < x) = false := by simpa using hx
        have fA0 := uA9.free 0
        have fA1 := uA9.free 1
        have fB0 := uB9.free 0
        have fB1 := uB9.free 1
        have dA0 := uA9.cell0
        have dA1 := uA9.cell1
        have dB0 := uB9.cell0
        have dB1 := uB9.cell1
        have x1 : ¬ T = w.heap.size := by omega
        have x2 : ¬ T = w.heap.size + 1 := by omega
        have x3 : ¬ U = w.heap.size := by omega
        have x4 : ¬ U = w.heap.size + 1 := by omega
        have gA := (((uA9.set0 (.int .i64 n)).set1 (.int .i64 s)).set (b := w.heap.size + 1) (by omega) 0 (.int .i64 m)).set (b := w.heap.size + 1) (by omega) 1 (.int .i64 l)
        have gB := (((uB9.set (b := w.heap.size) (by omega) 0 (.int .i64 n)).set (b := w.heap.size) (by omega) 1 (.int .i64 s)).set0 (.int .i64 m)).set1 (.int .i64 l)
        have hBz := (((hB9.setCell (p := ⟨w.heap.size, 0, none⟩) (Nat.le_refl _) (.int .i64 n)).setCell (p := ⟨w.heap.size, 1, none⟩) (Nat.le_refl _) (.int .i64 s)).setCell (p := ⟨w.heap.size + 1, 0, none⟩) (by simp) (.int .i64 m)).setCell (p := ⟨w.heap.size + 1, 1, none⟩) (by simp) (.int .i64 l)
        have e0 := gA.cell0
        have e1 := gA.cell1
        have e2 := gB.cell0
        have e3 := gB.cell1
        go_wp2_with fail
        go_region
        go_wp2
        refine bodyPost_ret (v := .tuple #[(.agg #[.int .i64 (n), .int .i64 (s)]), (.agg #[.int .i64 (m), .int .i64 (l)])]) (by simp [results, Try.results24, go_sem, e0, e1, e2, e3]) rfl ?_
        exact ⟨n, s, m, l, rfl, by omega, by omega, by omega, by omega, by omega, by omega, by omega, by omega, Below.drew hBz⟩
    · have hu' : tok m l = false := by simpa using hu
      rw [hu']
      have fA0 := uA8.free 0
      have fA1 := uA8.free 1
      have fB0 := uB8.free 0
      have fB1 := uB8.free 1
      have dA0 := uA8.cell0
      have dA1 := uA8.cell1
      have dB0 := uB8.cell0
      have dB1 := uB8.cell1
      have x1 : ¬ T = w.heap.size := by omega
      have x2 : ¬ T = w.heap.size + 1 := by omega
      have x3 : ¬ U = w.heap.size := by omega
      have x4 : ¬ U = w.heap.size + 1 := by omega
      have gA := (((uA8.set0 (.int .i64 n)).set1 (.int .i64 s)).set (b := w.heap.size + 1) (by omega) 0 (.int .i64 m)).set (b := w.heap.size + 1) (by omega) 1 (.int .i64 l)
      have gB := (((uB8.set (b := w.heap.size) (by omega) 0 (.int .i64 n)).set (b := w.heap.size) (by omega) 1 (.int .i64 s)).set0 (.int .i64 m)).set1 (.int .i64 l)
      have hBz := (((hB8.setCell (p := ⟨w.heap.size, 0, none⟩) (Nat.le_refl _) (.int .i64 n)).setCell (p := ⟨w.heap.size, 1, none⟩) (Nat.le_refl _) (.int .i64 s)).setCell (p := ⟨w.heap.size + 1, 0, none⟩) (by simp) (.int .i64 m)).setCell (p := ⟨w.heap.size + 1, 1, none⟩) (by simp) (.int .i64 l)
      have e0 := gA.cell0
      have e1 := gA.cell1
      have e2 := gB.cell0
      have e3 := gB.cell1
      go_wp2_with fail
      go_region
      go_wp2
      refine bodyPost_ret (v := .tuple #[(.agg #[.int .i64 (n), .int .i64 (s)]), (.agg #[.int .i64 (m), .int .i64 (l)])]) (by simp [results, Try.results24, go_sem, e0, e1, e2, e3]) rfl ?_
      exact ⟨n, s, m, l, rfl, by omega, by omega, by omega, by omega, by omega, by omega, by omega, by omega, Below.drew hBz⟩
  · have ht' : tok n s = false := by simpa using ht
    rw [ht']
    have fA0 := uA7.free 0
    have fA1 := uA7.free 1
    have fB0 := uB7.free 0
    have fB1 := uB7.free 1
    have dA0 := uA7.cell0
    have dA1 := uA7.cell1
    have dB0 := uB7.cell0
    have dB1 := uB7.cell1
    have x1 : ¬ T = w.heap.size := by omega
    have x2 : ¬ T = w.heap.size + 1 := by omega
    have x3 : ¬ U = w.heap.size := by omega
    have x4 : ¬ U = w.heap.size + 1 := by omega
    have gA := (((uA7.set0 (.int .i64 n)).set1 (.int .i64 s)).set (b := w.heap.size + 1) (by omega) 0 (.int .i64 m)).set (b := w.heap.size + 1) (by omega) 1 (.int .i64 l)
    have gB := (((uB7.set (b := w.heap.size) (by omega) 0 (.int .i64 n)).set (b := w.heap.size) (by omega) 1 (.int .i64 s)).set0 (.int .i64 m)).set1 (.int .i64 l)
    have hBz := (((hB7.setCell (p := ⟨w.heap.size, 0, none⟩) (Nat.le_refl _) (.int .i64 n)).setCell (p := ⟨w.heap.size, 1, none⟩) (Nat.le_refl _) (.int .i64 s)).setCell (p := ⟨w.heap.size + 1, 0, none⟩) (by simp) (.int .i64 m)).setCell (p := ⟨w.heap.size + 1, 1, none⟩) (by simp) (.int .i64 l)
    have e0 := gA.cell0
    have e1 := gA.cell1
    have e2 := gB.cell0
    have e3 := gB.cell1
    go_wp2_with fail
    go_region
    go_wp2
    refine bodyPost_ret (v := .tuple #[(.agg #[.int .i64 (n), .int .i64 (s)]), (.agg #[.int .i64 (m), .int .i64 (l)])]) (by simp [results, Try.results24, go_sem, e0, e1, e2, e3]) rfl ?_
    exact ⟨n, s, m, l, rfl, by omega, by omega, by omega, by omega, by omega, by omega, by omega, by omega, Below.drew hBz⟩
end Go.Proofs.Ytppahekbgbbidaa
