/- Contracts of the Draw functions of chapter 9. -/
import Derived.Test.YtdkmghbbnkppcaaDrawQ
import Derived.Test.YtdkmghbbnkppcaaNumP
import Derived.Deep.Cut
import Derived.Deep.RegionHeld3
set_option linter.unusedVariables false
namespace Go.Proofs.Ytdkmghbbnkppcaa

set_option maxRecDepth 4000
open Go.ChangeShapes Go.WideShapes Go.ChangeAt Go.RowKit Go.Joins

theorem OwnL.away {w : World} {b B : Nat} {v : Value} {xs : List Int} (h : OwnL w b v xs) (hB : B < b) (i : Nat) (x : Value) : OwnL (w.setCell ⟨B, i, none⟩ x) b v xs := by
  refine World.ownsRow.kept (w := w) (row := some B) h ⟨rfl, rfl, rfl, by simp [World.setCell], fun k _ hk => Below.heap_setCell _ _ _ _ (fun (e : k = B) => hk (by rw [e]))⟩ (.inr (fun e => by have := (World.ownsRow.lt h _ e).1; omega))

theorem set_len (D : List Int) (j : Nat) (x : Int) : (D.set j x).length = D.length := List.length_set ..

theorem set_getD (D : List Int) (j i : Nat) (x : Int) (hj : j < D.length) : (D.set j x).getD i 0 = if i = j then x else D.getD i 0 := by
  rw [List.getD_eq_getElem?_getD, List.getD_eq_getElem?_getD, List.getElem?_set]
  by_cases c : j = i
  · subst c; rw [if_pos rfl, if_pos rfl, if_pos hj]; rfl
  · rw [if_neg c, if_neg (fun e => c e.symm)]

set_option maxHeartbeats 1000000 in
theorem drawBasisOf_any (a : Option Addr) (len cap : Nat) (w : World) (hc : CodeIn w a len cap) (hl : len ≤ 1048576) :
    Calls Try.prog 18 #[.slice a len cap] w (DTPost w) := by
  have hb0 : Below w.heap.size w (w.alloc (.cells #[.int .i64 0, .int .i64 0] 24)) := (by repeat (first | exact Below.refl _ _ | assumption | (refine Below.trans ?_ (Below.mono (by assumption) (by first | omega | (simp <;> omega)))) | (refine Below.alloc ?_ (by first | omega | (simp <;> omega)) _) | (refine below_drewN ?_ _) | (refine Below.drew ?_) | (refine Below.setCell ?_ (by first | omega | (simp <;> omega)) _)))
  go_enter Try.func18, Try.ntmps18
  go_wp2_with fail
  refine (l20Open_any a len cap _ (hc.below hb0) hl).mono ?_; rintro e w1 ⟨r, rfl, hr, hr1, hb1⟩
  simp at hr
  have hA : w.heap.size ≠ r := by omega
  have u1 := (Two.new w (.int .i64 0) (.int .i64 0) 24).same (hb1.block _ (by simp))
  have hB1 := hb0.trans (hb1.mono (by simp))
  clear hb1
  go_wp2_with fail
  refine (l20Turn_any r 0 9 _ hr1 (by omega) (by omega) (by omega)).mono ?_
  rintro e w3 ⟨n, s, q, rfl, n0, n1, s0, s1, q0, q1, hr3, ho3⟩
  have u4 := ho3.two u1 hA
  have hB4 := hB1.trans (ho3.below (by omega) hB1.size)
  clear ho3 u1 hr1
  have c0 := u4.cell0
  have c1 := u4.cell1
  have f0 := u4.free 0
  have f1 := u4.free 1
  have u5 := (u4.set0 (.int .i64 n)).set1 (.int .i64 s)
  have e0 := u5.cell0
  have e1 := u5.cell1
  go_wp2
  refine bodyPost_ret (v := (.agg #[.int .i64 (n), .int .i64 (s)])) (by simp [results, Try.results18, go_sem, e0, e1]) rfl ?_
  exact ⟨n, s, rfl, by omega, by omega, by omega, by omega, (hB4.setCell (Nat.le_refl _) _).setCell (Nat.le_refl _) _⟩

set_option maxHeartbeats 1000000 in
theorem drawMostDigits_any (a : Option Addr) (len cap : Nat) (w : World) (hc : CodeIn w a len cap) (hl : len ≤ 1048576) :
    Calls Try.prog 28 #[.slice a len cap] w (DTPost w) := by
  have hb0 : Below w.heap.size w (w.alloc (.cells #[.int .i64 0, .int .i64 0] 24)) := (by repeat (first | exact Below.refl _ _ | assumption | (refine Below.trans ?_ (Below.mono (by assumption) (by first | omega | (simp <;> omega)))) | (refine Below.alloc ?_ (by first | omega | (simp <;> omega)) _) | (refine below_drewN ?_ _) | (refine Below.drew ?_) | (refine Below.setCell ?_ (by first | omega | (simp <;> omega)) _)))
  go_enter Try.func28, Try.ntmps28
  go_wp2_with fail
  refine (l20Open_any a len cap _ (hc.below hb0) hl).mono ?_; rintro e w1 ⟨r, rfl, hr, hr1, hb1⟩
  simp at hr
  have hA : w.heap.size ≠ r := by omega
  have u1 := (Two.new w (.int .i64 0) (.int .i64 0) 24).same (hb1.block _ (by simp))
  have hB1 := hb0.trans (hb1.mono (by simp))
  clear hb1
  go_wp2_with fail
  refine (l20Turn_any r 0 9 _ hr1 (by omega) (by omega) (by omega)).mono ?_
  rintro e w3 ⟨n, s, q, rfl, n0, n1, s0, s1, q0, q1, hr3, ho3⟩
  have u4 := ho3.two u1 hA
  have hB4 := hB1.trans (ho3.below (by omega) hB1.size)
  clear ho3 u1 hr1
  have c0 := u4.cell0
  have c1 := u4.cell1
  have f0 := u4.free 0
  have f1 := u4.free 1
  have u5 := (u4.set0 (.int .i64 n)).set1 (.int .i64 s)
  have e0 := u5.cell0
  have e1 := u5.cell1
  go_wp2
  refine bodyPost_ret (v := (.agg #[.int .i64 (n), .int .i64 (s)])) (by simp [results, Try.results28, go_sem, e0, e1]) rfl ?_
  exact ⟨n, s, rfl, by omega, by omega, by omega, by omega, (hB4.setCell (Nat.le_refl _) _).setCell (Nat.le_refl _) _⟩

set_option maxHeartbeats 1000000 in
theorem drawDigitsOf_any (a : Option Addr) (len cap : Nat) (w : World) (hc : CodeIn w a len cap) (hl : len ≤ 1048576) :
    Calls Try.prog 31 #[.slice a len cap] w (DTIPost w) := by
  have hb0 : Below w.heap.size w (w.alloc (.cells #[.int .i64 0, .int .i64 0] 24)) := (by repeat (first | exact Below.refl _ _ | assumption | (refine Below.trans ?_ (Below.mono (by assumption) (by first | omega | (simp <;> omega)))) | (refine Below.alloc ?_ (by first | omega | (simp <;> omega)) _) | (refine below_drewN ?_ _) | (refine Below.drew ?_) | (refine Below.setCell ?_ (by first | omega | (simp <;> omega)) _)))
  go_enter Try.func31, Try.ntmps31
  go_wp2_with fail
  refine (l20Open_any a len cap _ (hc.below hb0) hl).mono ?_; rintro e w1 ⟨r, rfl, hr, hr1, hb1⟩
  simp at hr
  have hA : w.heap.size ≠ r := by omega
  have u1 := (Two.new w (.int .i64 0) (.int .i64 0) 24).same (hb1.block _ (by simp))
  have hB1 := hb0.trans (hb1.mono (by simp))
  clear hb1
  go_wp2_with fail
  refine (l20At_any r 0 _ hr1 (by omega) (by omega)).mono ?_
  rintro e w3 ⟨n, s, k, q, rfl, n0, n1, s0, s1, k0, k1, q0, q1, hr3, ho3⟩
  have u4 := ho3.two u1 hA
  have hB4 := hB1.trans (ho3.below (by omega) hB1.size)
  clear ho3 u1 hr1
  have c0 := u4.cell0
  have c1 := u4.cell1
  have f0 := u4.free 0
  have f1 := u4.free 1
  have u5 := (u4.set0 (.int .i64 n)).set1 (.int .i64 s)
  have e0 := u5.cell0
  have e1 := u5.cell1
  go_wp2
  refine bodyPost_ret (v := .tuple #[(.agg #[.int .i64 (n), .int .i64 (s)]), .int .i64 k]) (by simp [results, Try.results31, go_sem, e0, e1]) rfl ?_
  exact ⟨n, s, k, rfl, by omega, by omega, by omega, by omega, by omega, by omega, (hB4.setCell (Nat.le_refl _) _).setCell (Nat.le_refl _) _⟩

set_option maxHeartbeats 1000000 in
theorem drawDigitSum_any (a : Option Addr) (len cap : Nat) (w : World) (hc : CodeIn w a len cap) (hl : len ≤ 1048576) :
    Calls Try.prog 45 #[.slice a len cap] w (DTIPost w) := by
  have hb0 : Below w.heap.size w (w.alloc (.cells #[.int .i64 0, .int .i64 0] 24)) := (by repeat (first | exact Below.refl _ _ | assumption | (refine Below.trans ?_ (Below.mono (by assumption) (by first | omega | (simp <;> omega)))) | (refine Below.alloc ?_ (by first | omega | (simp <;> omega)) _) | (refine below_drewN ?_ _) | (refine Below.drew ?_) | (refine Below.setCell ?_ (by first | omega | (simp <;> omega)) _)))
  go_enter Try.func45, Try.ntmps45
  go_wp2_with fail
  refine (l20Open_any a len cap _ (hc.below hb0) hl).mono ?_; rintro e w1 ⟨r, rfl, hr, hr1, hb1⟩
  simp at hr
  have hA : w.heap.size ≠ r := by omega
  have u1 := (Two.new w (.int .i64 0) (.int .i64 0) 24).same (hb1.block _ (by simp))
  have hB1 := hb0.trans (hb1.mono (by simp))
  clear hb1
  go_wp2_with fail
  refine (l20At_any r 0 _ hr1 (by omega) (by omega)).mono ?_
  rintro e w3 ⟨n, s, k, q, rfl, n0, n1, s0, s1, k0, k1, q0, q1, hr3, ho3⟩
  have u4 := ho3.two u1 hA
  have hB4 := hB1.trans (ho3.below (by omega) hB1.size)
  clear ho3 u1 hr1
  have c0 := u4.cell0
  have c1 := u4.cell1
  have f0 := u4.free 0
  have f1 := u4.free 1
  have u5 := (u4.set0 (.int .i64 n)).set1 (.int .i64 s)
  have e0 := u5.cell0
  have e1 := u5.cell1
  go_wp2
  refine bodyPost_ret (v := .tuple #[(.agg #[.int .i64 (n), .int .i64 (s)]), .int .i64 k]) (by simp [results, Try.results45, go_sem, e0, e1]) rfl ?_
  exact ⟨n, s, k, rfl, by omega, by omega, by omega, by omega, by omega, by omega, (hB4.setCell (Nat.le_refl _) _).setCell (Nat.le_refl _) _⟩

/-- a turn and a row of numbers -/
def DigPost (B : Nat) (w : World) (e : Ending) (w' : World) : Prop := ∃ n s v D, e = .returned (.tuple #[(.agg #[.int .i64 (n), .int .i64 (s)]), v]) ∧ OwnL w' w.heap.size v D ∧ D.length ≤ 10 ∧ Below B w w'

set_option maxHeartbeats 8000000 in
theorem l20Digits_any (r B : Nat) (w : World) (hr : Rd w r 0) (hBr : B ≤ r) : Calls Try.prog 69 #[.pointer (some ⟨r, 0, none⟩)] w (DigPost B w) := by
  have hlt := hr.lt
  have hAr : w.heap.size ≠ r := by omega
  go_enter Try.func69, Try.ntmps69
  go_wp2_with fail
  refine (l20At_any r 0 _ (hr.alloc _) (by omega) (by omega)).mono ?_
  rintro e w3 ⟨n, s, k, q, rfl, n0, n1, s0, s1, k0, k1, q0, q1, hr3, ho3⟩
  have u3 := ho3.two (Two.new _ _ _ _) hAr
  have hB3 : Below B w w3 := ((Below.refl B w).alloc (by omega) _).trans (ho3.below hBr (by simp; omega))
  have hz3 := u3.lt
  have t4 : Two (w3.alloc (.cells #[.int .i64 n, .int .i64 s] 24)) w3.heap.size (.int .i64 n) (.int .i64 s) 24 := Two.new _ _ _ _
  have u4 := u3.alloc (.cells #[.int .i64 n, .int .i64 s] 24)
  have hr4 := hr3.alloc (.cells #[.int .i64 n, .int .i64 s] 24)
  have hz3B := hB3.size
  have hB4 := hB3.alloc (by omega) (.cells #[.int .i64 n, .int .i64 s] 24)
  have hTr : w3.heap.size ≠ r := by have := hr3.lt; omega
  have lt4 := t4.lt
  have c0 := t4.cell0
  have c1 := t4.cell1
  clear ho3 hr3 u3 hB3
  go_wp2_with fail
  refine (specDigitsOf_any n s k _).mono ?_; rintro e w6 ⟨v6, rfl, ho6, hb6⟩
  have t6 := t4.below hb6 t4.lt
  have u6 := u4.below hb6 u4.lt
  have hr6 := hr4.below hb6
  have hB6 := hB4.trans (hb6.mono (by omega))
  have hl8 := digF_len n s k
  have hz6 := hb6.size
  obtain ⟨b6, hb6e⟩ : ∃ b, (w3.alloc (.cells #[.int .i64 n, .int .i64 s] 24)).heap.size = b := ⟨_, rfl⟩
  rw [hb6e] at ho6 hz6 lt4
  have hrb : r < b6 := by omega
  have hTb : w3.heap.size < b6 := lt4
  have hAb : w.heap.size < b6 := by omega
  have hBb : B ≤ b6 := by omega
  clear hb6 t4 u4 hr4 hB4 hb6e c0 c1
  generalize digF n s k = D at *
  generalize w3.heap.size = T at *
  obtain ⟨L, hL⟩ : ∃ L, D.length = L := ⟨_, rfl⟩
  by_cases h0 : L = 0
  · obtain ⟨a6, cap6, rfl, _⟩ := ho6.reads.cells hL
    subst h0
    go_wp2_with fail
    refine (odd_any r _ 20 _ hr6 (by omega) (by omega) (by omega)).mono ?_; rintro e wy ⟨vb, qy, rfl, hq1, hq2, hry, hoy, hsy⟩
    have hny := ho6.onlyR hoy hrb
    have ty := hoy.two t6 hTr
    have uy := hoy.two u6 hAr
    have hzx := hB6.size
    have hBy := hB6.trans (hoy.below hBr (by omega))
    have lby := ty.lt
    have hby : b6 ≤ wy.heap.size := by omega
    clear hoy hry hsy
    cases vb with
    | true =>
      obtain ⟨L9, hL9⟩ : ∃ L, (D).length = L := ⟨_, rfl⟩
      have HL9 := Lib.hid hL9
      have hL10 : L9 ≤ 9 := by have := hl8; omega
      clear hL9
      go_wp2_with (at_builtin; refine append_int rfl _ _ rfl b6 (.slice a6 0 cap6) (D) L9 HL9 (by omega) rfl hny hby rfl ?_)
      intro v8 w8 ho8 hn8 hb8
      have t8 := ty.below hb8 hTb
      have u8 := uy.below hb8 hAb
      have hB8 := hBy.trans (hb8.mono (by omega))
      have c0 := t8.cell0
      have c1 := t8.cell1
      have d0 := u8.cell0
      have d1 := u8.cell1
      have f0 := u8.free 0
      have f1 := u8.free 1
      have u9 := (u8.set0 (.int .i64 n)).set1 (.int .i64 s)
      have e0 := u9.cell0
      have e1 := u9.cell1
      have ho9 := (ho8.away hAb 0 (.int .i64 n)).away hAb 1 (.int .i64 s)
      have hl9 : (D ++ [(0 : Int)]).length ≤ 10 := by rw [List.length_append, HL9.out]; simp; omega
      clear hb8 t8 u8 ho8 hny ty uy hBy
      go_wp2
      refine bodyPost_ret (v := .tuple #[(.agg #[.int .i64 (n), .int .i64 (s)]), v8]) (by simp [results, Try.results69, go_sem, e0, e1]) rfl ?_
      exact ⟨n, s, v8, _, rfl, ho9.mono (by omega), hl9, (hB8.setCell (by simp; omega) _).setCell (by simp; omega) _⟩
    | false =>
      have c0 := ty.cell0
      have c1 := ty.cell1
      have d0 := uy.cell0
      have d1 := uy.cell1
      have f0 := uy.free 0
      have f1 := uy.free 1
      have u9 := (uy.set0 (.int .i64 n)).set1 (.int .i64 s)
      have e0 := u9.cell0
      have e1 := u9.cell1
      have ho9 := (hny.away hAb 0 (.int .i64 n)).away hAb 1 (.int .i64 s)
      have hl9 := hl8
      clear hny ty uy
      go_wp2
      refine bodyPost_ret (v := .tuple #[(.agg #[.int .i64 (n), .int .i64 (s)]), _]) (by simp [results, Try.results69, go_sem, e0, e1]; rfl) rfl ?_
      exact ⟨n, s, _, _, rfl, ho9.mono (by omega), by omega, (hBy.setCell (by simp; omega) _).setCell (by simp; omega) _⟩
  · obtain ⟨g, cap6, cur, rfl, hbg, hrow, hcs, hnc, hcm, hcu⟩ := ho6.rowI hL h0
    have hL0 : (0 : Int) < L := by omega
    go_wp2_with fail
    refine (pick_any r _ 3 _ hr6 (by omega) (by omega) (by omega)).mono ?_; rintro e w7 ⟨x7, rfl, a7, b7, hr7, ho7, hs7⟩
    have t7 := ho7.two t6 hTr
    have u7 := ho7.two u6 hAr
    have hn7 := ho6.onlyR ho7 hrb
    have hB7 := hB6.trans (ho7.below hBr (by have := hB6.size; omega))
    have hrow7 : RowAt w7 g cur := by
      have e := ho7.block g hrow.lt (by omega)
      unfold RowAt at *
      rw [e]; exact hrow
    clear ho7 t6 u6 ho6 hB6 hr6 hrow
    by_cases hx : x7 = 0
    · subst hx
      go_wp2_with fail
      refine (pick_any r _ (L : Int) _ hr7 (by omega) (by omega) (by omega)).mono ?_; rintro e w8 ⟨x8, rfl, a8, b8, hr8, ho8, hs8⟩
      have t8 := ho8.two t7 hTr
      have u8 := ho8.two u7 hAr
      have hB8 := hB7.trans (ho8.below hBr (by have := hB7.size; omega))
      have hrow8 : RowAt w8 g cur := by
        have e := ho8.block g hrow7.lt (by omega)
        unfold RowAt at *
        rw [e]; exact hrow7
      obtain ⟨j, rfl⟩ := Int.eq_ofNat_of_zero_le a8
      have hjL : j < L := by omega
      have hjL' : (j : Int) < L := by omega
      have hj0 : (0 : Int) ≤ j := by omega
      clear ho8 t7 u7 hB7 hr7 hrow7 hn7
      have cj := hrow8.cell j
      rw [hcu j hjL] at cj
      have fj := hrow8.free j
      have lrow := hrow8.lt
      obtain ⟨X, hX⟩ : ∃ X, D.getD j 0 = X := ⟨_, rfl⟩
      rw [hX] at cj
      have HX := Lib.hid hX
      clear hX
      have hz7a : b6 ≤ w7.heap.size := by omega
      have hz8a : b6 ≤ w8.heap.size := by omega
      have hgA : g ≠ r := by omega
      clear hs7 hs8
      go_wp2_with fail
      go_region_with ((go_at_call 74; refine (pick_any r _ _ _ (by first | exact hr8 | exact hr8.drewN 1) (by omega) (by omega) (by omega)).mono ?_; rintro e w' ⟨v, rfl, a9, b9, r', o', s'⟩; have row' : RowAt w' g cur := (by have e := o'.block g lrow hgA; unfold RowAt at *; rw [e]; exact hrow8); have c' := row'.cell j; rw [hcu j hjL, HX.out] at c'; have f' := row'.free j; clear s'))
      all_goals
        obtain ⟨Z, hZ⟩ : ∃ Z, IntKind.i64.wrap (IntKind.i64.wrap (X + v) - 1) = Z := ⟨_, rfl⟩
        rw [hZ]
        clear hZ
        have row9 := row'.set j (.int .i64 Z)
        have ho9 : OwnL (w'.setCell ⟨g, j, none⟩ (.int .i64 Z)) b6 (.slice (some ⟨g, 0, none⟩) L cap6) (D.set j Z) := by
          have hl : (D.set j Z).length = L := by rw [set_len]; exact hL
          have h := RowAt.ownCap (b := b6) (cap := cap6) (xs := D.set j Z) row9 hbg hcm (by omega) (by simp [hcs]) (fun i hi => by
            rw [hl] at hi
            rw [set_getD _ _ _ _ (by omega)]
            by_cases c : i = j
            · subst c; rw [if_pos rfl, Array.getElem?_setIfInBounds, if_pos rfl, if_pos (by omega)]
            · rw [if_neg c, Array.getElem?_setIfInBounds, if_neg (by omega)]; exact hcu i hi)
          rwa [hl] at h
        have t9 := (o'.two (Two.drew1 t8) hTr).set (b := g) (by omega) j (.int .i64 Z)
        have u9 := (o'.two (Two.drew1 u8) hAr).set (b := g) (by omega) j (.int .i64 Z)
        have r9 := r'.set (b := g) (by omega) j (.int .i64 Z)
        have hB9 : Below B w (w'.setCell ⟨g, j, none⟩ (.int .i64 Z)) := ((below_drewN hB8 1).trans (o'.below hBr (by show B ≤ w8.heap.size; omega))).setCell (by simp; omega) _
        have hz9 : b6 ≤ (w'.setCell ⟨g, j, none⟩ (.int .i64 Z)).heap.size := by have := o'.size; simp [World.setCell]; simp at this; omega
        have hln9 : (D.set j Z).length ≤ 8 := by rw [set_len]; exact hl8
        clear row9 row' c' f' r' o' t8 u8 hB8 hr8 hrow8 cj fj
        generalize w'.setCell ⟨g, j, none⟩ (.int .i64 Z) = wz at *
        go_wp2_with fail
        refine (odd_any r _ 20 _ r9 (by omega) (by omega) (by omega)).mono ?_; rintro e wy ⟨vb, qy, rfl, hq1, hq2, hry, hoy, hsy⟩
        have hny := ho9.onlyR hoy hrb
        have ty := hoy.two t9 hTr
        have uy := hoy.two u9 hAr
        have hzx := hB9.size
        have hBy := hB9.trans (hoy.below hBr (by omega))
        have lby := ty.lt
        have hby : b6 ≤ wy.heap.size := by omega
        clear hoy hry hsy
        cases vb with
        | true =>
          obtain ⟨L9, hL9⟩ : ∃ L, ((D.set j Z)).length = L := ⟨_, rfl⟩
          have HL9 := Lib.hid hL9
          have hL10 : L9 ≤ 9 := by have := hln9; omega
          clear hL9
          go_wp2_with (at_builtin; refine append_int rfl _ _ rfl b6 (.slice (some ⟨g, 0, none⟩) L cap6) ((D.set j Z)) L9 HL9 (by omega) rfl hny hby rfl ?_)
          intro v8 w8 ho8 hn8 hb8
          have t8 := ty.below hb8 hTb
          have u8 := uy.below hb8 hAb
          have hB8 := hBy.trans (hb8.mono (by omega))
          have c0 := t8.cell0
          have c1 := t8.cell1
          have d0 := u8.cell0
          have d1 := u8.cell1
          have f0 := u8.free 0
          have f1 := u8.free 1
          have u9 := (u8.set0 (.int .i64 n)).set1 (.int .i64 s)
          have e0 := u9.cell0
          have e1 := u9.cell1
          have ho9 := (ho8.away hAb 0 (.int .i64 n)).away hAb 1 (.int .i64 s)
          have hl9 : ((D.set j Z) ++ [(0 : Int)]).length ≤ 10 := by rw [List.length_append, HL9.out]; simp; omega
          clear hb8 t8 u8 ho8 hny ty uy hBy
          go_wp2
          refine bodyPost_ret (v := .tuple #[(.agg #[.int .i64 (n), .int .i64 (s)]), v8]) (by simp [results, Try.results69, go_sem, e0, e1]) rfl ?_
          exact ⟨n, s, v8, _, rfl, ho9.mono (by omega), hl9, (hB8.setCell (by simp; omega) _).setCell (by simp; omega) _⟩
        | false =>
          have c0 := ty.cell0
          have c1 := ty.cell1
          have d0 := uy.cell0
          have d1 := uy.cell1
          have f0 := uy.free 0
          have f1 := uy.free 1
          have u9 := (uy.set0 (.int .i64 n)).set1 (.int .i64 s)
          have e0 := u9.cell0
          have e1 := u9.cell1
          have ho9 := (hny.away hAb 0 (.int .i64 n)).away hAb 1 (.int .i64 s)
          have hl9 := hln9
          clear hny ty uy
          go_wp2
          refine bodyPost_ret (v := .tuple #[(.agg #[.int .i64 (n), .int .i64 (s)]), _]) (by simp [results, Try.results69, go_sem, e0, e1]; rfl) rfl ?_
          exact ⟨n, s, _, _, rfl, ho9.mono (by omega), by omega, (hBy.setCell (by simp; omega) _).setCell (by simp; omega) _⟩
    · have hx' : (x7 == 0) = false := by simpa using hx
      have hz7a : b6 ≤ w7.heap.size := by omega
      clear hs7 hrow7 hcu
      go_wp2_with fail
      refine (odd_any r _ 20 _ hr7 (by omega) (by omega) (by omega)).mono ?_; rintro e wy ⟨vb, qy, rfl, hq1, hq2, hry, hoy, hsy⟩
      have hny := hn7.onlyR hoy hrb
      have ty := hoy.two t7 hTr
      have uy := hoy.two u7 hAr
      have hzx := hB7.size
      have hBy := hB7.trans (hoy.below hBr (by omega))
      have lby := ty.lt
      have hby : b6 ≤ wy.heap.size := by omega
      clear hoy hry hsy
      cases vb with
      | true =>
        obtain ⟨L9, hL9⟩ : ∃ L, (D).length = L := ⟨_, rfl⟩
        have HL9 := Lib.hid hL9
        have hL10 : L9 ≤ 9 := by have := hl8; omega
        clear hL9
        go_wp2_with (at_builtin; refine append_int rfl _ _ rfl b6 (.slice (some ⟨g, 0, none⟩) L cap6) (D) L9 HL9 (by omega) rfl hny hby rfl ?_)
        intro v8 w8 ho8 hn8 hb8
        have t8 := ty.below hb8 hTb
        have u8 := uy.below hb8 hAb
        have hB8 := hBy.trans (hb8.mono (by omega))
        have c0 := t8.cell0
        have c1 := t8.cell1
        have d0 := u8.cell0
        have d1 := u8.cell1
        have f0 := u8.free 0
        have f1 := u8.free 1
        have u9 := (u8.set0 (.int .i64 n)).set1 (.int .i64 s)
        have e0 := u9.cell0
        have e1 := u9.cell1
        have ho9 := (ho8.away hAb 0 (.int .i64 n)).away hAb 1 (.int .i64 s)
        have hl9 : (D ++ [(0 : Int)]).length ≤ 10 := by rw [List.length_append, HL9.out]; simp; omega
        clear hb8 t8 u8 ho8 hny ty uy hBy
        go_wp2
        refine bodyPost_ret (v := .tuple #[(.agg #[.int .i64 (n), .int .i64 (s)]), v8]) (by simp [results, Try.results69, go_sem, e0, e1]) rfl ?_
        exact ⟨n, s, v8, _, rfl, ho9.mono (by omega), hl9, (hB8.setCell (by simp; omega) _).setCell (by simp; omega) _⟩
      | false =>
        have c0 := ty.cell0
        have c1 := ty.cell1
        have d0 := uy.cell0
        have d1 := uy.cell1
        have f0 := uy.free 0
        have f1 := uy.free 1
        have u9 := (uy.set0 (.int .i64 n)).set1 (.int .i64 s)
        have e0 := u9.cell0
        have e1 := u9.cell1
        have ho9 := (hny.away hAb 0 (.int .i64 n)).away hAb 1 (.int .i64 s)
        have hl9 := hl8
        clear hny ty uy
        go_wp2
        refine bodyPost_ret (v := .tuple #[(.agg #[.int .i64 (n), .int .i64 (s)]), _]) (by simp [results, Try.results69, go_sem, e0, e1]; rfl) rfl ?_
        exact ⟨n, s, _, _, rfl, ho9.mono (by omega), by omega, (hBy.setCell (by simp; omega) _).setCell (by simp; omega) _⟩

set_option maxHeartbeats 1000000 in
theorem drawDigitsOk_any (a : Option Addr) (len cap : Nat) (w : World) (hc : CodeIn w a len cap) (hl : len ≤ 1048576) :
    Calls Try.prog 36 #[.slice a len cap] w (DigPost w.heap.size w) := by
  have hb0 : Below w.heap.size w (w.alloc (.cells #[.int .i64 0, .int .i64 0] 24)) := (by repeat (first | exact Below.refl _ _ | assumption | (refine Below.trans ?_ (Below.mono (by assumption) (by first | omega | (simp <;> omega)))) | (refine Below.alloc ?_ (by first | omega | (simp <;> omega)) _) | (refine below_drewN ?_ _) | (refine Below.drew ?_) | (refine Below.setCell ?_ (by first | omega | (simp <;> omega)) _)))
  go_enter Try.func36, Try.ntmps36
  go_wp2_with fail
  refine (l20Open_any a len cap _ (hc.below hb0) hl).mono ?_; rintro e w1 ⟨r, rfl, hr, hr1, hb1⟩
  simp at hr
  have u1 := (Two.new w (.int .i64 0) (.int .i64 0) 24).same (hb1.block _ (by simp))
  have hB1 := hb0.trans (hb1.mono (by simp))
  have hz1 := hb1.size
  simp at hz1
  clear hb1
  go_wp2_with fail
  refine (l20Digits_any r (w.heap.size + 1) _ hr1 (by omega)).mono ?_
  rintro e w3 ⟨n, s, v, D, rfl, ho3, hl3, hb3⟩
  have u4 := u1.below hb3 (by omega)
  have hB4 := hB1.trans (hb3.mono (by omega))
  have ho4 := ho3.mono (b' := w.heap.size + 1) (by omega)
  clear hb3 u1 hr1 ho3
  have c0 := u4.cell0
  have c1 := u4.cell1
  have f0 := u4.free 0
  have f1 := u4.free 1
  have u5 := (u4.set0 (.int .i64 n)).set1 (.int .i64 s)
  have e0 := u5.cell0
  have e1 := u5.cell1
  have ho5 := (ho4.away (B := w.heap.size) (by omega) 0 (.int .i64 n)).away (B := w.heap.size) (by omega) 1 (.int .i64 s)
  clear ho4
  go_wp2
  refine bodyPost_ret (v := .tuple #[(.agg #[.int .i64 (n), .int .i64 (s)]), v]) (by simp [results, Try.results36, go_sem, e0, e1]) rfl ?_
  exact ⟨n, s, v, D, rfl, ho5.mono (by omega), hl3, (hB4.setCell (Nat.le_refl _) _).setCell (Nat.le_refl _) _⟩

set_option maxHeartbeats 1000000 in
theorem drawNumberOf_any (a : Option Addr) (len cap : Nat) (w : World) (hc : CodeIn w a len cap) (hl : len ≤ 1048576) :
    Calls Try.prog 39 #[.slice a len cap] w (DigPost w.heap.size w) := by
  have hb0 : Below w.heap.size w (w.alloc (.cells #[.int .i64 0, .int .i64 0] 24)) := (by repeat (first | exact Below.refl _ _ | assumption | (refine Below.trans ?_ (Below.mono (by assumption) (by first | omega | (simp <;> omega)))) | (refine Below.alloc ?_ (by first | omega | (simp <;> omega)) _) | (refine below_drewN ?_ _) | (refine Below.drew ?_) | (refine Below.setCell ?_ (by first | omega | (simp <;> omega)) _)))
  go_enter Try.func39, Try.ntmps39
  go_wp2_with fail
  refine (l20Open_any a len cap _ (hc.below hb0) hl).mono ?_; rintro e w1 ⟨r, rfl, hr, hr1, hb1⟩
  simp at hr
  have u1 := (Two.new w (.int .i64 0) (.int .i64 0) 24).same (hb1.block _ (by simp))
  have hB1 := hb0.trans (hb1.mono (by simp))
  have hz1 := hb1.size
  simp at hz1
  clear hb1
  go_wp2_with fail
  refine (l20Digits_any r (w.heap.size + 1) _ hr1 (by omega)).mono ?_
  rintro e w3 ⟨n, s, v, D, rfl, ho3, hl3, hb3⟩
  have u4 := u1.below hb3 (by omega)
  have hB4 := hB1.trans (hb3.mono (by omega))
  have ho4 := ho3.mono (b' := w.heap.size + 1) (by omega)
  clear hb3 u1 hr1 ho3
  have c0 := u4.cell0
  have c1 := u4.cell1
  have f0 := u4.free 0
  have f1 := u4.free 1
  have u5 := (u4.set0 (.int .i64 n)).set1 (.int .i64 s)
  have e0 := u5.cell0
  have e1 := u5.cell1
  have ho5 := (ho4.away (B := w.heap.size) (by omega) 0 (.int .i64 n)).away (B := w.heap.size) (by omega) 1 (.int .i64 s)
  clear ho4
  go_wp2
  refine bodyPost_ret (v := .tuple #[(.agg #[.int .i64 (n), .int .i64 (s)]), v]) (by simp [results, Try.results39, go_sem, e0, e1]) rfl ?_
  exact ⟨n, s, v, D, rfl, ho5.mono (by omega), hl3, (hB4.setCell (Nat.le_refl _) _).setCell (Nat.le_refl _) _⟩

set_option maxHeartbeats 1000000 in
theorem drawNextDigits_any (a : Option Addr) (len cap : Nat) (w : World) (hc : CodeIn w a len cap) (hl : len ≤ 1048576) :
    Calls Try.prog 42 #[.slice a len cap] w (DigPost w.heap.size w) := by
  have hb0 : Below w.heap.size w (w.alloc (.cells #[.int .i64 0, .int .i64 0] 24)) := (by repeat (first | exact Below.refl _ _ | assumption | (refine Below.trans ?_ (Below.mono (by assumption) (by first | omega | (simp <;> omega)))) | (refine Below.alloc ?_ (by first | omega | (simp <;> omega)) _) | (refine below_drewN ?_ _) | (refine Below.drew ?_) | (refine Below.setCell ?_ (by first | omega | (simp <;> omega)) _)))
  go_enter Try.func42, Try.ntmps42
  go_wp2_with fail
  refine (l20Open_any a len cap _ (hc.below hb0) hl).mono ?_; rintro e w1 ⟨r, rfl, hr, hr1, hb1⟩
  simp at hr
  have u1 := (Two.new w (.int .i64 0) (.int .i64 0) 24).same (hb1.block _ (by simp))
  have hB1 := hb0.trans (hb1.mono (by simp))
  have hz1 := hb1.size
  simp at hz1
  clear hb1
  go_wp2_with fail
  refine (l20Digits_any r (w.heap.size + 1) _ hr1 (by omega)).mono ?_
  rintro e w3 ⟨n, s, v, D, rfl, ho3, hl3, hb3⟩
  have u4 := u1.below hb3 (by omega)
  have hB4 := hB1.trans (hb3.mono (by omega))
  have ho4 := ho3.mono (b' := w.heap.size + 1) (by omega)
  clear hb3 u1 hr1 ho3
  have c0 := u4.cell0
  have c1 := u4.cell1
  have f0 := u4.free 0
  have f1 := u4.free 1
  have u5 := (u4.set0 (.int .i64 n)).set1 (.int .i64 s)
  have e0 := u5.cell0
  have e1 := u5.cell1
  have ho5 := (ho4.away (B := w.heap.size) (by omega) 0 (.int .i64 n)).away (B := w.heap.size) (by omega) 1 (.int .i64 s)
  clear ho4
  go_wp2
  refine bodyPost_ret (v := .tuple #[(.agg #[.int .i64 (n), .int .i64 (s)]), v]) (by simp [results, Try.results42, go_sem, e0, e1]) rfl ?_
  exact ⟨n, s, v, D, rfl, ho5.mono (by omega), hl3, (hB4.setCell (Nat.le_refl _) _).setCell (Nat.le_refl _) _⟩
end Go.Proofs.Ytdkmghbbnkppcaa
