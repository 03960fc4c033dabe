/- Contract of ReturnsBy of the program. -/
import Derived.Test.YtkhnnbgmckeoaaaRetJ
import Derived.Deep.Cut
set_option linter.unusedVariables false
namespace Go.Proofs.Ytkhnnbgmckeoaaa

set_option maxRecDepth 4000
open Go.ChangeShapes Go.WideShapes Go.ChangeAt Go.RowKit Go.Joins N

/-- a row of the table -/
theorem idx0 (a b c d e f : Int) (w : World) : (Instr.index 58 (.agg #[.int .i64 a, .int .i64 b, .int .i64 c, .int .i64 d, .int .i64 e, .int .i64 f]) (.int .i64 0)).run Try.prog w = .ok (.agg #[.int .i64 a, .int .i64 b]) w := by kernel_rfl

theorem idx1 (a b c d e f : Int) (w : World) : (Instr.index 58 (.agg #[.int .i64 a, .int .i64 b, .int .i64 c, .int .i64 d, .int .i64 e, .int .i64 f]) (.int .i64 1)).run Try.prog w = .ok (.agg #[.int .i64 c, .int .i64 d]) w := by kernel_rfl

theorem idx2 (a b c d e f : Int) (w : World) : (Instr.index 58 (.agg #[.int .i64 a, .int .i64 b, .int .i64 c, .int .i64 d, .int .i64 e, .int .i64 f]) (.int .i64 2)).run Try.prog w = .ok (.agg #[.int .i64 e, .int .i64 f]) w := by kernel_rfl

set_option maxHeartbeats 4000000 in
theorem returnsBy_any (n s u : Int) (w : World) :
    Calls Try.prog 35 #[(.agg #[.int .i64 (n), .int .i64 (s)]), .int .i64 u] w (ListPost (rbyF n s u) w) := by
  have hB0 : Below w.heap.size w (w.alloc (.cells #[.int .i64 n, .int .i64 s] 24)) := (by repeat (first | exact Below.refl _ _ | assumption | (refine Below.trans ?_ (Below.mono (by assumption) (by first | omega | (simp <;> omega)))) | (refine Below.alloc ?_ (by first | omega | (simp <;> omega)) _) | (refine below_drewN ?_ _) | (refine Below.drew ?_) | (refine Below.setCell ?_ (by first | omega | (simp <;> omega)) _)))
  have t0 : Two (w.alloc (.cells #[.int .i64 n, .int .i64 s] 24)) w.heap.size (.int .i64 n) (.int .i64 s) 24 := Two.new _ _ _ _
  have H1 := Lib.hid (fun w => arcUp_any n s u w)
  have H2 := Lib.hid (fun w => arcDown_any n s u w)
  rcases rby_cases n s u with ⟨h1, h2, h3, _⟩ | ⟨p, q, A, B, h1, h2, p0, p1, q0, q1, hA, hB, a0, a1, b0, b1, h3, ht, u1, u2⟩
  · rw [h3]
    rw [h1] at H1
    rw [h2] at H2
    clear h1 h2 h3
    go_enter Try.func35, Try.ntmps35
    go_wp2_with fail
    generalize w.alloc (.cells #[.int .i64 n, .int .i64 s] 24) = W at *
    have hz := hB0.size
    have c0 := t0.cell0
    have c1 := t0.cell1
    go_region_held3 (fun w' => w'.cell? ⟨w.heap.size, 0, none⟩ = some (.int .i64 n) ∧ w'.cell? ⟨w.heap.size, 1, none⟩ = some (.int .i64 s))
      (first | go_keep | exact ⟨t'c, t'd⟩)
      (first | (go_at_call 38; (with_reducible refine (H1.out _).mono ?_); rintro e w' ⟨rfl, hb'⟩; have t'' : Two w' w.heap.size (.int .i64 n) (.int .i64 s) 24 := (by first | exact Two.below t' hb' t'.lt | exact Two.below (Two.drewS t0) hb' t0.lt); have B'' : Below w.heap.size w w' := (by first | exact B'.trans (Below.mono hb' B'.size) | exact (below_drewN hB0 1).trans (hb'.mono hz)); have t' := t''; have B' := B''; have t'c := t'.cell0; have t'd := t'.cell1) | (go_at_call 42; (with_reducible refine (H2.out _).mono ?_); rintro e w' ⟨rfl, hb'⟩; have t'' : Two w' w.heap.size (.int .i64 n) (.int .i64 s) 24 := (by first | exact Two.below t' hb' t'.lt | exact Two.below (Two.drewS t0) hb' t0.lt); have B'' : Below w.heap.size w w' := (by first | exact B'.trans (Below.mono hb' B'.size) | exact (below_drewN hB0 1).trans (hb'.mono hz)); have t' := t''; have B' := B''; have t'c := t'.cell0; have t'd := t'.cell1))
    all_goals
      go_wp2
      go_ret
      exact ⟨_, rfl, World.ownsRow_nil _ _ _ _, B'⟩
  · have hb := tok_bd ht
    rw [h3]
    rw [h1] at H1
    rw [h2] at H2
    have E3 : pointF n s p = A := by rw [pointF_yes ht (by omega) (by omega)]; exact hA
    have E4 : pointF n s q = B := by rw [pointF_yes ht (by omega) (by omega)]; exact hB
    have H3 := Lib.hid (fun w => pointOf_any n s p w)
    have H4 := Lib.hid (fun w => pointOf_any n s q w)
    rw [E3] at H3
    rw [E4] at H4
    have p2 : ¬ p < 0 := by omega
    have q2 : ¬ q < 0 := by omega
    have wr1 : IntKind.i64.wrap (n - B) = n - B := IntWalk.i64_in _ (by omega)
    have wr2 : IntKind.i64.wrap (u - A) = u - A := IntWalk.i64_in _ (by omega)
    have wr3 : IntKind.i64.wrap (u - (n - B)) = u - (n - B) := IntWalk.i64_in _ (by omega)
    have wr4 : IntKind.i64.wrap (p + q) = p + q := IntWalk.i64_in _ (by omega)
    have wr5 : IntKind.i64.wrap (A + (n - B)) = A + (n - B) := IntWalk.i64_in _ (by omega)
    have wr6 : IntKind.i64.wrap (A + (n - B) - u) = A + (n - B) - u := IntWalk.i64_in _ (by omega)
    have i0 := fun w => idx0 p (u - A) q (u - (n - B)) (p + q) (A + (n - B) - u) w
    have i1 := fun w => idx1 p (u - A) q (u - (n - B)) (p + q) (A + (n - B) - u) w
    have i2 := fun w => idx2 p (u - A) q (u - (n - B)) (p + q) (A + (n - B) - u) w
    clear ht h1 h2 h3 hA hB E3 E4
    go_enter Try.func35, Try.ntmps35
    go_wp2_with fail
    generalize w.alloc (.cells #[.int .i64 n, .int .i64 s] 24) = W at *
    have hz := hB0.size
    have c0 := t0.cell0
    have c1 := t0.cell1
    go_region_held3 (fun w' => w'.cell? ⟨w.heap.size, 0, none⟩ = some (.int .i64 n) ∧ w'.cell? ⟨w.heap.size, 1, none⟩ = some (.int .i64 s))
      (first | go_keep | exact ⟨t'c, t'd⟩)
      (first | (go_at_call 38; (with_reducible refine (H1.out _).mono ?_); rintro e w' ⟨rfl, hb'⟩; have t'' : Two w' w.heap.size (.int .i64 n) (.int .i64 s) 24 := (by first | exact Two.below t' hb' t'.lt | exact Two.below (Two.drewS t0) hb' t0.lt); have B'' : Below w.heap.size w w' := (by first | exact B'.trans (Below.mono hb' B'.size) | exact (below_drewN hB0 1).trans (hb'.mono hz)); have t' := t''; have B' := B''; have t'c := t'.cell0; have t'd := t'.cell1) | (go_at_call 42; (with_reducible refine (H2.out _).mono ?_); rintro e w' ⟨rfl, hb'⟩; have t'' : Two w' w.heap.size (.int .i64 n) (.int .i64 s) 24 := (by first | exact Two.below t' hb' t'.lt | exact Two.below (Two.drewS t0) hb' t0.lt); have B'' : Below w.heap.size w w' := (by first | exact B'.trans (Below.mono hb' B'.size) | exact (below_drewN hB0 1).trans (hb'.mono hz)); have t' := t''; have B' := B''; have t'c := t'.cell0; have t'd := t'.cell1))
    clear t0 hB0 c0 c1 hz H1 H2
    have t0 := t'
    have hB0 := B'
    clear t' B' t'c t'd
    go_wp2_with fail
    have hz := hB0.size
    have c0 := t0.cell0
    have c1 := t0.cell1
    go_region_held3 (fun w' => w'.cell? ⟨w.heap.size, 0, none⟩ = some (.int .i64 n) ∧ w'.cell? ⟨w.heap.size, 1, none⟩ = some (.int .i64 s))
      (first | go_keep | exact ⟨t'c, t'd⟩)
      (first | (go_at_call 73; (with_reducible refine (H3.out _).mono ?_); rintro e w' ⟨rfl, hb'⟩; have t'' : Two w' w.heap.size (.int .i64 n) (.int .i64 s) 24 := (by first | exact Two.below t' hb' t'.lt | exact Two.below (Two.drewS t0) hb' t0.lt); have B'' : Below w.heap.size w w' := (by first | exact B'.trans (Below.mono hb' B'.size) | exact (below_drewN hB0 1).trans (hb'.mono hz)); have t' := t''; have B' := B''; have t'c := t'.cell0; have t'd := t'.cell1) | (go_at_call 73; (with_reducible refine (H4.out _).mono ?_); rintro e w' ⟨rfl, hb'⟩; have t'' : Two w' w.heap.size (.int .i64 n) (.int .i64 s) 24 := (by first | exact Two.below t' hb' t'.lt | exact Two.below (Two.drewS t0) hb' t0.lt); have B'' : Below w.heap.size w w' := (by first | exact B'.trans (Below.mono hb' B'.size) | exact (below_drewN hB0 1).trans (hb'.mono hz)); have t' := t''; have B' := B''; have t'c := t'.cell0; have t'd := t'.cell1))
    clear t0 hB0 c0 c1 hz H3 H4
    go_wp2_with fail
    go_loopw [10, 55] (fun y x wr => ∃ v0, v0 = y ∧ Below w.heap.size w wr ∧ ((x = .int .i64 0 ∧ OwnL wr w.heap.size v0 []) ∨ (x = .int .i64 1 ∧ OwnL wr w.heap.size v0 [p, u - A]) ∨ (x = .int .i64 2 ∧ OwnL wr w.heap.size v0 [p, u - A, q, u - (n - B)]) ∨ (x = .int .i64 3 ∧ OwnL wr w.heap.size v0 [p, u - A, q, u - (n - B), p + q, A + (n - B) - u]))) (fun _ x _ => 3 - (intOf x).toNat)
    case atStart => exact ⟨_, rfl, B'.alloc B'.size _, .inl ⟨rfl, World.ownsRow_nil _ _ _ _⟩⟩
    case round =>
    obtain ⟨v0, rfl, hB, ⟨rfl, ho⟩ | ⟨rfl, ho⟩ | ⟨rfl, ho⟩ | ⟨rfl, ho⟩⟩ := hrel
    · have HL : Hid (([] : List Int).length = 0) := rfl
      have tx : Two (wr.alloc (.cells #[.int .i64 (p), .int .i64 (u - A)] 57)) wr.heap.size (.int .i64 (p)) (.int .i64 (u - A)) 57 := Two.new _ _ _ _
      have hox : OwnL (wr.alloc (.cells #[.int .i64 (p), .int .i64 (u - A)] 57)) w.heap.size v0 [] := World.ownsRow.alloc ho _
      have hBx : Below w.heap.size w (wr.alloc (.cells #[.int .i64 (p), .int .i64 (u - A)] 57)) := hB.alloc hB.size _
      clear ho hB
      go_upto_region 10 with fail
      generalize wr.alloc (.cells #[.int .i64 (p), .int .i64 (u - A)] 57) = wx at *
      generalize wr.heap.size = G at *
      have hzx := hBx.size
      have txc := tx.cell0
      have txd := tx.cell1
      clear tx
      go_wp2_with (at_builtin; refine append_int2 rfl _ _ rfl w.heap.size v0 [] 0 HL (by omega) rfl hox hzx rfl ?_)
      intro v5 w5 ho5 hn5 hb5
      have hB5 : Below w.heap.size w w5 := hBx.trans hb5
      clear hox hb5 hBx
      go_wp2_with fail
      go_roundw
      case rel => exact ⟨_, rfl, hB5, .inr (.inl ⟨by go_num, ho5⟩)⟩
      case measure => simp only [intOf]; omega
    · have HL : Hid (([p, u - A] : List Int).length = 2) := rfl
      have tx : Two (wr.alloc (.cells #[.int .i64 (q), .int .i64 (u - (n - B))] 57)) wr.heap.size (.int .i64 (q)) (.int .i64 (u - (n - B))) 57 := Two.new _ _ _ _
      have hox : OwnL (wr.alloc (.cells #[.int .i64 (q), .int .i64 (u - (n - B))] 57)) w.heap.size v0 [p, u - A] := World.ownsRow.alloc ho _
      have hBx : Below w.heap.size w (wr.alloc (.cells #[.int .i64 (q), .int .i64 (u - (n - B))] 57)) := hB.alloc hB.size _
      clear ho hB
      go_upto_region 10 with fail
      generalize wr.alloc (.cells #[.int .i64 (q), .int .i64 (u - (n - B))] 57) = wx at *
      generalize wr.heap.size = G at *
      have hzx := hBx.size
      have txc := tx.cell0
      have txd := tx.cell1
      clear tx
      go_wp2_with (at_builtin; refine append_int2 rfl _ _ rfl w.heap.size v0 [p, u - A] 2 HL (by omega) rfl hox hzx rfl ?_)
      intro v5 w5 ho5 hn5 hb5
      have hB5 : Below w.heap.size w w5 := hBx.trans hb5
      clear hox hb5 hBx
      go_wp2_with fail
      go_roundw
      case rel => exact ⟨_, rfl, hB5, .inr (.inr (.inl ⟨by go_num, ho5⟩))⟩
      case measure => simp only [intOf]; omega
    · have HL : Hid (([p, u - A, q, u - (n - B)] : List Int).length = 4) := rfl
      have tx : Two (wr.alloc (.cells #[.int .i64 (p + q), .int .i64 (A + (n - B) - u)] 57)) wr.heap.size (.int .i64 (p + q)) (.int .i64 (A + (n - B) - u)) 57 := Two.new _ _ _ _
      have hox : OwnL (wr.alloc (.cells #[.int .i64 (p + q), .int .i64 (A + (n - B) - u)] 57)) w.heap.size v0 [p, u - A, q, u - (n - B)] := World.ownsRow.alloc ho _
      have hBx : Below w.heap.size w (wr.alloc (.cells #[.int .i64 (p + q), .int .i64 (A + (n - B) - u)] 57)) := hB.alloc hB.size _
      clear ho hB
      go_upto_region 10 with fail
      generalize wr.alloc (.cells #[.int .i64 (p + q), .int .i64 (A + (n - B) - u)] 57) = wx at *
      generalize wr.heap.size = G at *
      have hzx := hBx.size
      have txc := tx.cell0
      have txd := tx.cell1
      clear tx
      go_wp2_with (at_builtin; refine append_int2 rfl _ _ rfl w.heap.size v0 [p, u - A, q, u - (n - B)] 4 HL (by omega) rfl hox hzx rfl ?_)
      intro v5 w5 ho5 hn5 hb5
      have hB5 : Below w.heap.size w w5 := hBx.trans hb5
      clear hox hb5 hBx
      go_wp2_with fail
      go_roundw
      case rel => exact ⟨_, rfl, hB5, .inr (.inr (.inr ⟨by go_num, ho5⟩))⟩
      case measure => simp only [intOf]; omega
    · go_wp2
      go_ret
      exact ⟨_, rfl, ho, hB⟩
end Go.Proofs.Ytkhnnbgmckeoaaa
