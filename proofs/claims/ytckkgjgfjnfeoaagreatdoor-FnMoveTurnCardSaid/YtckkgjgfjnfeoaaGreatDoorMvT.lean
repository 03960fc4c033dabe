/- The program's fraction between two, and the turn of a word of moves. -/
import Derived.Test.YtckkgjgfjnfeoaaGreatDoorTrM
import Derived.Test.YtckkgjgfjnfeoaaGreatDoorMovS
import Derived.Lib.OthersKept
set_option linter.unusedVariables false
namespace Go.Proofs.YtckkgjgfjnfeoaaGreatDoor
set_option maxRecDepth 4000

set_option maxRecDepth 4000
open Go.ChangeShapes Go.WideShapes Go.ChangeAt Go.RowKit Go.Joins

set_option maxHeartbeats 1000000 in
theorem fractionBetween_any (n s n' s' : Int) (w : World) (h1 : IntKind.i64.wrap (n + n') = n + n') (h2 : IntKind.i64.wrap (s + s') = s + s') :
    Calls Tryz.prog 24 #[(.agg #[.int .i64 (n), .int .i64 (s)]), (.agg #[.int .i64 (n'), .int .i64 (s')])] w fun e w' => e = .returned ((.agg #[.int .i64 (n + n'), .int .i64 (s + s')])) ∧ Below w.heap.size w w' := by
  have s1 : (w.alloc (.cells #[.int .i64 n, .int .i64 s] 25)).heap.size = w.heap.size + 1 := by simp
  have s2 : ((w.alloc (.cells #[.int .i64 n, .int .i64 s] 25)).alloc (.cells #[.int .i64 n', .int .i64 s'] 25)).heap.size = w.heap.size + 2 := by simp
  have a3 : Two (((w.alloc (.cells #[.int .i64 n, .int .i64 s] 25)).alloc (.cells #[.int .i64 n', .int .i64 s'] 25)).alloc (.cells #[.int .i64 0, .int .i64 0] 25)) w.heap.size (.int .i64 n) (.int .i64 s) 25 := ((Two.new _ _ _ _).alloc _).alloc _
  have b3 : Two (((w.alloc (.cells #[.int .i64 n, .int .i64 s] 25)).alloc (.cells #[.int .i64 n', .int .i64 s'] 25)).alloc (.cells #[.int .i64 0, .int .i64 0] 25)) (w.heap.size + 1) (.int .i64 n') (.int .i64 s') 25 := by
    have := (Two.new (w.alloc (.cells #[.int .i64 n, .int .i64 s] 25)) (.int .i64 n') (.int .i64 s') 25).alloc (.cells #[.int .i64 0, .int .i64 0] 25)
    rwa [s1] at this
  have c3 : Two (((w.alloc (.cells #[.int .i64 n, .int .i64 s] 25)).alloc (.cells #[.int .i64 n', .int .i64 s'] 25)).alloc (.cells #[.int .i64 0, .int .i64 0] 25)) (w.heap.size + 2) (.int .i64 0) (.int .i64 0) 25 := by
    have := Two.new ((w.alloc (.cells #[.int .i64 n, .int .i64 s] 25)).alloc (.cells #[.int .i64 n', .int .i64 s'] 25)) (.int .i64 0) (.int .i64 0) 25
    rwa [s2] at this
  have B3 : Below w.heap.size w (((w.alloc (.cells #[.int .i64 n, .int .i64 s] 25)).alloc (.cells #[.int .i64 n', .int .i64 s'] 25)).alloc (.cells #[.int .i64 0, .int .i64 0] 25)) := (by repeat (first | exact Below.refl _ _ | assumption | (refine Below.trans ?_ (Below.mono (by assumption) (by first | omega | (simp <;> omega)))) | (refine Below.alloc ?_ (by first | omega | (simp <;> omega)) _) | (refine below_drewN ?_ _) | (refine Below.drew ?_) | (refine Below.setCell ?_ (by first | omega | (simp <;> omega)) _)))
  have a3c := a3.cell0
  have a3d := a3.cell1
  have b3c := b3.cell0
  have b3d := b3.cell1
  have c3c := c3.cell0
  have c3d := c3.cell1
  have c3f := c3.free 0
  have c3g := c3.free 1
  clear a3 b3 c3 B3 s1 s2
  go_enter Tryz.func24, Tryz.ntmps24
  go_wp2
  refine bodyPost_ret (v := (.agg #[.int .i64 (n + n'), .int .i64 (s + s')])) (by simp [results, Tryz.results24, go_sem]) rfl ?_
  exact ⟨rfl, (by repeat (first | exact Below.refl _ _ | assumption | (refine Below.trans ?_ (Below.mono (by assumption) (by first | omega | (simp <;> omega)))) | (refine Below.alloc ?_ (by first | omega | (simp <;> omega)) _) | (refine below_drewN ?_ _) | (refine Below.drew ?_) | (refine Below.setCell ?_ (by first | omega | (simp <;> omega)) _)))⟩

/-- block b goes on through a text -/
def It (w : World) (b : Nat) (s : ByteArray) (k : Nat) : Prop := w.heap[b]? = some (.stringIter s k)

theorem It.set {w : World} {b : Nat} {s : ByteArray} {k c : Nat} (h : It w b s k) (hb : c ≠ b) (o : Nat) (v : Value) : It (w.setCell ⟨c, o, none⟩ v) b s k := by
  unfold It at *; rw [Below.heap_setCell _ _ _ _ (by show b ≠ c; omega)]; exact h

theorem It.below {w w' : World} {b B : Nat} {s : ByteArray} {k : Nat} (h : It w b s k) (hb : Below B w w') (hlt : b < B) : It w' b s k := by
  unfold It at *; rw [hb.block b hlt]; exact h

theorem It.lt {w : World} {b : Nat} {s : ByteArray} {k : Nat} (h : It w b s k) : b < w.heap.size := (Array.getElem?_eq_some_iff.1 h).1

theorem It.next {w : World} {b : Nat} {s : ByteArray} {k : Nat} (h : It w b s k) (k' : Nat) : It (w.iterAt b s k') b s k' := Lib.iterAt_heap w b s k k' h

theorem iter_two {W : World} {b k pos : Nat} {s : ByteArray} {x y : Value} {T : TypeId} (h : Two W b x y T) (hb : b ≠ k) : Two (W.iterAt k s pos) b x y T := by
  unfold Two at *
  rw [Lib.iterAt_other W k b s pos hb]; exact h

set_option maxHeartbeats 4000000 in
theorem moveTurn_any (u : ByteArray) (w : World) (hu : u.size ≤ 2000000) :
    Calls Tryz.prog 7 #[.string u] w fun e w' => e = .returned (.tuple #[(.agg #[.int .i64 ((mtF u).1), .int .i64 ((mtF u).2)]), .bool (mtP u)]) ∧ Below w.heap.size w w' := by
  have z0 : Two (w.alloc (.cells #[.int .i64 0, .int .i64 0] 25)) w.heap.size (.int .i64 0) (.int .i64 0) 25 := Two.new _ _ _ _
  have hB0 : Below w.heap.size w (w.alloc (.cells #[.int .i64 0, .int .i64 0] 25)) := (by repeat (first | exact Below.refl _ _ | assumption | (refine Below.trans ?_ (Below.mono (by assumption) (by first | omega | (simp <;> omega)))) | (refine Below.alloc ?_ (by first | omega | (simp <;> omega)) _) | (refine below_drewN ?_ _) | (refine Below.drew ?_) | (refine Below.setCell ?_ (by first | omega | (simp <;> omega)) _)))
  rcases mvOk_cases u with ⟨v, hv, rfl, hok⟩ | ⟨hno, hok⟩
  · have hsz := txtM_size v
    have HG := Lib.hid (fun k (h : k < (txtM v).size) => mv_bytes v h)
    have HN := Lib.hid (fun k (h : k < v.length) => frac_next (v := v) h)
    have HFS := Lib.hid (frac_facts v)
    have hmo := Lib.hid (fun w => movesOk_any (txtM v) w (by rw [hsz]; omega))
    rw [hok] at hmo
    obtain ⟨R1, hR1⟩ : ∃ R1, mtF (txtM v) = R1 := ⟨_, rfl⟩
    obtain ⟨R2, hR2⟩ : ∃ R2, mtP (txtM v) = R2 := ⟨_, rfl⟩
    have HY : Hid (mvN v ≤ 60 → R1 = ((mvN v : Int), (mvS v : Int)) ∧ R2 = true) := fun h => ⟨by rw [← hR1]; exact mtF_yes hv h, by rw [← hR2]; exact mtP_yes hv h⟩
    have HNo : Hid (¬ mvN v ≤ 60 → R1 = (0, 0) ∧ R2 = false) := fun h => ⟨by rw [← hR1]; exact mtF_no (mtP_big h), by rw [← hR2]; exact mtP_big h⟩
    have HV : Hid (v.take v.length = v) := List.take_length
    rw [hR1, hR2]
    obtain ⟨U, hU⟩ : ∃ U, txtM v = U := ⟨_, rfl⟩
    rw [hU] at hsz HG hmo ⊢
    obtain ⟨L, hL⟩ : ∃ L, v.length = L := ⟨_, rfl⟩
    rw [hL] at hv hsz HN HV
    have H0 : Hid (fracs Frac.first (v.take 0) = ⟨0, 1, 1, 1⟩ ∧ mvN (v.take 0) = 2 ∧ mvS (v.take 0) = 1) := ⟨rfl, rfl, rfl⟩
    clear hR1 hR2 hU hL hok
    go_enter Tryz.func7, Tryz.ntmps7
    go_wp2_with fail
    generalize w.alloc (.cells #[.int .i64 0, .int .i64 0] 25) = W at *
    refine (hmo.out _).mono ?_; rintro e w1 ⟨rfl, hb1⟩
    have z1 := z0.below hb1 z0.lt
    have hB1 := hB0.trans (hb1.mono hB0.size)
    have hlt1 := z1.lt
    have c1 : Two (w1.alloc (.cells #[.int .i64 0, .int .i64 0] 25)) w1.heap.size (.int .i64 0) (.int .i64 0) 25 := Two.new _ _ _ _
    have s1 : (w1.alloc (.cells #[.int .i64 0, .int .i64 0] 25)).heap.size = w1.heap.size + 1 := by simp
    have x1 : Two ((w1.alloc (.cells #[.int .i64 1, .int .i64 0] 25)).alloc (.cells #[.int .i64 1, .int .i64 1] 25)) w1.heap.size (.int .i64 1) (.int .i64 0) 25 := (Two.new _ _ _ _).alloc _
    have x2 : Two ((w1.alloc (.cells #[.int .i64 1, .int .i64 0] 25)).alloc (.cells #[.int .i64 1, .int .i64 1] 25)) (w1.heap.size + 1) (.int .i64 1) (.int .i64 1) 25 := by
      have := Two.new (w1.alloc (.cells #[.int .i64 1, .int .i64 0] 25)) (.int .i64 1) (.int .i64 1) 25
      simpa using this
    have x0 := (z1.alloc (.cells #[.int .i64 1, .int .i64 0] 25)).alloc (.cells #[.int .i64 1, .int .i64 1] 25)
    have hBx : Below w.heap.size w ((w1.alloc (.cells #[.int .i64 1, .int .i64 0] 25)).alloc (.cells #[.int .i64 1, .int .i64 1] 25)) := (hB1.alloc hB1.size _).alloc (by have := hB1.size; simp; omega) _
    clear c1 s1 hb1
    go_wp2_with fail
    generalize hX : ((w1.alloc (.cells #[.int .i64 1, .int .i64 0] 25)).alloc (.cells #[.int .i64 1, .int .i64 1] 25)) = X at *
    generalize w1.heap.size = n1 at *
    clear hX
    refine (fractionBetween_any 1 0 1 1 _ (by rfl) (by rfl)).mono ?_; rintro e w2 ⟨rfl, hb2⟩
    have y0 := (x0.below hb2 x0.lt).alloc (.cells #[.int .i64 2, .int .i64 1] 25)
    have y1 := (x1.below hb2 x1.lt).alloc (.cells #[.int .i64 2, .int .i64 1] 25)
    have y2 := (x2.below hb2 x2.lt).alloc (.cells #[.int .i64 2, .int .i64 1] 25)
    have y3 := Two.new w2 (.int .i64 2) (.int .i64 1) 25
    have hBy := hBx.trans (hb2.mono hBx.size)
    have hBz := hBy.alloc hBy.size (.cells #[.int .i64 2, .int .i64 1] 25)
    have l2 := hb2.size
    have l2' := x2.lt
    go_wp2_with fail
    have v0 : Two ((w2.alloc (.cells #[.int .i64 2, .int .i64 1] 25)).iter U 0) w.heap.size (.int .i64 0) (.int .i64 0) 25 := y0.alloc _
    have v1 : Two ((w2.alloc (.cells #[.int .i64 2, .int .i64 1] 25)).iter U 0) n1 (.int .i64 1) (.int .i64 0) 25 := y1.alloc _
    have v2 : Two ((w2.alloc (.cells #[.int .i64 2, .int .i64 1] 25)).iter U 0) (n1 + 1) (.int .i64 1) (.int .i64 1) 25 := y2.alloc _
    have v3 : Two ((w2.alloc (.cells #[.int .i64 2, .int .i64 1] 25)).iter U 0) w2.heap.size (.int .i64 2) (.int .i64 1) 25 := y3.alloc _
    have v4 : It ((w2.alloc (.cells #[.int .i64 2, .int .i64 1] 25)).iter U 0) (w2.heap.size + 1) U 0 := by
      have := World.iter_heap (w2.alloc (.cells #[.int .i64 2, .int .i64 1] 25)) U 0
      simpa [It] using this
    have hBv : Below w.heap.size w ((w2.alloc (.cells #[.int .i64 2, .int .i64 1] 25)).iter U 0) := hBz.alloc hBz.size _
    clear y0 y1 y2 y3 hBy hBz x0 x1 x2 hBx hb2
    generalize ((w2.alloc (.cells #[.int .i64 2, .int .i64 1] 25)).iter U 0) = W2 at *
    generalize w2.heap.size = n3 at *
    have hw0 := hB0.size
    go_loopg [] L (fun g wr => ∃ k : Nat, k + g = L ∧ mvN (v.take k) ≤ 60 ∧ Two wr w.heap.size (.int .i64 0) (.int .i64 0) 25 ∧ Two wr n1 (.int .i64 ((fracs Frac.first (v.take k)).b : Nat)) (.int .i64 ((fracs Frac.first (v.take k)).a : Nat)) 25 ∧ Two wr (n1 + 1) (.int .i64 ((fracs Frac.first (v.take k)).d : Nat)) (.int .i64 ((fracs Frac.first (v.take k)).c : Nat)) 25 ∧ Two wr n3 (.int .i64 (mvN (v.take k) : Nat)) (.int .i64 (mvS (v.take k) : Nat)) 25 ∧ It wr (n3 + 1) U k ∧ Below w.heap.size w wr)
    case atStart => exact ⟨0, by omega, by rw [H0.out.2.1]; omega, v0, by rw [H0.out.1]; exact v1, by rw [H0.out.1]; exact v2, by rw [H0.out.2.1, H0.out.2.2]; exact v3, v4, hBv⟩
    case round =>
      obtain ⟨k, hkg, h60, r0, r1, r2, r3, r4, hBr⟩ := hrel
      clear H0 v0 v1 v2 v3 v4 hBv z0 hB0 hB1 z1
      obtain ⟨s1, s2, s3, s4⟩ := HFS.out k
      cases gk with
      | zero =>
        obtain rfl : k = L := by omega
        have hnx : ∀ ty, (Instr.next (.pointer (some ⟨n3 + 1, 0, none⟩)) true ty).run Tryz.prog wr = .ok (.tuple #[.bool false]) wr := fun ty => Lib.run_next_end_at wr (n3 + 1) U k ty r4 (by omega)
        rw [HV.out] at h60 r3
        have hY := Lib.hid (HY.out h60)
        generalize ((mvN v : Nat) : Int) = nn at *
        generalize ((mvS v : Nat) : Int) = ss at *
        have c0 := r3.cell0
        have c1 := r3.cell1
        have d0 := r0.cell0
        have d1 := r0.cell1
        have f0 := r0.free 0
        have f1 := r0.free 1
        have z3 := (r0.set0 (.int .i64 nn)).set1 (.int .i64 ss)
        have e0 := z3.cell0
        have e1 := z3.cell1
        go_wp2
        refine bodyPost_ret (v := .tuple #[(.agg #[.int .i64 (nn), .int .i64 (ss)]), .bool true]) (by simp [results, Tryz.results7, go_sem, e0, e1]) rfl ?_
        exact ⟨by rw [hY.out.1, hY.out.2], (hBr.setCell (Nat.le_refl _) _).setCell (Nat.le_refl _) _⟩
      | succ g =>
        have hkl : k < L := by omega
        have hku : k < U.size := by omega
        have hb := HG.out k hku
        have hn := Lib.hid (HN.out k hkl)
        obtain ⟨s1', s2', _, s4'⟩ := HFS.out (k + 1)
        rw [hn.out] at s1'
        generalize fracs Frac.first (v.take k) = G at *
        have p0 := iter_two (s := U) (pos := k + 1) (k := n3 + 1) r0 (by omega)
        have p1 := iter_two (s := U) (pos := k + 1) (k := n3 + 1) r1 (by omega)
        have p2 := iter_two (s := U) (pos := k + 1) (k := n3 + 1) r2 (by omega)
        have p3 := iter_two (s := U) (pos := k + 1) (k := n3 + 1) r3 (by omega)
        have p4 := r4.next (k + 1)
        have hB5 := Lib.below_iterAt hBr (k := n3 + 1) (by omega) U (k + 1)
        cases hx : v.getD k false with
        | false =>
          rw [hx] at hb hn s1'
          have hn' : Hid (fracs Frac.first (v.take (k + 1)) = ⟨G.a, G.b, G.a + G.c, G.b + G.d⟩) := hn.out
          rw [hn'.out] at s2'
          have n1' : G.b + (G.b + G.d) = mvN (v.take (k + 1)) := s1'
          have n2' : G.a + (G.a + G.c) = mvS (v.take (k + 1)) := s2'
          have hnx : ∀ ty, (Instr.next (.pointer (some ⟨n3 + 1, 0, none⟩)) true ty).run Tryz.prog wr = .ok (.tuple #[.bool true, .int .i64 k, .int .i32 76]) (wr.iterAt (n3 + 1) U (k + 1)) := fun ty => by
            have h := Lib.run_next_ascii_at (P := Tryz.prog) wr (n3 + 1) U k ty r4 hku (by have : (U[k].toNat : Int) = 76 := hb; omega)
            have hb' : (U[k].toNat : Int) = 76 := hb
            rwa [hb'] at h
          clear hb hn s1' s2'
          generalize wr.iterAt (n3 + 1) U (k + 1) = W5 at *
          clear r0 r1 r2 r3 r4 hBr
          have c3 := p3.cell0
          have d3 := p3.cell1
          have c2 := p2.cell0
          have d2 := p2.cell1
          have f2 := p2.free 0
          have g2 := p2.free 1
          have q0 := (p0.set (b := n1 + 1) (by omega) 0 (.int .i64 (mvN (v.take k) : Nat))).set (b := n1 + 1) (by omega) 1 (.int .i64 (mvS (v.take k) : Nat))
          have q1 := (p1.set (b := n1 + 1) (by omega) 0 (.int .i64 (mvN (v.take k) : Nat))).set (b := n1 + 1) (by omega) 1 (.int .i64 (mvS (v.take k) : Nat))
          have q2 := (p2.set0 (.int .i64 (mvN (v.take k) : Nat))).set1 (.int .i64 (mvS (v.take k) : Nat))
          have q3 := (p3.set (b := n1 + 1) (by omega) 0 (.int .i64 (mvN (v.take k) : Nat))).set (b := n1 + 1) (by omega) 1 (.int .i64 (mvS (v.take k) : Nat))
          have q4 := (p4.set (c := n1 + 1) (by omega) 0 (.int .i64 (mvN (v.take k) : Nat))).set (c := n1 + 1) (by omega) 1 (.int .i64 (mvS (v.take k) : Nat))
          have hBq := (hB5.setCell (p := ⟨n1 + 1, 0, none⟩) (by show w.heap.size ≤ n1 + 1; omega) (.int .i64 (mvN (v.take k) : Nat))).setCell (p := ⟨n1 + 1, 1, none⟩) (by show w.heap.size ≤ n1 + 1; omega) (.int .i64 (mvS (v.take k) : Nat))
          have c5 := q1.cell0
          have d5 := q1.cell1
          have c6 := q2.cell0
          have d6 := q2.cell1
          have hfb := Lib.hid (fun w => fractionBetween_any (G.b : Int) (G.a : Int) ((mvN (v.take k) : Nat) : Int) ((mvS (v.take k) : Nat) : Int) w (IntWalk.i64_in _ (by omega)) (IntWalk.i64_in _ (by omega)))
          rw [show (G.b : Int) + ((mvN (v.take k) : Nat) : Int) = ((mvN (v.take (k + 1)) : Nat) : Int) by omega, show (G.a : Int) + ((mvS (v.take k) : Nat) : Int) = ((mvS (v.take (k + 1)) : Nat) : Int) by omega] at hfb
          clear p0 p1 p2 p3 p4 hB5
          go_wp2_with fail
          refine (hfb.out _).mono ?_; rintro e w6 ⟨rfl, hb6⟩
          have u0 := q0.below hb6 q0.lt
          have u1 := q1.below hb6 q1.lt
          have u2 := q2.below hb6 q2.lt
          have u3 := q3.below hb6 q3.lt
          have u4 := q4.below hb6 q4.lt
          have hB6 := hBq.trans (hb6.mono hBq.size)
          clear q0 q1 q2 q3 q4 hBq c5 d5 c6 d6 c3 d3 c2 d2 f2 g2 hb6 hfb hnx
          have c7 := u3.cell0
          have d7 := u3.cell1
          have f7 := u3.free 0
          have g7 := u3.free 1
          have t0 := (u0.set (b := n3) (by omega) 0 (.int .i64 (mvN (v.take (k + 1)) : Nat))).set (b := n3) (by omega) 1 (.int .i64 (mvS (v.take (k + 1)) : Nat))
          have t1 := (u1.set (b := n3) (by omega) 0 (.int .i64 (mvN (v.take (k + 1)) : Nat))).set (b := n3) (by omega) 1 (.int .i64 (mvS (v.take (k + 1)) : Nat))
          have t2 := (u2.set (b := n3) (by omega) 0 (.int .i64 (mvN (v.take (k + 1)) : Nat))).set (b := n3) (by omega) 1 (.int .i64 (mvS (v.take (k + 1)) : Nat))
          have t3 := (u3.set0 (.int .i64 (mvN (v.take (k + 1)) : Nat))).set1 (.int .i64 (mvS (v.take (k + 1)) : Nat))
          have t4 := (u4.set (c := n3) (by omega) 0 (.int .i64 (mvN (v.take (k + 1)) : Nat))).set (c := n3) (by omega) 1 (.int .i64 (mvS (v.take (k + 1)) : Nat))
          have hB7 := (hB6.setCell (p := ⟨n3, 0, none⟩) (by show w.heap.size ≤ n3; omega) (.int .i64 (mvN (v.take (k + 1)) : Nat))).setCell (p := ⟨n3, 1, none⟩) (by show w.heap.size ≤ n3; omega) (.int .i64 (mvS (v.take (k + 1)) : Nat))
          have c8 := t3.cell0
          by_cases h61 : mvN (v.take (k + 1)) ≤ 60
          · have h61' : ¬ (60 : Int) < ((mvN (v.take (k + 1)) : Nat) : Int) := by omega
            go_wp2_with fail
            go_roundg g
            case measure => omega
            case rel => exact ⟨k + 1, by omega, h61, t0, by rw [hn'.out]; exact t1, by rw [hn'.out]; simpa [s1, s2] using t2, t3, t4, hB7⟩
          · have h61' : (60 : Int) < ((mvN (v.take (k + 1)) : Nat) : Int) := by omega
            have hY := Lib.hid (HNo.out (by omega))
            have d0 := t0.cell0
            have d1 := t0.cell1
            have f0 := t0.free 0
            have f1 := t0.free 1
            have z3 := (t0.set0 (.int .i64 0)).set1 (.int .i64 0)
            have e0 := z3.cell0
            have e1 := z3.cell1
            go_wp2
            refine bodyPost_ret (v := .tuple #[(.agg #[.int .i64 (0), .int .i64 (0)]), .bool false]) (by simp [results, Tryz.results7, go_sem, e0, e1]) rfl ?_
            exact ⟨by rw [hY.out.1, hY.out.2], (hB7.setCell (Nat.le_refl _) _).setCell (Nat.le_refl _) _⟩
        | true =>
          rw [hx] at hb hn s1'
          have hn' : Hid (fracs Frac.first (v.take (k + 1)) = ⟨G.a + G.c, G.b + G.d, G.c, G.d⟩) := hn.out
          rw [hn'.out] at s2'
          have n1' : G.b + G.d + G.d = mvN (v.take (k + 1)) := s1'
          have n2' : G.a + G.c + G.c = mvS (v.take (k + 1)) := s2'
          have hnx : ∀ ty, (Instr.next (.pointer (some ⟨n3 + 1, 0, none⟩)) true ty).run Tryz.prog wr = .ok (.tuple #[.bool true, .int .i64 k, .int .i32 82]) (wr.iterAt (n3 + 1) U (k + 1)) := fun ty => by
            have h := Lib.run_next_ascii_at (P := Tryz.prog) wr (n3 + 1) U k ty r4 hku (by have : (U[k].toNat : Int) = 82 := hb; omega)
            have hb' : (U[k].toNat : Int) = 82 := hb
            rwa [hb'] at h
          clear hb hn s1' s2'
          generalize wr.iterAt (n3 + 1) U (k + 1) = W5 at *
          clear r0 r1 r2 r3 r4 hBr
          have c3 := p3.cell0
          have d3 := p3.cell1
          have c2 := p1.cell0
          have d2 := p1.cell1
          have f2 := p1.free 0
          have g2 := p1.free 1
          have q0 := (p0.set (b := n1) (by omega) 0 (.int .i64 (mvN (v.take k) : Nat))).set (b := n1) (by omega) 1 (.int .i64 (mvS (v.take k) : Nat))
          have q1 := (p1.set0 (.int .i64 (mvN (v.take k) : Nat))).set1 (.int .i64 (mvS (v.take k) : Nat))
          have q2 := (p2.set (b := n1) (by omega) 0 (.int .i64 (mvN (v.take k) : Nat))).set (b := n1) (by omega) 1 (.int .i64 (mvS (v.take k) : Nat))
          have q3 := (p3.set (b := n1) (by omega) 0 (.int .i64 (mvN (v.take k) : Nat))).set (b := n1) (by omega) 1 (.int .i64 (mvS (v.take k) : Nat))
          have q4 := (p4.set (c := n1) (by omega) 0 (.int .i64 (mvN (v.take k) : Nat))).set (c := n1) (by omega) 1 (.int .i64 (mvS (v.take k) : Nat))
          have hBq := (hB5.setCell (p := ⟨n1, 0, none⟩) (by show w.heap.size ≤ n1; omega) (.int .i64 (mvN (v.take k) : Nat))).setCell (p := ⟨n1, 1, none⟩) (by show w.heap.size ≤ n1; omega) (.int .i64 (mvS (v.take k) : Nat))
          have c5 := q1.cell0
          have d5 := q1.cell1
          have c6 := q2.cell0
          have d6 := q2.cell1
          have hfb := Lib.hid (fun w => fractionBetween_any ((mvN (v.take k) : Nat) : Int) ((mvS (v.take k) : Nat) : Int) (G.d : Int) (G.c : Int) w (IntWalk.i64_in _ (by omega)) (IntWalk.i64_in _ (by omega)))
          rw [show ((mvN (v.take k) : Nat) : Int) + (G.d : Int) = ((mvN (v.take (k + 1)) : Nat) : Int) by omega, show ((mvS (v.take k) : Nat) : Int) + (G.c : Int) = ((mvS (v.take (k + 1)) : Nat) : Int) by omega] at hfb
          clear p0 p1 p2 p3 p4 hB5
          go_wp2_with fail
          refine (hfb.out _).mono ?_; rintro e w6 ⟨rfl, hb6⟩
          have u0 := q0.below hb6 q0.lt
          have u1 := q1.below hb6 q1.lt
          have u2 := q2.below hb6 q2.lt
          have u3 := q3.below hb6 q3.lt
          have u4 := q4.below hb6 q4.lt
          have hB6 := hBq.trans (hb6.mono hBq.size)
          clear q0 q1 q2 q3 q4 hBq c5 d5 c6 d6 c3 d3 c2 d2 f2 g2 hb6 hfb hnx
          have c7 := u3.cell0
          have d7 := u3.cell1
          have f7 := u3.free 0
          have g7 := u3.free 1
          have t0 := (u0.set (b := n3) (by omega) 0 (.int .i64 (mvN (v.take (k + 1)) : Nat))).set (b := n3) (by omega) 1 (.int .i64 (mvS (v.take (k + 1)) : Nat))
          have t1 := (u1.set (b := n3) (by omega) 0 (.int .i64 (mvN (v.take (k + 1)) : Nat))).set (b := n3) (by omega) 1 (.int .i64 (mvS (v.take (k + 1)) : Nat))
          have t2 := (u2.set (b := n3) (by omega) 0 (.int .i64 (mvN (v.take (k + 1)) : Nat))).set (b := n3) (by omega) 1 (.int .i64 (mvS (v.take (k + 1)) : Nat))
          have t3 := (u3.set0 (.int .i64 (mvN (v.take (k + 1)) : Nat))).set1 (.int .i64 (mvS (v.take (k + 1)) : Nat))
          have t4 := (u4.set (c := n3) (by omega) 0 (.int .i64 (mvN (v.take (k + 1)) : Nat))).set (c := n3) (by omega) 1 (.int .i64 (mvS (v.take (k + 1)) : Nat))
          have hB7 := (hB6.setCell (p := ⟨n3, 0, none⟩) (by show w.heap.size ≤ n3; omega) (.int .i64 (mvN (v.take (k + 1)) : Nat))).setCell (p := ⟨n3, 1, none⟩) (by show w.heap.size ≤ n3; omega) (.int .i64 (mvS (v.take (k + 1)) : Nat))
          have c8 := t3.cell0
          by_cases h61 : mvN (v.take (k + 1)) ≤ 60
          · have h61' : ¬ (60 : Int) < ((mvN (v.take (k + 1)) : Nat) : Int) := by omega
            go_wp2_with fail
            go_roundg g
            case measure => omega
            case rel => exact ⟨k + 1, by omega, h61, t0, by rw [hn'.out]; simpa [s1, s2] using t1, by rw [hn'.out]; exact t2, t3, t4, hB7⟩
          · have h61' : (60 : Int) < ((mvN (v.take (k + 1)) : Nat) : Int) := by omega
            have hY := Lib.hid (HNo.out (by omega))
            have d0 := t0.cell0
            have d1 := t0.cell1
            have f0 := t0.free 0
            have f1 := t0.free 1
            have z3 := (t0.set0 (.int .i64 0)).set1 (.int .i64 0)
            have e0 := z3.cell0
            have e1 := z3.cell1
            go_wp2
            refine bodyPost_ret (v := .tuple #[(.agg #[.int .i64 (0), .int .i64 (0)]), .bool false]) (by simp [results, Tryz.results7, go_sem, e0, e1]) rfl ?_
            exact ⟨by rw [hY.out.1, hY.out.2], (hB7.setCell (Nat.le_refl _) _).setCell (Nat.le_refl _) _⟩
  · rw [mtF_no (mtP_no hno), mtP_no hno]
    have c0 := z0.cell0
    have c1 := z0.cell1
    have f0 := z0.free 0
    have f1 := z0.free 1
    have hmo := Lib.hid (fun w => movesOk_any u w hu)
    rw [hok] at hmo
    go_enter Tryz.func7, Tryz.ntmps7
    go_wp2_with fail
    refine (hmo.out _).mono ?_; rintro e w1 ⟨rfl, hb1⟩
    have z1 := z0.below hb1 z0.lt
    have hB1 := hB0.trans (hb1.mono hB0.size)
    have d0 := z1.cell0
    have d1 := z1.cell1
    have g0 := z1.free 0
    have g1 := z1.free 1
    have z2 := (z1.set0 (.int .i64 0)).set1 (.int .i64 0)
    have e0 := z2.cell0
    have e1 := z2.cell1
    go_wp2
    refine bodyPost_ret (v := .tuple #[(.agg #[.int .i64 (0), .int .i64 (0)]), .bool false]) (by simp [results, Tryz.results7, go_sem, e0, e1]) rfl ?_
    exact ⟨rfl, (hB1.setCell (Nat.le_refl _) _).setCell (Nat.le_refl _) _⟩
end Go.Proofs.YtckkgjgfjnfeoaaGreatDoor
