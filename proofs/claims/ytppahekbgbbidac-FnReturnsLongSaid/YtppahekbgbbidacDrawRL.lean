/- Contract of DrawReturnsLong. -/
import Derived.Test.YtppahekbgbbidacDraw7
import Derived.Test.YtppahekbgbbidacDrawR
import Derived.Test.YtppahekbgbbidacGRetS
set_option linter.unusedVariables false
namespace Go.Proofs.Ytppahekbgbbidac
open Go.ChangeShapes Go.WideShapes Go.ChangeAt Go.RowKit Go.Joins N

theorem rtimes_bd {n s u : Int} (x : Int) (hx : x ∈ rtimesF n s u) : 1 ≤ x ∧ x ≤ 60 := by
  by_cases h : tok n s = true ∧ 1 ≤ u ∧ u ≤ n
  · obtain ⟨ht, h1, hm⟩ := h
    have hb := tok_bd ht
    obtain ⟨m, rfl⟩ := Int.eq_ofNat_of_zero_le (by omega : 0 ≤ u)
    unfold rtimesF at hx
    rw [retsF_T ht (by omega) hm] at hx
    have h := ((kindsL_is (retsT n s m)).2 _).1 hx
    unfold retsT at h
    rw [List.mem_map] at h
    obtain ⟨p, hp, rfl⟩ := h
    simp at hp
    have := ret_bd (tok_inv ht) (by omega : 1 ≤ m) hm hp
    omega
  · rw [rtimesF_no h] at hx; simp at hx

set_option maxHeartbeats 4000000 in
theorem drawReturnsLong_any (a : Option Addr) (len cap : Nat) (w : World) (hc : CodeIn w a len cap) (hl : len ≤ 1048576) :
    Calls Try.prog 37 #[.slice a len cap] w (DTIIPost w) := by
  have hb0 : Below w.heap.size w (w.alloc (.cells #[.int .i64 0, .int .i64 0] 24)) := (by repeat (first | exact Below.refl _ _ | assumption | (refine Below.trans ?_ (Below.mono (by assumption) (by first | omega | (simp <;> omega)))) | (refine Below.alloc ?_ (by first | omega | (simp <;> omega)) _) | (refine below_drewN ?_ _) | (refine Below.drew ?_) | (refine Below.setCell ?_ (by first | omega | (simp <;> omega)) _)))
  go_enter Try.func37, Try.ntmps37
  go_wp2_with fail
  refine (l20Open_any a len cap _ (hc.below hb0) hl).mono ?_; rintro e w1 ⟨r, rfl, hr, hr1, hb1⟩
  simp at hr
  have hA : w.heap.size ≠ r := by omega
  have hAr : w.heap.size < r := by omega
  have u1 := (Two.new w (.int .i64 0) (.int .i64 0) 24).same (hb1.block _ (by simp))
  have hB1 := hb0.trans (hb1.mono (by simp))
  clear hb1
  go_wp2_with fail
  refine (l20Wide_any r 0 _ hr1 (by omega) (by omega)).mono ?_
  rintro e w3 ⟨n, s, k, q, rfl, n0, n1, s0, s1, k0, k1, q0, q1, hr3, ho3⟩
  have u3 := ho3.two u1 hA
  have hB3 := hB1.trans (ho3.below (by omega) hB1.size)
  have hrl := hr3.lt
  have hT : w3.heap.size ≠ r := by omega
  have hTA : w3.heap.size ≠ w.heap.size := by omega
  clear ho3 u1 hr1 hB1
  go_wp2_with fail
  have t2 : Two (w3.alloc (Obj.cells #[Value.int IntKind.i64 n, Value.int IntKind.i64 s] 24)) w3.heap.size (.int .i64 n) (.int .i64 s) 24 := Two.new _ _ _ _
  have u2 := u3.alloc (Obj.cells #[Value.int IntKind.i64 n, Value.int IntKind.i64 s] 24)
  have r2 := hr3.alloc (Obj.cells #[Value.int IntKind.i64 n, Value.int IntKind.i64 s] 24)
  have hB2 : Below w.heap.size w (w3.alloc (Obj.cells #[Value.int IntKind.i64 n, Value.int IntKind.i64 s] 24)) := hB3.alloc (by have := hB3.size; omega) _
  clear u3 hr3 hB3
  refine (specReturnTimes_any n s k _).mono ?_; rintro e w4 ⟨v4, rfl, ho4, hb4⟩
  have hz4 := hb4.size
  have hlt4 := World.ownsRow.lt ho4
  simp only [World.size_alloc] at hlt4
  have t4 := t2.below hb4 t2.lt
  have u4 := u2.below hb4 u2.lt
  have r4 := r2.below hb4
  have hB4 := hB2.trans (hb4.mono hB2.size)
  simp only [World.size_alloc] at hz4
  have hTl : w3.heap.size < w4.heap.size := by omega
  generalize w3.heap.size = T at *
  obtain ⟨K, hK⟩ : ∃ K, (rtimesF n s k).length = K := ⟨_, rfl⟩
  have hK60 := rtimesF_len n s k
  rw [hK] at hK60
  have HBd : Hid (∀ x ∈ rtimesF n s k, 1 ≤ x ∧ x ≤ 60) := rtimes_bd
  obtain ⟨ka, kc, rfl, HC0⟩ := ho4.reads.cells hK
  clear t2 u2 r2 hB2 hb4 ho4
  have c0 := t4.cell0
  have c1 := t4.cell1
  have d0 := u4.cell0
  have d1 := u4.cell1
  have f0 := u4.free 0
  have f1 := u4.free 1
  have HK := Lib.hid hK
  clear hK
  -- the last region: a number drawn
  have fin : ∀ (w' : World) (x : Int), OnlyR r w4 w' → -2000 ≤ x ∧ x ≤ 2000 → ∃ (n' s' k' i : Int), Ending.returned (.tuple #[(.agg #[.int .i64 (n), .int .i64 (s)]), .int .i64 k, .int .i64 x]) = .returned (.tuple #[(.agg #[.int .i64 (n'), .int .i64 (s')]), .int .i64 k', .int .i64 i]) ∧ -2 ≤ n' ∧ n' ≤ 100 ∧ -2 ≤ s' ∧ s' ≤ 100 ∧ -2000 ≤ k' ∧ k' ≤ 2000 ∧ -2000 ≤ i ∧ i ≤ 2000 ∧ Below w.heap.size w ((w'.setCell ⟨w.heap.size, 0, none⟩ (.int .i64 n)).setCell ⟨w.heap.size, 1, none⟩ (.int .i64 s)) := by
    intro w' x o b
    exact ⟨n, s, k, x, rfl, by omega, by omega, by omega, by omega, by omega, by omega, b.1, b.2, ((hB4.trans (o.below (by omega) hB4.size)).setCell (Nat.le_refl _) _).setCell (Nat.le_refl _) _⟩
  by_cases hK0 : K = 0
  · subst hK0
    have o2 := OnlyR.refl r w4
    clear HC0
    go_wp2_with fail
    go_region_held3 (fun w' => w'.cell? ⟨T, 0, none⟩ = some (.int .i64 n) ∧ w'.cell? ⟨T, 1, none⟩ = some (.int .i64 s))
      (first | go_keep | exact ⟨c0', c1'⟩ | exact ⟨((t'.set (b := w.heap.size) (Ne.symm hTA) 0 _).set (b := w.heap.size) (Ne.symm hTA) 1 _).cell0, ((t'.set (b := w.heap.size) (Ne.symm hTA) 0 _).set (b := w.heap.size) (Ne.symm hTA) 1 _).cell1⟩ | exact ⟨((t4.set (b := w.heap.size) (Ne.symm hTA) 0 _).set (b := w.heap.size) (Ne.symm hTA) 1 _).cell0, ((t4.set (b := w.heap.size) (Ne.symm hTA) 0 _).set (b := w.heap.size) (Ne.symm hTA) 1 _).cell1⟩)
      (first | (go_at_call 59; refine (pick_any r _ 20 _ (by assumption) (by omega) (by omega) (by omega)).mono ?_; rintro e w' ⟨v, rfl, a, b, r', o', s'⟩; have t' := o'.two (by assumption : Two _ T (.int .i64 n) (.int .i64 s) 24) hT; have u' := o'.two (by assumption : Two _ w.heap.size (.int .i64 0) (.int .i64 0) 24) hA; have c0' := t'.cell0; have c1' := t'.cell1; have d0' := u'.cell0; have d1' := u'.cell1; have f0' := u'.free 0; have f1' := u'.free 1))
    have u9 := (u'.set0 (.int .i64 n)).set1 (.int .i64 s)
    have e0 := u9.cell0
    have e1 := u9.cell1
    go_wp2
    refine bodyPost_ret (v := .tuple #[(.agg #[.int .i64 (n), .int .i64 (s)]), .int .i64 k, .int .i64 _]) (by simp [results, Try.results37, go_sem, e0, e1]; rfl) rfl ?_
    exact fin _ _ ((o2.drewN 1).trans o') (by omega)
  · have hK1 : (0 : Int) < K := by omega
    obtain ⟨g, off, rfl, HC⟩ := HC0 hK0
    have hgr : g ≠ r := by have := (hlt4 g rfl).1; omega
    have hgA : ¬ g = w.heap.size := by have := (hlt4 g rfl).1; omega
    clear HC0
    go_wp2_with fail
    refine (pick_any r _ 4 _ r4 (by omega) (by omega) (by omega)).mono ?_; rintro e w5 ⟨x, rfl, a5, b5, r5, o5, s5⟩
    have t5 := o5.two t4 hT
    have u5 := o5.two u4 hA
    have HC5 : Hid (∀ j, j < K → w5.cell? ⟨g, off + j, none⟩ = some (.int .i64 ((rtimesF n s k).getD j 0))) := fun j hj => by
      have c := HC.out j hj
      exact (o5.cells.1 g (off + j) (World.block_lt_of_cell? w4 _ c) hgr).trans c
    clear r4 t4 u4 HC c0 c1 d0 d1 f0 f1
    have c0 := t5.cell0
    have c1 := t5.cell1
    have d0 := u5.cell0
    have d1 := u5.cell1
    have f0 := u5.free 0
    have f1 := u5.free 1
    by_cases hx : x = 0
    · subst hx
      go_wp2_with fail
      go_region_held3 (fun w' => w'.cell? ⟨T, 0, none⟩ = some (.int .i64 n) ∧ w'.cell? ⟨T, 1, none⟩ = some (.int .i64 s))
        (first | go_keep | exact ⟨c0', c1'⟩ | exact ⟨((t'.set (b := w.heap.size) (Ne.symm hTA) 0 _).set (b := w.heap.size) (Ne.symm hTA) 1 _).cell0, ((t'.set (b := w.heap.size) (Ne.symm hTA) 0 _).set (b := w.heap.size) (Ne.symm hTA) 1 _).cell1⟩)
        (first | (go_at_call 59; refine (pick_any r _ 20 _ (by assumption) (by omega) (by omega) (by omega)).mono ?_; rintro e w' ⟨v, rfl, a, b, r', o', s'⟩; have t' := o'.two (by assumption : Two _ T (.int .i64 n) (.int .i64 s) 24) hT; have u' := o'.two (by assumption : Two _ w.heap.size (.int .i64 0) (.int .i64 0) 24) hA; have c0' := t'.cell0; have c1' := t'.cell1; have d0' := u'.cell0; have d1' := u'.cell1; have f0' := u'.free 0; have f1' := u'.free 1))
      have u9 := (u'.set0 (.int .i64 n)).set1 (.int .i64 s)
      have e0 := u9.cell0
      have e1 := u9.cell1
      go_wp2
      refine bodyPost_ret (v := .tuple #[(.agg #[.int .i64 (n), .int .i64 (s)]), .int .i64 k, .int .i64 _]) (by simp [results, Try.results37, go_sem, e0, e1]; rfl) rfl ?_
      exact fin _ _ (((o5.drewN 1)).trans o') (by omega)
    · have hx0 : 0 < x := by omega
      go_wp2_with fail
      have HC6 := HC5.out
      go_region_held3 (fun w' => w'.cell? ⟨T, 0, none⟩ = some (.int .i64 n) ∧ w'.cell? ⟨T, 1, none⟩ = some (.int .i64 s) ∧ ∀ j, j < K → w'.cell? ⟨g, off + j, none⟩ = some (.int .i64 ((rtimesF n s k).getD j 0)))
        (first | exact ⟨c0, c1, HC6⟩ | exact ⟨c0', c1', HC'⟩ | exact ⟨by assumption, by assumption, by assumption⟩ | exact ⟨((t'.set (b := w.heap.size) (Ne.symm hTA) 0 _).set (b := w.heap.size) (Ne.symm hTA) 1 _).cell0, ((t'.set (b := w.heap.size) (Ne.symm hTA) 0 _).set (b := w.heap.size) (Ne.symm hTA) 1 _).cell1, fun j hj => (set_away hgA _ _ _ _ _).trans (HC' j hj)⟩)
        (first | (go_at_call 59; refine (pick_any r _ K _ (by assumption) (by omega) (by omega) (by omega)).mono ?_; rintro e w' ⟨v, rfl, a, b, r', o', s'⟩; have t' := o'.two (by assumption : Two _ T (.int .i64 n) (.int .i64 s) 24) hT; have u' := o'.two (by assumption : Two _ w.heap.size (.int .i64 0) (.int .i64 0) 24) hA; have c0' := t'.cell0; have c1' := t'.cell1; have d0' := u'.cell0; have d1' := u'.cell1; have f0' := u'.free 0; have f1' := u'.free 1; have hv1 : v < K := (by omega); have hvK : v.toNat < K := (by omega); have HC' := kind_cells HC5 o' hgr))
      have u9 := (u'.set0 (.int .i64 n)).set1 (.int .i64 s)
      have e0 := u9.cell0
      have e1 := u9.cell1
      have bX := HBd.out _ (getD_mem' (xs := rtimesF n s k) 0 (i := v.toNat) (by rw [HK.out]; exact hvK))
      go_wp2
      refine bodyPost_ret (v := .tuple #[(.agg #[.int .i64 (n), .int .i64 (s)]), .int .i64 k, .int .i64 ((rtimesF n s k).getD v.toNat 0)]) (by simp [results, Try.results37, go_sem, e0, e1]) rfl ?_
      exact fin _ _ (((o5.drewN 1)).trans o') (by omega)
end Go.Proofs.Ytppahekbgbbidac
