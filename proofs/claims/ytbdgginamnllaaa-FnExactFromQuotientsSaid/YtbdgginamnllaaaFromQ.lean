/- Contract of FromQuotients of the program: a range over slices.Backward. -/
import Derived.Test.YtbdgginamnllaaaFromB
set_option linter.unusedVariables false
set_option linter.unusedSimpArgs false
namespace Go.Proofs.Ytbdgginamnllaaa

set_option maxRecDepth 100000
open Go.ChangeShapes Go.WideShapes Go.ChangeAt Go.RowKit Go.Joins Go.Shelf

attribute [local go_sem] Oper.semAt_some

theorem cells_nc2 {W W' : World} {g : Nat} {cs : Array Value} {t : TypeId} {fr : Nat × Nat} {row : Option Nat} (h : W.heap[g]? = some (.cells cs t fr)) (hg : W.grownBy W' row) (hr : ∀ r, row = some r → ∃ o : Obj, W.heap[r]? = some o ∧ o.isCells = false) : W'.heap[g]? = some (.cells cs t fr) := by
  refine (hg.block g (Array.getElem?_eq_some_iff.1 h).1 (fun e => ?_)).trans h
  obtain ⟨o, ho, hc⟩ := hr g e.symm
  rw [h] at ho; cases ho; cases hc

theorem heap_set2 (W : World) (B : Nat) (p q : Value) (k : Nat) (h : k ≠ B) : ((W.setCell ⟨B, 0, none⟩ p).setCell ⟨B, 1, none⟩ q).heap[k]? = W.heap[k]? :=
  (Below.heap_setCell _ _ _ _ h).trans (Below.heap_setCell _ _ _ _ h)

/-- the fraction behind the quotients that have come -/
def stF (pre : List (Nat × Nat)) : Option (Nat × Nat) := pre.foldl (fun st x => fqStep ((x.2 + 1 : Nat) : Int) st) (some (1, 0))

theorem stF_snoc (pre : List (Nat × Nat)) (x : Nat × Nat) : stF (pre ++ [x]) = fqStep ((x.2 + 1 : Nat) : Int) (stF pre) := by simp [stF]

theorem stF_upto {xs : List Int} (hp : ∀ x ∈ xs, 1 ≤ x) (k : Nat) (hk : k ≤ xs.length) : stF (uptoL (backF (xs.map fun x => x.toNat - 1) xs.length) k) = fqO (xs.drop (xs.length - k)) := by
  induction k with
  | zero => rw [Nat.sub_zero, List.drop_of_length_le (Nat.le_refl _)]; rfl
  | succ k ih =>
    rw [uptoL_succ, stF_snoc, ih (by omega)]
    have h := fqO_drop (L := xs) (k := xs.length - (k + 1)) (by omega)
    rw [show xs.length - (k + 1) + 1 = xs.length - k by omega] at h
    rw [h]
    congr 1
    unfold backF
    rw [show xs.length - 1 - k = xs.length - (k + 1) by omega]
    have hi : xs.length - (k + 1) < xs.length := by omega
    have hx := hp _ (List.getElem_mem hi)
    simp only [List.getD_eq_getElem?_getD, List.getElem?_map, List.getElem?_eq_getElem hi, Option.map_some, Option.getD_some]
    omega

theorem fq_gcd : ∀ (L : List Int) (a b : Nat), fqO L = some (a, b) → Nat.gcd a b = 1 := by
  intro L
  induction L with
  | nil => intro a b h; have h0 : fqO [] = some (1, 0) := rfl; rw [h0] at h; simp at h; obtain ⟨rfl, rfl⟩ := h; rfl
  | cons x r ih =>
    intro a b h
    rw [fqO_cons] at h
    cases hf : fqO r with
    | none => rw [hf] at h; cases h
    | some ab =>
      obtain ⟨a', b'⟩ := ab
      rw [hf] at h
      unfold fqStep at h
      simp only at h
      split at h
      · simp at h
        obtain ⟨rfl, rfl⟩ := h
        have := ih a' b' hf
        rw [Nat.gcd_comm, Nat.gcd_mul_right_add_right]
        exact this
      · cases h

theorem fq_le {L : List Int} {a b : Nat} (hn : L ≠ []) (h : fqO L = some (a, b)) : a ≤ 60 := by
  cases L with
  | nil => exact absurd rfl hn
  | cons x r =>
    rw [fqO_cons] at h
    cases hf : fqO r with
    | none => rw [hf] at h; cases h
    | some ab =>
      obtain ⟨a', b'⟩ := ab
      rw [hf] at h
      unfold fqStep at h
      simp only at h
      split at h
      · rename_i c
        simp at h
        omega
      · cases h

theorem fq_tok {L : List Int} {a b : Nat} (hq : qok L) (h : fqO L = some (a, b)) : tok (a : Int) (b : Int) = true := by
  have hn : L ≠ [] := by rintro rfl; have := hq.1.1; simp at this
  obtain ⟨h1, h2, _⟩ := fq_quots L a b hn hq.1.2.2 h
  refine tok_of_tokN ?_
  unfold tokN
  have := fq_le hn h
  have hg := fq_gcd L a b h
  simp [hg]
  omega

theorem fq_not {L : List Int} (hq : ¬ qok L) : fromF L = ((0, 0), false) := by
  by_cases h : 1 ≤ L.length ∧ L.length ≤ 8 ∧ 2 ≤ L.getD (L.length - 1) 0
  · have hx : ¬ ∀ x ∈ L, 1 ≤ x := fun h' => hq ⟨h, h'⟩
    refine fromF_none ?_
    clear h hq
    induction L with
    | nil => exact absurd (fun x hx => by simp at hx) hx
    | cons x r ih =>
      rw [fqO_cons]
      by_cases hx1 : 1 ≤ x
      · rw [ih (fun h' => hx (fun y hy => by rcases List.mem_cons.1 hy with rfl | hy; exact hx1; exact h' y hy))]
        rfl
      · cases fqO r with
        | none => rfl
        | some ab => exact fqStep_none (by omega)
  · exact fromF_out h

set_option maxHeartbeats 4000000 in
theorem fromQuotients_any (v : Value) (xs : List Int) (w : World) (hv : Reads w v xs) (hx : xs.length ≤ 2000000) :
    Calls Try.prog 34 #[v] w (FromPost xs w) := by
  have hbw : Below w.heap.size w ((w.alloc (.cells #[.int .i64 0, .int .i64 0] 24)).alloc (.cells #[.bool false] 4)) := ((Below.refl _ _).alloc (Nat.le_refl _) _).alloc (by simp) _
  have hqk := quotientsOk_any v xs _ (hv.below hbw) hx
  by_cases hq : qok xs
  · have HQ := Lib.hid hq
    obtain ⟨N, hN⟩ : ∃ N, xs.length = N := ⟨_, rfl⟩
    have hN1 : 1 ≤ N := by have := hq.1.1; omega
    have hN8 : N ≤ 8 := by have := hq.1.2.1; omega
    obtain ⟨a, cap, rfl, HC0⟩ := hv.cells hN
    obtain ⟨g, off, rfl, HC⟩ := HC0 (by omega)
    have HN := Lib.hid hN
    clear hv HC0 hq hN
    refine (callsIn_wide (n := 6)).1 ?_
    refine callsIn_of_wp_marks Try.func34 rfl trivial ?_ rfl
    simp only [Try.ntmps34, List.size_toArray, List.length_cons, List.length_nil, Nat.reduceAdd, Nat.reduceSub, Array.replicate_succ, Array.replicate_zero, List.push_toArray, List.append_toArray, List.nil_append, List.cons_append]
    gi_wp2_with fail
    refine ⟨trivial, (callsIn_wide.2 hqk).mono ?_⟩; rintro e w1 ⟨⟨bb, rfl, hbb⟩, rfl⟩
    obtain rfl : bb = true := hbb.2 HQ.out
    clear hbb hqk
    gi_wp2_with fail
    refine ⟨trivial, (callsIn_wide.2 (backward_any _ _ _ _)).mono ?_⟩; rintro e w2 ⟨rfl, rfl⟩
    gi_wp2_with fail
    have hgl : g < w.heap.size := World.block_lt_of_cell? w _ (HC.out 0 (by omega))
    have hcs : Hid (∀ j, j < N → w.cell? ⟨g, off + j, none⟩ = some (.int .i64 (((xs.map fun x => x.toNat - 1).getD j 0 + 1 : Nat) : Int))) := fun j hj => by
      rw [HC.out j hj]
      have hi : j < xs.length := by rw [HN.out]; exact hj
      have hx1 := HQ.out.2 _ (List.getElem_mem hi)
      simp only [List.getD_eq_getElem?_getD, List.getElem?_map, List.getElem?_eq_getElem hi, Option.map_some, Option.getD_some]
      congr 2
      omega
    have bR := (((Two.new w (.int .i64 0) (.int .i64 0) 24).alloc (.cells #[.bool false] 4)).alloc (.cells #[.int .i64 1, .int .i64 0] 24)).alloc (.cells #[.slice (some ⟨g, off, none⟩) N cap] 26)
    have bB := ((Boxed.new (w.alloc (.cells #[.int .i64 0, .int .i64 0] 24)) 4 (.bool false)).alloc (.cells #[.int .i64 1, .int .i64 0] 24)).alloc (.cells #[.slice (some ⟨g, off, none⟩) N cap] 26)
    have bT := (Two.new ((w.alloc (.cells #[.int .i64 0, .int .i64 0] 24)).alloc (.cells #[.bool false] 4)) (.int .i64 1) (.int .i64 0) 24).alloc (.cells #[.slice (some ⟨g, off, none⟩) N cap] 26)
    have bS := Boxed.new (((w.alloc (.cells #[.int .i64 0, .int .i64 0] 24)).alloc (.cells #[.bool false] 4)).alloc (.cells #[.int .i64 1, .int .i64 0] 24)) 26 (.slice (some ⟨g, off, none⟩) N cap)
    simp only [World.size_alloc] at bB bT bS
    have hB0 : Below w.heap.size w ((((w.alloc (.cells #[.int .i64 0, .int .i64 0] 24)).alloc (.cells #[.bool false] 4)).alloc (.cells #[.int .i64 1, .int .i64 0] 24)).alloc (.cells #[.slice (some ⟨g, off, none⟩) N cap] 26)) := (hbw.alloc (by simp; omega) _).alloc (by simp; omega) _
    have hsz : (((((w.alloc (.cells #[.int .i64 0, .int .i64 0] 24)).alloc (.cells #[.bool false] 4)).alloc (.cells #[.int .i64 1, .int .i64 0] 24)).alloc (.cells #[.slice (some ⟨g, off, none⟩) N cap] 26))).heap.size = w.heap.size + 4 := by simp
    obtain ⟨W0, hW0⟩ : ∃ W0, ((((w.alloc (.cells #[.int .i64 0, .int .i64 0] 24)).alloc (.cells #[.bool false] 4)).alloc (.cells #[.int .i64 1, .int .i64 0] 24)).alloc (.cells #[.slice (some ⟨g, off, none⟩) N cap] 26)) = W0 := ⟨_, rfl⟩
    rw [hW0] at bR bB bT bS hB0 hsz ⊢
    clear hW0 hbw
    have hcs0 : Hid (∀ j, j < N → W0.cell? ⟨g, off + j, none⟩ = some (.int .i64 (((xs.map fun x => x.toNat - 1).getD j 0 + 1 : Nat) : Int))) := fun j hj => (hB0.cell (p := ⟨g, off + j, none⟩) hgl).trans (hcs.out j hj)
    generalize hys : (xs.map fun x => x.toNat - 1) = ys at *
    have HYS := Lib.hid hys
    clear hcs HC hys
    refine wpIn_rangeFunc_ownG rfl (by omega) (gf := 69) (lb := #[.pointer (some ⟨w.heap.size + 1 + 1 + 1, 0, none⟩)]) rfl trivial (enters_of Try.func69 (by kernel_rfl) rfl)
      (back_stops 5 (by omega) (w.heap.size + 1 + 1 + 1) g off N cap ys hN1 hN8 W0 bS.cell hcs0) (fun h h' => h.trans h') (fun W l o o' h1 h2 h3 h4 => ⟨World.putObj_heap_other (by omega), World.putObj_heap_other (by omega)⟩) (Below.refl _ _) (fun _ => rfl)
      (fun pre W => (∃ a b : Nat, stF pre = some (a, b) ∧ a ≤ 60 ∧ b ≤ 60 ∧ Two W (w.heap.size + 1 + 1) (.int .i64 a) (.int .i64 b) 24 ∧ Two W w.heap.size (.int .i64 0) (.int .i64 0) 24 ∧ Boxed W (w.heap.size + 1) 4 (.bool false)) ∧ Below w.heap.size w W)
      (fun c pre W => (c = .ret ∧ stF pre = none ∧ Two W w.heap.size (.int .i64 0) (.int .i64 0) 24 ∧ Boxed W (w.heap.size + 1) 4 (.bool false)) ∧ Below w.heap.size w W)
      (OwnFrom.and (Own.from (fun s A B row hs hg hr => by obtain ⟨a, b, h0, h1, h2, h3, h4, h5⟩ := hs; exact ⟨a, b, h0, h1, h2, cells_nc2 h3 hg hr, cells_nc2 h4 hg hr, cells_nc2 h5 hg hr⟩) _) (ownFrom_below (Nat.le_refl _) (by omega)))
      (fun c => OwnFrom.and (Own.from (fun s A B row hs hg hr => by obtain ⟨h0, h1, h2, h3⟩ := hs; exact ⟨h0, h1, cells_nc2 h2 hg hr, cells_nc2 h3 hg hr⟩) _) (ownFrom_below (Nat.le_refl _) (by omega)))
      ⟨⟨1, 0, rfl, by omega, by omega, bT, bR, bB⟩, hB0⟩
      (fun x => { tmps := #[.slice (some ⟨g, off, none⟩) N cap, undef, .pointer (some ⟨w.heap.size, 0, none⟩), .pointer (some ⟨w.heap.size + 1, 0, none⟩), .pointer (some ⟨w.heap.size + 1 + 1, 0, none⟩), undef, .int .i64 ((x.2 + 1 : Nat) : Int), .slice (some ⟨g, off, none⟩) N cap, .bool true, .bool false, undef, .agg #[.int .i64 1, .int .i64 0], .slice (some ⟨g, off, none⟩) N cap, .func (.func 69) #[] #[.pointer (some ⟨w.heap.size + 1 + 1 + 1, 0, none⟩)], .int .i64 (x.1 : Int), .int .i64 ((x.2 + 1 : Nat) : Int), undef, undef, undef, undef, undef, undef, undef, undef, undef, undef, undef, undef, undef, undef, undef, undef, undef, undef, undef, undef, undef, undef, undef, undef], defers := [] }) ?assign ?body ?done ?stop
    case assign =>
      intro l x W K hK
      dsimp only [encB]
      gi_wp2
      exact hK
    case body =>
      rintro l pre ⟨i, q0⟩ W ⟨⟨a, b, hst, ha, hb, tT, tR, bB⟩, hB⟩ hlt
      have hs := stF_snoc pre (i, q0)
      rw [hst] at hs
      dsimp only at hs ⊢
      obtain ⟨q, hq⟩ : ∃ q, q0 + 1 = q := ⟨_, rfl⟩
      rw [hq] at hs ⊢
      have hq1 : 1 ≤ q := by omega
      have tTc := tT.cell0
      have tTd := tT.cell1
      have tTf := tT.free 0
      have tTg := tT.free 1
      have tRf := tR.free 0
      have tRg := tR.free 1
      have tRc := tR.cell0
      have tRd := tR.cell1
      have cB := bB.cell
      have fB := bB.frozen
      clear hst hq
      by_cases h60 : q ≤ 60
      · have h60' : decide ((60 : Int) < q) = false := by simp; omega
        have m0 : (0 : Int) ≤ (q : Int) * a := Int.mul_nonneg (by omega) (by omega)
        have m1 : (q : Int) * a ≤ 60 * 60 := Int.mul_le_mul (by omega) (by omega) (by omega) (by omega)
        obtain ⟨X, hXe⟩ : ∃ X : Nat, q * a + b = X := ⟨_, rfl⟩
        have hXi : (q : Int) * a + b = X := by rw [← hXe]; simp
        by_cases hX : X ≤ 60
        · rw [fqStep_some (by omega) (by omega) (by rw [Int.toNat_natCast, hXe]; exact hX), Int.toNat_natCast, hXe] at hs
          have hX' : decide ((60 : Int) < X) = false := by simp; omega
          have HS := Lib.hid hs
          clear hs hXe
          gi_wp2
          exact ⟨((KeepsOthers.setCell _ _ _).trans (KeepsOthers.setCell _ _ _)).from _, ⟨heap_set2 W _ _ _ _ (by omega), heap_set2 W _ _ _ _ (by omega)⟩,
            ⟨X, a, HS.out, hX, ha, (tT.set0 _).set1 _, (tR.set (by omega) 0 _).set (by omega) 1 _, (heap_set2 W _ _ _ _ (by omega)).trans bB⟩, (hB.setCell (p := ⟨w.heap.size + 1 + 1, 0, none⟩) (by simp; omega) _).setCell (p := ⟨w.heap.size + 1 + 1, 1, none⟩) (by simp; omega) _⟩
        · rw [fqStep_none (by rw [Int.toNat_natCast, hXe]; omega)] at hs
          have hX' : (60 : Int) < X := by omega
          have HS := Lib.hid hs
          clear hs hXe
          gi_wp2
          exact ⟨(((KeepsOthers.setCell _ _ _).trans (KeepsOthers.setCell _ _ _)).trans (KeepsOthers.setCell _ _ _)).from _, ⟨rfl, HS.out, ((tR.set0 _).set1 _).set (by omega) 0 _, Boxed.set (v := .bool false) _ ((heap_set2 W _ _ _ _ (by omega)).trans bB)⟩,
            ((hB.setCell (p := ⟨w.heap.size, 0, none⟩) (Nat.le_refl _) _).setCell (p := ⟨w.heap.size, 1, none⟩) (Nat.le_refl _) _).setCell (p := ⟨w.heap.size + 1, 0, none⟩) (by simp) _⟩
      · rw [fqStep_none (by omega)] at hs
        have h60' : (60 : Int) < q := by omega
        have HS := Lib.hid hs
        clear hs
        gi_wp2
        exact ⟨(((KeepsOthers.setCell _ _ _).trans (KeepsOthers.setCell _ _ _)).trans (KeepsOthers.setCell _ _ _)).from _, ⟨rfl, HS.out, ((tR.set0 _).set1 _).set (by omega) 0 _, Boxed.set (v := .bool false) _ ((heap_set2 W _ _ _ _ (by omega)).trans bB)⟩,
          ((hB.setCell (p := ⟨w.heap.size, 0, none⟩) (Nat.le_refl _) _).setCell (p := ⟨w.heap.size, 1, none⟩) (Nat.le_refl _) _).setCell (p := ⟨w.heap.size + 1, 0, none⟩) (by simp) _⟩
    case done =>
      rintro D zs W hD rfl ⟨⟨a, b, hst, ha, hb, tT, tR, bB⟩, hB⟩ hK
      have hf : fqO xs = some (a, b) := by
        have h := stF_upto (xs := xs) HQ.out.2 N (by rw [HN.out]; exact Nat.le_refl _)
        rw [HYS.out, HN.out, hst, Nat.sub_self, List.drop_zero] at h
        exact h.symm
      have HF := Lib.hid (fromF_tok HQ.out.1 hf (fq_tok HQ.out hf))
      clear hst hf
      have tTc := tT.cell0
      have tTd := tT.cell1
      have tRf := tR.free 0
      have tRg := tR.free 1
      have tRc := tR.cell0
      have tRd := tR.cell1
      have cB := bB.cell
      have fB := bB.frozen
      gi_wp2
      have hK' := (((KeepsOthers.setCell W ⟨w.heap.size, 0, none⟩ (.int .i64 (a : Int))).trans (KeepsOthers.setCell _ ⟨w.heap.size, 1, none⟩ (.int .i64 (b : Int)))).trans (KeepsOthers.setCell _ ⟨w.heap.size + 1, 0, none⟩ (.bool true))).same D _ hK rfl
      have t2 : Two ((((W.setCell ⟨w.heap.size, 0, none⟩ (.int .i64 (a : Int))).setCell ⟨w.heap.size, 1, none⟩ (.int .i64 (b : Int))).setCell ⟨w.heap.size + 1, 0, none⟩ (.bool true))) w.heap.size (.int .i64 a) (.int .i64 b) 24 := ((tR.set0 _).set1 _).set (by omega) 0 _
      have b2 : Boxed ((((W.setCell ⟨w.heap.size, 0, none⟩ (.int .i64 (a : Int))).setCell ⟨w.heap.size, 1, none⟩ (.int .i64 (b : Int))).setCell ⟨w.heap.size + 1, 0, none⟩ (.bool true))) (w.heap.size + 1) 4 (.bool true) := Boxed.set (v := .bool false) _ ((heap_set2 W _ _ _ _ (by omega)).trans bB)
      have hB2 := ((hB.setCell (p := ⟨w.heap.size, 0, none⟩) (Nat.le_refl _) (.int .i64 (a : Int))).setCell (p := ⟨w.heap.size, 1, none⟩) (Nat.le_refl _) (.int .i64 (b : Int))).setCell (p := ⟨w.heap.size + 1, 0, none⟩) (by simp) (.bool true)
      have t3 : Two _ w.heap.size (.int .i64 a) (.int .i64 b) 24 := cells_nc2 t2 (grownBy_putObj' _ D (.deferred none)) (fun r e => by cases e; exact ⟨_, hK', rfl⟩)
      have b3 : Boxed _ (w.heap.size + 1) 4 (.bool true) := cells_nc2 b2 (grownBy_putObj' _ D (.deferred none)) (fun r e => by cases e; exact ⟨_, hK', rfl⟩)
      have k0 := t3.cell0
      have k1 := t3.cell1
      have k2 := b3.cell
      refine ⟨by simp, .inl ⟨_, _, rfl, run_takeDeferred hK', ?_⟩⟩
      refine ⟨.tuple #[(.agg #[.int .i64 (a), .int .i64 (b)]), .bool true], ?_, from_post HF.out (hB2.trans (belowK_b (w := w) (Nat.le_refl _) _ D _ _ (by omega) hK' rfl rfl))⟩
      simp [results, Try.results34, go_sem, k0, k1, k2]
    case stop =>
      rintro D c pre W hD ⟨k, hk, rfl⟩ ⟨⟨rfl, hst, tR, bB⟩, hB⟩ hK
      have hf : fqO (xs.drop (xs.length - k)) = none := by
        have h := stF_upto (xs := xs) HQ.out.2 k (by rw [HN.out]; exact hk)
        rw [HYS.out, HN.out, hst] at h
        rw [HN.out]
        exact h.symm
      have HF := Lib.hid (fromF_none (fqO_none hf))
      clear hst hf
      gi_wp2
      have t3 : Two _ w.heap.size (.int .i64 0) (.int .i64 0) 24 := cells_nc2 tR (grownBy_putObj' _ D (.deferred none)) (fun r e => by cases e; exact ⟨_, hK, rfl⟩)
      have b3 : Boxed _ (w.heap.size + 1) 4 (.bool false) := cells_nc2 bB (grownBy_putObj' _ D (.deferred none)) (fun r e => by cases e; exact ⟨_, hK, rfl⟩)
      have k0 := t3.cell0
      have k1 := t3.cell1
      have k2 := b3.cell
      refine ⟨by simp, .inl ⟨_, _, rfl, run_takeDeferred hK, ?_⟩⟩
      refine ⟨.tuple #[(.agg #[.int .i64 (0), .int .i64 (0)]), .bool false], ?_, from_post HF.out (hB.trans (belowK_b (w := w) (Nat.le_refl _) _ D _ _ (by omega) hK rfl rfl))⟩
      simp [results, Try.results34, go_sem, k0, k1, k2]
  · have hz := Lib.hid (fq_not hq)
    have HQ := Lib.hid hq
    clear hv hq
    go_enter Try.func34, Try.ntmps34
    go_wp2_with fail
    refine hqk.mono ?_; rintro e w1 ⟨⟨bb, rfl, hbb⟩, rfl⟩
    obtain rfl : bb = false := by cases bb with | false => rfl | true => exact absurd (hbb.1 rfl) HQ.out
    clear hbb hqk
    have bR := (Two.new w (.int .i64 0) (.int .i64 0) 24).alloc (.cells #[.bool false] 4)
    have bB := Boxed.new (w.alloc (.cells #[.int .i64 0, .int .i64 0] 24)) 4 (.bool false)
    simp only [World.size_alloc] at bB
    obtain ⟨W0, hW0⟩ : ∃ W0, ((w.alloc (.cells #[.int .i64 0, .int .i64 0] 24)).alloc (.cells #[.bool false] 4)) = W0 := ⟨_, rfl⟩
    rw [hW0] at bR bB hbw ⊢
    clear hW0
    have t2 : Two ((((W0.setCell ⟨w.heap.size, 0, none⟩ (.int .i64 0)).setCell ⟨w.heap.size, 1, none⟩ (.int .i64 0)).setCell ⟨w.heap.size + 1, 0, none⟩ (.bool false))) w.heap.size (.int .i64 0) (.int .i64 0) 24 := ((bR.set0 _).set1 _).set (by omega) 0 _
    have b2 : Boxed ((((W0.setCell ⟨w.heap.size, 0, none⟩ (.int .i64 0)).setCell ⟨w.heap.size, 1, none⟩ (.int .i64 0)).setCell ⟨w.heap.size + 1, 0, none⟩ (.bool false))) (w.heap.size + 1) 4 (.bool false) := Boxed.set (v := .bool false) _ ((heap_set2 W0 _ _ _ _ (by omega)).trans bB)
    have hB2 := ((hbw.setCell (p := ⟨w.heap.size, 0, none⟩) (Nat.le_refl _) (.int .i64 0)).setCell (p := ⟨w.heap.size, 1, none⟩) (Nat.le_refl _) (.int .i64 0)).setCell (p := ⟨w.heap.size + 1, 0, none⟩) (by simp) (.bool false)
    have r0 := bR.cell0
    have r1 := bR.cell1
    have r2 := bR.free 0
    have r3 := bR.free 1
    have r4 := bB.cell
    have r5 := bB.frozen
    have k0 := t2.cell0
    have k1 := t2.cell1
    have k2 := b2.cell
    go_wp2
    refine bodyPost_ret (v := .tuple #[(.agg #[.int .i64 (0), .int .i64 (0)]), .bool false]) ?_ rfl (from_post hz.out hB2)
    simp [results, Try.results34, go_sem, k0, k1, k2]
end Go.Proofs.Ytbdgginamnllaaa
