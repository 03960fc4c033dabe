/- Contract of DigitsOf of the program: a range over slices.Backward, and stores into a made row. -/
import Derived.Test.YtnpaicdbmmfdhaaBasI
import Derived.Test.YtnpaicdbmmfdhaaGFrom
import Derived.Test.YtnpaicdbmmfdhaaOne
import Derived.BigRegionIn
set_option linter.unusedVariables false
set_option linter.unusedSimpArgs false
namespace Go.Proofs.Ytnpaicdbmmfdhaa

set_option maxRecDepth 100000
open Go.ChangeShapes Go.WideShapes Go.ChangeAt Go.RowKit Go.Joins Go.Shelf

attribute [local go_sem] Oper.semAt_some

/-- place and number of the basis, as the range gives them -/
def encD (B : Nat → Nat) (m x : Nat) : Array Value := #[.int .i64 ((min x (m - 1) : Nat) : Int), .int .i64 ((B (min x (m - 1)) : Nat) : Int)]

def downF (m i : Nat) : Nat := m - 1 - i

set_option maxHeartbeats 4000000 in
theorem backd1_in (q : Nat) (hq : 1 ≤ q) (l Bs g off N cap : Nat) (B : Nat → Nat) (h1 : 1 ≤ N) (h8 : N ≤ 8) (J Jx : List Nat → World → Prop)
    (hY : ∀ pre x W, J pre W → pre.length < N → YieldAt Fence.wide (q - 1) Try.prog l (encD B N x) W fun e W' =>
      (e = .returned (.bool true) ∧ J (pre ++ [x]) W' ∧ KpB Bs g W W') ∨ (e = .returned (.bool false) ∧ Jx (pre ++ [x]) W'))
    (W : World) (hc0 : W.cell? ⟨Bs, 0, none⟩ = some (.slice (some ⟨g, off, none⟩) N cap)) (hcs : Hid (∀ j, j < N → W.cell? ⟨g, off + j, none⟩ = some (.int .i64 ((B j : Nat) : Int)))) (h0 : J [] W) :
    CallsIn Fence.wide q Try.prog 78 #[.func (.yield l) #[] #[], .pointer (some ⟨Bs, 0, none⟩)] W fun e W' => (∃ v, e = .returned v) ∧
      ((∃ zs, zs = uptoL (downF N) N ∧ J zs W') ∨ (∃ pre, (∃ k, k ≤ N ∧ pre = uptoL (downF N) k) ∧ Jx pre W')) := by
  refine callsIn_of_wp Try.func78 rfl trivial ?_ rfl
  simp only [Try.ntmps78, List.size_toArray, List.length_cons, List.length_nil, Nat.reduceAdd, Nat.reduceSub, Array.replicate_succ, Array.replicate_zero, List.push_toArray, List.append_toArray, List.nil_append, List.cons_append]
  gi_wp2
  gi_loopw [3] (fun xi wr => ∃ j : Nat, xi = .int .i64 ((j : Int) - 1) ∧ j ≤ N ∧ J (uptoL (downF N) (N - j)) wr ∧ KpB Bs g W wr) (fun xi _ => (intOf xi + 1).toNat)
  case atStart => exact ⟨N, rfl, Nat.le_refl _, by rw [Nat.sub_self]; exact h0, rfl, rfl⟩
  case round =>
    obtain ⟨j, rfl, hj, hJs, hk1, hk2⟩ := hrel
    by_cases hj0 : j = 0
    · subst hj0
      have hc : decide ((0 : Int) ≤ ((0 : Nat) : Int) - 1) = false := by decide
      have hc2 : decide ((0 : Int) ≤ (-1 : Int)) = false := by decide
      rw [Nat.sub_zero] at hJs
      gi_wp2
      go_end0
      exact ⟨⟨_, rfl⟩, .inl ⟨_, rfl, hJs⟩⟩
    · obtain ⟨j, rfl⟩ : ∃ k, j = k + 1 := ⟨j - 1, by omega⟩
      have ej : ((j + 1 : Nat) : Int) - 1 = j := by omega
      rw [ej]
      have hc0r : wr.cell? ⟨Bs, 0, none⟩ = some (.slice (some ⟨g, off, none⟩) N cap) := (World.cell?_of_block hk1).trans hc0
      have hcr : wr.cell? ⟨g, off + j, none⟩ = some (.int .i64 ((B j : Nat) : Int)) := (World.cell?_of_block hk2).trans (hcs.out j (by omega))
      have hjN : (j : Int) < N := by omega
      have hj1 : (0 : Int) ≤ j := by omega
      have hb : downF N (N - (j + 1)) = j := by unfold downF; omega
      have hu : uptoL (downF N) (N - j) = uptoL (downF N) (N - (j + 1)) ++ [j] := by rw [show N - j = (N - (j + 1)) + 1 by omega, uptoL_succ, hb]
      have HU := Lib.hid hu
      obtain ⟨fn, tmps, assign, body, hy, hR⟩ := hY _ j wr hJs (by rw [uptoL_length]; omega)
      have hmin : min j (N - 1) = j := by omega
      dsimp only [encD] at hy
      rw [hmin] at hy
      obtain ⟨V, hV⟩ : ∃ V : Int, ((B j : Nat) : Int) = V := ⟨_, rfl⟩
      rw [hV] at hy hcr
      clear hb hu hV hmin
      gi_wp2
      refine hR.mono ?_
      rintro e W3 (⟨rfl, hJ3, hk3⟩ | ⟨rfl, hJx3⟩)
      · gi_wp2
        go_roundw
        case rel => exact ⟨j, by go_num, by omega, by rw [HU.out]; exact hJ3, KpB.trans ⟨hk1, hk2⟩ hk3⟩
        case measure => simp only [intOf]; omega
      · gi_wp2
        refine bodyPost_ret (results_none rfl _ _ _) rfl ?_
        exact ⟨⟨_, rfl⟩, .inr ⟨_, ⟨N - j, by omega, HU.out.symm⟩, hJx3⟩⟩

theorem backd_stops (q : Nat) (hq : 1 ≤ q) (Bs g off N cap : Nat) (B : Nat → Nat) (h1 : 1 ≤ N) (h8 : N ≤ 8) (w : World)
    (hc0 : w.cell? ⟨Bs, 0, none⟩ = some (.slice (some ⟨g, off, none⟩) N cap)) (hcs : Hid (∀ j, j < N → w.cell? ⟨g, off + j, none⟩ = some (.int .i64 ((B j : Nat) : Int)))) :
    SeqStopsK Fence.wide q Try.prog 78 #[.pointer (some ⟨Bs, 0, none⟩)] (encD B N) (KpB Bs g) (fun zs => zs = uptoL (downF N) N) (fun pre => ∃ k, k ≤ N ∧ pre = uptoL (downF N) k) N w :=
  fun l J Jx W hW hJ hJx hY h0 =>
    backd1_in q hq l Bs g off N cap B h1 h8 J Jx hY W ((hW.cell (p := ⟨Bs, 0, none⟩) (World.block_lt_of_cell? w _ hc0)).trans hc0) (fun j hj => (hW.cell (p := ⟨g, off + j, none⟩) (World.block_lt_of_cell? w _ (hcs.out j hj))).trans (hcs.out j hj)) h0

/-- what is left, and the digits so far -/
def stD (B : Nat → Nat) (m k : Nat) (pre : List Nat) : Nat × List Nat :=
  pre.foldl (fun st x => (st.1 % B (min x (m - 1)), st.2.set (min x (m - 1)) (st.1 / B (min x (m - 1))))) (k, List.replicate m 0)

theorem stD_snoc (B : Nat → Nat) (m k : Nat) (pre : List Nat) (x : Nat) :
    stD B m k (pre ++ [x]) = ((stD B m k pre).1 % B (min x (m - 1)), (stD B m k pre).2.set (min x (m - 1)) ((stD B m k pre).1 / B (min x (m - 1)))) := by simp [stD]

theorem stD_upto (B : Nat → Nat) (m k j : Nat) (hj : j ≤ m) : stD B m k (uptoL (downF m) j) = (remD B m k j, (List.range m).map fun i => if m ≤ i + j then digD B m k i else 0) := by
  induction j with
  | zero =>
    show (k, List.replicate m 0) = (k, _)
    congr 1
    refine List.ext_getElem (by simp) (fun i h1 h2 => ?_)
    have hi : i < m := by simpa using h1
    simp only [List.getElem_replicate, List.getElem_map, List.getElem_range]
    rw [if_neg (by omega)]
  | succ j ih =>
    have hm : min (downF m j) (m - 1) = m - 1 - j := by unfold downF; omega
    rw [uptoL_succ, stD_snoc, ih (by omega), hm]
    refine Prod.ext rfl ?_
    show List.set _ (m - 1 - j) (remD B m k j / B (m - 1 - j)) = _
    refine List.ext_getElem (by simp) (fun i h1 h2 => ?_)
    have hi : i < m := by simpa using h2
    rw [List.getElem_set]
    simp only [List.getElem_map, List.getElem_range]
    by_cases c : m - 1 - j = i
    · rw [if_pos c, if_pos (by omega)]
      subst c
      unfold digD
      rw [show m - 1 - (m - 1 - j) = j by omega]
    · rw [if_neg c]
      by_cases c2 : m ≤ i + j
      · rw [if_pos c2, if_pos (by omega)]
      · rw [if_neg c2, if_neg (by omega)]

theorem stD_end (B : Nat → Nat) (m k : Nat) : (stD B m k (uptoL (downF m) m)).2 = (List.range m).map (digD B m k) := by
  rw [stD_upto B m k m (Nat.le_refl _)]
  refine List.map_congr_left fun i hi => ?_
  rw [if_pos (by omega)]

/-- a row of numbers -/
def rowN (D : List Nat) : Array Value := (D.map fun x : Nat => Value.int .i64 (x : Int)).toArray

theorem rowN_size (D : List Nat) : (rowN D).size = D.length := by simp [rowN]

theorem rowN_get (D : List Nat) {i : Nat} (h : i < D.length) : (rowN D)[i]? = some (.int .i64 ((D.getD i 0 : Nat) : Int)) := by
  simp [rowN, List.getElem?_eq_getElem h, List.getD_eq_getElem?_getD]

theorem rowN_set (D : List Nat) (i x : Nat) : (rowN D).setIfInBounds i (.int .i64 (x : Int)) = rowN (D.set i x) := by
  simp [rowN, List.map_set]

theorem made_row (m : Nat) : madeCells (Value.int .i64 0).cells (m * 1) = rowN (List.replicate m 0) := by
  apply Array.ext
  · simp [madeCells, rowN]
  · intro i h1 h2
    simp [madeCells, rowN, Value.cells, Nat.mod_one]

theorem one_free1 {w : World} {g : Nat} {x : Value} {T : TypeId} (h : One w g x T) : w.frozen? ⟨g, 0, none⟩ = false := by unfold One at h; simp [World.frozen?, h]

theorem one_set1 {w : World} {g : Nat} {x : Value} {T : TypeId} (h : One w g x T) (y : Value) : One (w.setCell ⟨g, 0, none⟩ y) g y T := by
  unfold One at *
  simp [World.setCell, Array.getElem?_modify, h]

theorem blk_away {w : World} {g G i : Nat} {o : Option Obj} (h : w.heap[g]? = o) (hne : g ≠ G) (v : Value) : (w.setCell ⟨G, i, none⟩ v).heap[g]? = o := (Below.heap_setCell _ _ _ _ hne).trans h

theorem make_in {F : Fence} {n : Nat} {ops : Array Oper} {rest : List Oper} {o : Oper} {a : Act} {Q : Exit → Act → World → Prop} (w : World)
    (hg : o.guard = none) (l c : Operand) (hop : o.op = Op.makeSlice 30 l c) (m : Nat) (hl : a.eval l = .int .i64 (m : Int)) (hc : a.eval c = .int .i64 (m : Int)) (hm : m ≤ 1000)
    (hK : ∀ w', RowAt w' w.heap.size (rowN (List.replicate m 0)) → w.grownBy w' none → w'.heap.size = w.heap.size + 1 → wpListIn F n Try.prog ops Q rest (a.put o.dst (.slice (some ⟨w.heap.size, 0, none⟩) m m)) w') :
    wpListIn F n Try.prog ops Q (o :: rest) a w := by
  obtain ⟨i0, hi, iz0, iz1, iz2⟩ := info_parts infoInt
  refine wpListIn_plain hg fun K hK' => ?_
  have hr := run_make (P := Try.prog) w 30 3 i0 (.int .i64 0) Try.underlying30 hi iz0 .i64 .i64 (m : Int) (m : Int) (by omega) (Int.le_refl _) (by rw [iz2]; omega) (by omega)
  simp only [Int.toNat_natCast] at hr
  unfold Oper.wpIn
  refine ⟨?_, ?_⟩
  · simp [Oper.about, hop]
  · rw [Oper.semAt_plain F _ _ (by rw [hop]; intro c hc'; cases hc')]
    simp [execOp, hop, hl, hc, hr, Result.andThen]
    refine hK' _ _ (hK _ ?_ (World.grownBy_alloc w _ none) (by simp))
    rw [iz1, made_row]
    exact heap_alloc_new w _

theorem heap_set3 (W : World) (G i B : Nat) (p q : Value) (k : Nat) (h1 : k ≠ G) (h2 : k ≠ B) : ((W.setCell ⟨G, i, none⟩ p).setCell ⟨B, 0, none⟩ q).heap[k]? = W.heap[k]? :=
  (Below.heap_setCell _ _ _ _ h2).trans (Below.heap_setCell _ _ _ _ h1)

set_option maxHeartbeats 4000000 in
theorem digitsOf_any (n s k : Int) (w : World) : Calls Try.prog 42 #[(.agg #[.int .i64 (n), .int .i64 (s)]), .int .i64 k] w (ListPost (digF n s k) w) := by
  obtain ⟨W, hW, ta, tb, hB⟩ := two_boxes n s k w
  by_cases h : tok n s = true ∧ 0 ≤ k ∧ k < n
  · obtain ⟨ht, k0, k1⟩ := h
    have hy := belF_yes ht k0 k1
    obtain ⟨N, S, rfl, rfl, hN⟩ := tokN_of ht
    obtain ⟨k, rfl⟩ := Int.eq_ofNat_of_zero_le k0
    have hb60 := (tokN_bd hN).2.1
    rw [digF_yes hN (by omega)]
    obtain ⟨r1, r2, r3, r4⟩ := bas_read hN
    have hbs := basisOf_any (N : Int) (S : Int)
    rw [basisF_yes hN] at hbs
    have HBs := Lib.hid hbs
    have hdig : castL (digN N S k) = castL ((List.range (bmN N S)).map (digD (basAt N S) (bmN N S) k)) := rfl
    rw [hdig]
    have hk60 : k ≤ 60 := by omega
    have hbl : (castL (basN N S)).length = bmN N S := by rw [castL_len]; exact r1
    have HR4 := Lib.hid r4
    generalize basN N S = BN at *
    generalize bmN N S = m at *
    generalize basAt N S = B at *
    have HBL := Lib.hid hbl
    have HB : Hid (∀ i, i < m → 1 ≤ B i ∧ B i ≤ 60) := fun i hi => (HR4.out i hi).2
    clear hbs hdig r1 r4 hbl hN ht k0 k1
    have c0 := ta.cell0
    have c1 := ta.cell1
    have c2 := tb.cell
    refine (callsIn_wide (n := 6)).1 ?_
    refine callsIn_of_wp_marks Try.func42 rfl trivial ?_ rfl
    simp only [Try.ntmps42, List.size_toArray, List.length_cons, List.length_nil, Nat.reduceAdd, Nat.reduceSub, Array.replicate_succ, Array.replicate_zero, List.push_toArray, List.append_toArray, List.nil_append, List.cons_append]
    gi_wp2_with fail
    rw [← hW]
    clear hW
    refine ⟨trivial, (callsIn_wide.2 (belowSize_any _ _ _ _)).mono ?_⟩; rintro e w1 ⟨rfl, hb1⟩
    rw [hy]
    have hB1 := hB.trans (hb1.mono hB.size)
    have ta1 := ta.below hb1 ta.lt
    have tb1 := tb.below hb1 tb.lt
    have lb1 := tb1.lt
    have c01 := ta1.cell0
    have c11 := ta1.cell1
    have c21 := tb1.cell
    clear hb1 hB ta tb c0 c1 c2 hy
    gi_wp2_with fail
    refine ⟨trivial, (callsIn_wide.2 (HBs.out _)).mono ?_⟩; rintro e w2 ⟨v2, rfl, ho2, hb2⟩
    obtain ⟨g, off, cap, rfl, hbg, hgl, hnc, hcl⟩ := ho2.cells (N := m) HBL.out (by omega)
    have hB2 := hB1.trans (hb2.mono hB1.size)
    have tb2 := tb1.below hb2 tb1.lt
    have hcs : Hid (∀ i, i < m → w2.cell? ⟨g, off + i, none⟩ = some (.int .i64 ((B i : Nat) : Int))) := fun i hi => by rw [hcl i hi, castL_getD, (HR4.out i hi).1]
    have hz2 := hb2.size
    clear hb2 ho2 hcl hB1 ta1 tb1 c01 c11 c21
    gi_wp2_with (gi_at_make; refine make_in _ rfl _ _ rfl m rfl rfl (by omega) ?_)
    intro w3 hr3 hg3 hz3
    have hb3 : Below w2.heap.size w2 w3 := ⟨hg3.os, hg3.tape, hg3.output, hg3.size, fun q hq => hg3.block q hq (by simp)⟩
    have hB3 := hB2.trans (hb3.mono hB2.size)
    have tb3 := tb2.below hb3 tb2.lt
    have hcs3 : Hid (∀ i, i < m → w3.cell? ⟨g, off + i, none⟩ = some (.int .i64 ((B i : Nat) : Int))) := fun i hi => (hb3.cell (p := ⟨g, off + i, none⟩) hgl).trans (hcs.out i hi)
    clear hg3 hb3 hB2 tb2 hcs
    gi_wp2_with fail
    refine ⟨trivial, (callsIn_wide.2 (backward_any _ _ _ _)).mono ?_⟩; rintro e w4 ⟨rfl, rfl⟩
    gi_wp2_with fail
    have bA := (One.new w3 (.slice (some ⟨w2.heap.size, 0, none⟩) m m) 30).alloc (.cells #[.slice (some ⟨g, off, none⟩) m cap] 30)
    have bS := Boxed.new (w3.alloc (.cells #[.slice (some ⟨w2.heap.size, 0, none⟩) m m] 30)) 30 (.slice (some ⟨g, off, none⟩) m cap)
    have bN := (tb3.alloc (.cells #[.slice (some ⟨w2.heap.size, 0, none⟩) m m] 30)).alloc (.cells #[.slice (some ⟨g, off, none⟩) m cap] 30)
    have hbe : Below w3.heap.size w3 ((w3.alloc (.cells #[.slice (some ⟨w2.heap.size, 0, none⟩) m m] 30)).alloc (.cells #[.slice (some ⟨g, off, none⟩) m cap] 30)) := ((Below.refl _ _).alloc (Nat.le_refl _) _).alloc (by simp) _
    have bG := hr3.below hbe hr3.lt
    have hB0 := hB3.trans (hbe.mono hB3.size)
    have hcs0 : Hid (∀ i, i < m → ((w3.alloc (.cells #[.slice (some ⟨w2.heap.size, 0, none⟩) m m] 30)).alloc (.cells #[.slice (some ⟨g, off, none⟩) m cap] 30)).cell? ⟨g, off + i, none⟩ = some (.int .i64 ((B i : Nat) : Int))) := fun i hi => (hbe.cell (p := ⟨g, off + i, none⟩) (by simp; omega)).trans (hcs3.out i hi)
    have hsz : ((w3.alloc (.cells #[.slice (some ⟨w2.heap.size, 0, none⟩) m m] 30)).alloc (.cells #[.slice (some ⟨g, off, none⟩) m cap] 30)).heap.size = w2.heap.size + 3 := by simp [hz3]
    simp only [World.size_alloc] at bS
    rw [hz3] at bA bS
    obtain ⟨W0, hW0⟩ : ∃ W0, (w3.alloc (.cells #[.slice (some ⟨w2.heap.size, 0, none⟩) m m] 30)).alloc (.cells #[.slice (some ⟨g, off, none⟩) m cap] 30) = W0 := ⟨_, rfl⟩
    rw [hW0] at bA bS bN bG hB0 hcs0 hsz ⊢
    clear hW0 hbe hr3 hB3 tb3 hcs3
    have hwg : w.heap.size + 1 < w2.heap.size := by omega
    refine wpIn_rangeFunc_ownG rfl (by omega) (gf := 78) (lb := #[.pointer (some ⟨w2.heap.size + 1 + 1, 0, none⟩)]) rfl trivial (enters_of Try.func78 (by kernel_rfl) rfl)
      (backd_stops 5 (by omega) (w2.heap.size + 1 + 1) g off m cap B r2 r3 W0 bS.cell hcs0) (fun h h' => h.trans h') (fun W l o o' h1 h2 h3 h4 => ⟨World.putObj_heap_other (by omega), World.putObj_heap_other (by omega)⟩) (Below.refl _ _) (fun _ => rfl)
      (fun pre W => (∃ r D, stD B m k pre = (r, D) ∧ D.length = m ∧ r ≤ 60 ∧ One W (w.heap.size + 1) (.int .i64 (r : Int)) 3 ∧ One W (w2.heap.size + 1) (.slice (some ⟨w2.heap.size, 0, none⟩) m m) 30 ∧ RowAt W w2.heap.size (rowN D)) ∧ Below w.heap.size w W)
      (fun _ _ _ => False)
      (OwnFrom.and (Own.from (fun s A C row hs hg hr => by obtain ⟨r, D, h0, h1, h2, h3, h4, h5⟩ := hs; exact ⟨r, D, h0, h1, h2, cells_nc2 h3 hg hr, cells_nc2 h4 hg hr, cells_nc2 h5 hg hr⟩) _) (ownFrom_below (Nat.le_refl _) (by omega)))
      (fun _ _ _ _ _ hs _ _ => hs)
      ⟨⟨k, List.replicate m 0, rfl, by simp, hk60, bN, bA, bG⟩, hB0⟩
      (fun x => { tmps := #[.agg #[.int .i64 N, .int .i64 S], .int .i64 k, .pointer (some ⟨w.heap.size, 0, none⟩), .pointer (some ⟨w.heap.size + 1, 0, none⟩), .slice none 0 0, .slice (some ⟨g, off, none⟩) m cap, .pointer (some ⟨w2.heap.size + 1, 0, none⟩), .int .i64 ((min x (m - 1) : Nat) : Int), .int .i64 ((B (min x (m - 1)) : Nat) : Int), .agg #[.int .i64 N, .int .i64 S], .int .i64 k, .bool true, .bool false, .agg #[.int .i64 N, .int .i64 S], .slice (some ⟨g, off, none⟩) m cap, .slice (some ⟨g, off, none⟩) m cap, .int .i64 m, .slice (some ⟨w2.heap.size, 0, none⟩) m m, .slice (some ⟨g, off, none⟩) m cap, .func (.func 78) #[] #[.pointer (some ⟨w2.heap.size + 1 + 1, 0, none⟩)], .int .i64 ((min x (m - 1) : Nat) : Int), .int .i64 ((B (min x (m - 1)) : Nat) : Int), undef, undef, undef, undef, undef, undef, undef, undef, undef, undef], defers := [] }) ?assign ?body ?done ?stop
    case assign =>
      intro l x W K hK
      dsimp only [encD]
      gi_wp2
      exact hK
    case body =>
      rintro l pre x W ⟨⟨r, D, hst, hDl, hr, n1, a1, g1⟩, hBW⟩ hlt
      have hs := stD_snoc B m k pre x
      rw [hst] at hs
      obtain ⟨i, hi⟩ : ∃ i, min x (m - 1) = i := ⟨_, rfl⟩
      have him : i < m := by omega
      rw [hi] at hs ⊢
      dsimp only at hs ⊢
      obtain ⟨b1, b60⟩ := HB.out i him
      have c1 := n1.cell
      have c2 := a1.cell
      have c3 := (g1.cell i).trans (rowN_get D (by omega))
      have f1 := one_free1 n1
      have f3 := g1.free i
      have g2 := g1.set i (.int .i64 ((r / B i : Nat) : Int))
      rw [rowN_set] at g2
      have hHS := Lib.hid hs
      have hDl2 : (D.set i (r / B i)).length = m := by simp [hDl]
      generalize hb : B i = b at *
      have hpos : (0 : Int) < b := by omega
      have hne : ¬ (b : Int) = 0 := by omega
      have eq1 : (r : Int) / (b : Int) = ((r / b : Nat) : Int) := by simp
      have eq2 : (r : Int) % (b : Int) = ((r % b : Nat) : Int) := by simp
      have eq3 : (r : Int).tdiv (b : Int) = ((r / b : Nat) : Int) := by rw [Int.tdiv_eq_ediv_of_nonneg (by omega)]; simp
      have eq4 : (r : Int).tmod (b : Int) = ((r % b : Nat) : Int) := by rw [Int.tmod_eq_emod_of_nonneg (by omega)]; simp
      have hX : r / b ≤ 60 := Nat.le_trans (Nat.div_le_self _ _) (by omega)
      have hY : r % b ≤ 60 := Nat.le_trans (Nat.mod_le _ _) (by omega)
      have hi0 : (0 : Int) ≤ i := by omega
      have him' : (i : Int) < m := by omega
      generalize r / b = X at *
      generalize r % b = Y at *
      clear hs hi hst hb
      have hkf := ((KeepsOthers.setCell W ⟨w2.heap.size, i, none⟩ (.int .i64 (X : Int))).trans (KeepsOthers.setCell _ ⟨w.heap.size + 1, 0, none⟩ (.int .i64 (Y : Int)))).from W0.heap.size
      have hN2 : One ((W.setCell ⟨w2.heap.size, i, none⟩ (.int .i64 (X : Int))).setCell ⟨w.heap.size + 1, 0, none⟩ (.int .i64 (Y : Int))) (w.heap.size + 1) (.int .i64 (Y : Int)) 3 := one_set1 (x := .int .i64 (r : Int)) (show One (W.setCell ⟨w2.heap.size, i, none⟩ (.int .i64 (X : Int))) (w.heap.size + 1) (.int .i64 (r : Int)) 3 from blk_away n1 (by omega) _) _
      have hA2 : One ((W.setCell ⟨w2.heap.size, i, none⟩ (.int .i64 (X : Int))).setCell ⟨w.heap.size + 1, 0, none⟩ (.int .i64 (Y : Int))) (w2.heap.size + 1) (.slice (some ⟨w2.heap.size, 0, none⟩) m m) 30 := blk_away (blk_away a1 (by omega) _) (by omega) _
      have hG2 : RowAt ((W.setCell ⟨w2.heap.size, i, none⟩ (.int .i64 (X : Int))).setCell ⟨w.heap.size + 1, 0, none⟩ (.int .i64 (Y : Int))) w2.heap.size (rowN (D.set i X)) := blk_away g2 (by omega) _
      have hk1 := heap_set3 W w2.heap.size i (w.heap.size + 1) (.int .i64 (X : Int)) (.int .i64 (Y : Int)) (w2.heap.size + 1 + 1) (by omega) (by omega)
      have hk2 := heap_set3 W w2.heap.size i (w.heap.size + 1) (.int .i64 (X : Int)) (.int .i64 (Y : Int)) g (by omega) (by omega)
      have hBa := (Below.drewS (hBW.setCell (p := ⟨w2.heap.size, i, none⟩) (by simp; omega) (.int .i64 (X : Int)))).setCell (p := ⟨w.heap.size + 1, 0, none⟩) (by simp) (.int .i64 (Y : Int))
      have hBb := Below.drewS ((hBW.setCell (p := ⟨w2.heap.size, i, none⟩) (by simp; omega) (.int .i64 (X : Int))).setCell (p := ⟨w.heap.size + 1, 0, none⟩) (by simp) (.int .i64 (Y : Int)))
      gi_wp2_with fail
      gi_region
      all_goals (
        gi_wp2
        exact ⟨⟨hkf.1, hkf.2⟩, ⟨hk1, hk2⟩, ⟨_, _, hHS.out, hDl2, hY, hN2, hA2, hG2⟩, by first | exact hBa | exact hBb⟩)
    case done =>
      rintro D0 zs W hD rfl ⟨⟨r, D, hst, hDl, hr, n1, a1, g1⟩, hBW⟩ hK
      have hd : D = (List.range m).map (digD B m k) := by
        have e := stD_end B m k
        rw [hst] at e
        exact e
      have hlen : (castL D).length = m := by rw [castL_len, hDl]
      have g2 : RowAt (W.putObj D0 (.deferred none)) w2.heap.size (rowN D) := cells_nc2 g1 (grownBy_putObj' _ D0 (.deferred none)) (fun r e => by cases e; exact ⟨_, hK, rfl⟩)
      have hO := RowAt.ownCap (b := w.heap.size) (cap := m) (xs := castL D) g2 (by omega) (by unfold maxLen; omega) (by rw [hlen]; exact Nat.le_refl _) (by rw [rowN_size, hDl]) (fun i hi => by
        rw [castL_len] at hi
        rw [castL_getD]; exact rowN_get D hi)
      rw [hlen, hd] at hO
      have hBz := hBW.trans (belowK_b (w := w) (Nat.le_refl _) _ D0 _ (.deferred none) (by omega) hK rfl rfl)
      have cA := a1.cell
      clear hst hd g1 g2
      gi_wp2
      refine ⟨by simp, .inl ⟨_, _, rfl, run_takeDeferred hK, ?_⟩⟩
      refine ⟨.slice (some ⟨w2.heap.size, 0, none⟩) m m, ?_, ⟨_, rfl, hO, hBz⟩⟩
      simp [results, Try.results42, go_sem]
    case stop =>
      rintro D c pre W hD _ hF _
      exact hF.elim
  · have hy := belF_no h
    rw [digF_no h]
    have c0 := ta.cell0
    have c1 := ta.cell1
    have c2 := tb.cell
    go_enter Try.func42, Try.ntmps42
    go_wp2_with fail
    rw [← hW]
    clear hW
    refine (belowSize_any _ _ _ _).mono ?_; rintro e w1 ⟨rfl, hb1⟩
    rw [hy]
    have hB1 := hB.trans (hb1.mono hB.size)
    go_wp2
    go_ret
    exact ⟨_, rfl, World.ownsRow_nil _ _ _ _, hB1⟩
end Go.Proofs.Ytnpaicdbmmfdhaa
