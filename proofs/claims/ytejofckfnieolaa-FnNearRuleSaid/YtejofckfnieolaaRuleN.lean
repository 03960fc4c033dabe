/- Contract of NearRule of the program: a range over a function. -/
import Derived.Test.YtejofckfnieolaaRuleA
set_option linter.unusedVariables false
namespace Go.Proofs.Ytejofckfnieolaa

set_option maxRecDepth 100000
open Go.ChangeShapes Go.WideShapes Go.ChangeAt Go.RowKit Go.Joins Go.Shelf

attribute [local go_sem] Oper.semAt_some

/-- the box of an array of four numbers -/
def FourAt (W : World) (B : Nat) (r : Row) : Prop := W.heap[B]? = some (.cells #[.int .i64 (r.p : Int), .int .i64 (r.a : Int), .int .i64 (r.q : Int), .int .i64 (r.b : Int)] 57 (0, 0))

theorem cells_nc {W W' : World} {g : Nat} {cs : Array Value} {t : TypeId} {fr : Nat × Nat} {row : Option Nat} (h : W.heap[g]? = some (.cells cs t fr)) (hg : W.grownBy W' row) (hr : ∀ r, row = some r → ∃ o : Obj, W.heap[r]? = some o ∧ o.isCells = false) : W'.heap[g]? = some (.cells cs t fr) := by
  refine (hg.block g (Array.getElem?_eq_some_iff.1 h).1 (fun e => ?_)).trans h
  obtain ⟨o, ho, hc⟩ := hr g e.symm
  rw [h] at ho; cases ho; cases hc

theorem OwnLL.setBox {W : World} {b B : Nat} {v u : Value} {Ls : List (List Int)} (h : OwnLL W b v Ls) (hB : Boxed W B 31 u) (u' : Value) : OwnLL (W.setCell ⟨B, 0, none⟩ u') b v Ls := by
  obtain ⟨rs, h1, h2, h3, h4⟩ := h
  exact ⟨rs, h1, h2.kept (grownBy_setCell' W B u') (.inr (hB.not_row (by decide) h2).symm), fun i hi => World.ownsRow.kept (h3 i hi) (grownBy_setCell' W B u') (.inr (hB.not_row (by decide) (h3 i hi)).symm), h4⟩

set_option maxHeartbeats 4000000 in
theorem nearRule_any (n s : Int) (w : World) :
    Calls Try.prog 29 #[(.agg #[.int .i64 (n), .int .i64 (s)])] w (RowsPost (ruleF n s) w) := by
  by_cases ht : tok n s = true
  · obtain ⟨N, S, rfl, rfl, hN⟩ := tokN_of ht
    obtain ⟨b1, b2, b3, b4, _⟩ := tokN_bd hN
    
    rw [ruleF_yes hN]
    have hst := fun m hm Bt n₀ w => nearRows_stops m hm Bt n₀ N S hN w
    have HR : Hid (rowsI N S = (rowsN N S).map rowI) := rfl
    clear hN
    refine (callsIn_wide (n := 6)).1 ?_
    refine callsIn_of_wp_marks Try.func29 rfl trivial ?_ rfl
    simp only [Try.ntmps29, List.size_toArray, List.length_cons, List.length_nil, Nat.reduceAdd, Nat.reduceSub, Array.replicate_succ, Array.replicate_zero, List.push_toArray, List.append_toArray, List.nil_append, List.cons_append]
    gi_wp2_with fail
    refine ⟨trivial, (callsIn_wide.2 (turnOk_any _ _ _)).mono ?_⟩; rintro e w1 ⟨rfl, hb1⟩
    rw [ht]
    have hz1 := hb1.size
    simp at hz1
    have t1 : Two w1 w.heap.size (.int .i64 N) (.int .i64 S) 24 := Two.below (Two.new _ _ _ _) hb1 (by simp)
    have hlt1 := t1.lt
    have t1c := t1.cell0
    have t1d := t1.cell1
    have hB1 : Below w.heap.size w w1 := (by repeat (first | exact Below.refl _ _ | assumption | (refine Below.trans ?_ (Below.mono (by assumption) (by first | omega | (simp <;> omega)))) | (refine Below.alloc ?_ (by first | omega | (simp <;> omega)) _) | (refine below_drewN ?_ _) | (refine Below.drew ?_) | (refine Below.setCell ?_ (by first | omega | (simp <;> omega)) _)))
    gi_wp2_with fail
    refine ⟨trivial, (callsIn_wide.2 (nearRows_any _ _ _)).mono ?_⟩; rintro e w2 ⟨rfl, rfl⟩
    gi_wp2_with fail
    have bR := (Boxed.new w1 31 (.slice none 0 0)).alloc (.cells #[.int .i64 (N : Int), .int .i64 (S : Int)] 24)
    have bT := Two.new (w1.alloc (.cells #[.slice none 0 0] 31)) (.int .i64 (N : Int)) (.int .i64 (S : Int)) 24
    have hB0 : Below w.heap.size w ((w1.alloc (.cells #[.slice none 0 0] 31)).alloc (.cells #[.int .i64 (N : Int), .int .i64 (S : Int)] 24)) := (hB1.alloc (by omega) _).alloc (by simp; omega) _
    have hsz : ((w1.alloc (.cells #[.slice none 0 0] 31)).alloc (.cells #[.int .i64 (N : Int), .int .i64 (S : Int)] 24)).heap.size = w1.heap.size + 2 := by simp
    rw [World.size_alloc] at bT
    obtain ⟨W0, hW0⟩ : ∃ W0, ((w1.alloc (.cells #[.slice none 0 0] 31)).alloc (.cells #[.int .i64 (N : Int), .int .i64 (S : Int)] 24)) = W0 := ⟨_, rfl⟩
    rw [hW0] at bR bT hB0 hsz ⊢
    clear hW0 t1 t1c t1d hB1 hb1
    refine wpIn_rangeFunc_ownH rfl (by omega) (gf := 62) (lb := #[.pointer (some ⟨w1.heap.size + 1, 0, none⟩)]) rfl trivial (enters_of Try.func62 (by kernel_rfl) rfl)
      (hst 5 (by omega) (w1.heap.size + 1) w.heap.size W0 (by omega) bT.cell0 bT.cell1) belowK_t (belowK_b (by omega)) (Below.refl _ _) (fun _ => rfl)
      (fun pre W => (∃ v, Boxed W w1.heap.size 31 v ∧ OwnLL W W0.heap.size v (pre.map rowI)) ∧ Below w.heap.size w W ∧ W0.heap.size ≤ W.heap.size)
      (fun _ _ _ => False)
      (OwnFrom.and (Own.from (fun s A B row hs hg hr => by obtain ⟨v, h1, h2⟩ := hs; exact ⟨v, cells_nc h1 hg hr, h2.nc hg hr⟩) _) (OwnFrom.and (ownFrom_below (Nat.le_refl _) (by omega)) (fun s A B row hs hg hr => Nat.le_trans hs hg.size)))
      (fun _ _ _ _ _ hs _ _ => hs)
      ⟨⟨_, bR, OwnLL.nil _ _⟩, hB0, Nat.le_refl _⟩
      (fun x a' W => ∃ Bx, W0.heap.size ≤ Bx ∧ FourAt W Bx x ∧ a' = { tmps := #[.agg #[.int .i64 N, .int .i64 S], .pointer (some ⟨w.heap.size, 0, none⟩), .slice none 0 0, .pointer (some ⟨w1.heap.size, 0, none⟩), .pointer (some ⟨Bx, 0, none⟩), .agg #[.int .i64 N, .int .i64 S], .bool true, .bool false, .agg #[.int .i64 N, .int .i64 S], .func (.func 62) #[] #[.pointer (some ⟨w1.heap.size + 1, 0, none⟩)], .agg #[.int .i64 (x.p : Int), .int .i64 (x.a : Int), .int .i64 (x.q : Int), .int .i64 (x.b : Int)], undef, undef, undef, undef, undef, undef], defers := [] })
      (fun x a' _ X Y row hs hg hr => by obtain ⟨Bx, h1, h2, h3⟩ := hs; exact ⟨Bx, h1, cells_nc h2 hg (fun r e => (hr r e).2), h3⟩)
      ?assign ?body ?done ?stop
    case assign =>
      rintro l pre x W K ⟨⟨v, bv, ho⟩, hB, hsw⟩ hK
      dsimp only [encR]
      gi_wp2
      exact hK _ _ ((KeepsOthers.alloc _ _).from _) ((Below.refl _ W).alloc (by omega) _) ⟨⟨v, bv.alloc _, ho.below ((Below.refl _ W).alloc (Nat.le_refl _) _)⟩, hB.alloc (by omega) _, by simp; omega⟩ ⟨W.heap.size, hsw, heap_alloc_new W _, rfl⟩
    case body =>
      rintro l pre x a' W hl ⟨r, hr⟩ ⟨⟨v, bv, ho⟩, hB, hsw⟩ ⟨Bx, hBx, h4, rfl⟩ hlt
      have hd : 1 ≤ 6 - 1 - 1 := by omega
      have hmx : Try.prog.follows .mixedOrders = true := by kernel_rfl
      have cv := bv.cell
      have fv := bv.frozen
      have hxl := Below.refl W.heap.size W
      have hcl : Calls Try.prog 49 #[.slice (some ⟨Bx, 0, none⟩) 4 4] W.drew fun e w' => ∃ g5 c5, e = .returned (.slice (some ⟨g5, 0, none⟩) 4 c5) ∧ OwnL w' W.heap.size (.slice (some ⟨g5, 0, none⟩) 4 c5) (rowI x) ∧ Below W.heap.size W w' := by
        refine (clone_any Bx 0 4 4 (rowI x) W.drew rfl (by omega) (fun j hj => ?_)).mono ?_
        · rw [Nat.zero_add]
          have hc := cell_of_row W.drew Bx j _ _ _ (show W.drew.heap[Bx]? = _ from h4)
          rw [hc]
          match j, hj with
          | 0, _ => rfl
          | 1, _ => rfl
          | 2, _ => rfl
          | 3, _ => rfl
        · rintro e w' ⟨v', rfl, h1, h2⟩
          obtain ⟨g5, c5, rfl, _, _⟩ := World.ownsRow.form (n := 4) h1 (by omega)
          exact ⟨g5, c5, rfl, h1, (hxl.drew).trans h2⟩
      clear hxl
      have HL : Hid ((pre.map rowI).length = pre.length) := List.length_map _
      gi_wp2
      refine wpIn_region_any hmx ?_
      change wpAnyIn _ _ _ _ _ _ _ _ _ (World.drew _)
      refine wpAnyIn_ready (rs := [0, 1]) (by kernel_rfl) (by simp) (AllReadyIn.cons rfl (fun K hK => ?_) (AllReadyIn.cons rfl (fun K hK => ?_) AllReadyIn.nil))
      · go_simp
        refine hK _ _ ?_
        clear hK K
        refine wpAnyIn_ready (rs := [1]) (by kernel_rfl) (by simp) (AllReadyIn.cons rfl (fun K hK => ?_) AllReadyIn.nil)
        go_simp
        refine hK _ _ ?_
        clear hK K
        refine wpAnyIn_ready (rs := [2]) (by kernel_rfl) (by simp) (AllReadyIn.cons rfl (fun K hK => ?_) AllReadyIn.nil)
        go_simp
        refine ⟨trivial, (CallsIn.inRound l (callsIn_wide.2 hcl)).mono ?_⟩
        rintro e w' ⟨g5, c5, rfl, ho5, hb5⟩
        have bv5 : Boxed w' w1.heap.size 31 v := (hb5.block _ bv.lt).trans bv
        have cv5 := bv5.cell
        refine hK _ _ ?_
        clear hK K
        refine wpAnyIn_ready (rs := [3]) (by kernel_rfl) (by simp) (AllReadyIn.cons rfl (fun K hK => ?_) AllReadyIn.nil)
        go_simp
        have cvA := (bv5.alloc (.cells #[.slice (some ⟨g5, 0, none⟩) 4 c5] 26)).cell
        refine hK _ _ ?_
        clear hK K
        refine wpAnyIn_ready (rs := [4]) (by kernel_rfl) (by simp) (AllReadyIn.cons rfl (fun K hK => ?_) AllReadyIn.nil)
        have hbA : Below W.heap.size W (w'.alloc (.cells #[.slice (some ⟨g5, 0, none⟩) 4 c5] 26)) := hb5.alloc hb5.size _
        refine step_row_in rfl _ _ rfl W0.heap.size v (pre.map rowI) pre.length HL (by omega) rfl ho hbA hsw (OwnL.below ho5 ((Below.refl _ _).alloc (Nat.le_refl _) _)) w'.heap.size 1 rfl (heap_alloc_new w' _) ?_
        intro g6 c6 w6 ho6 hb6 hk6
        have bv6 : Boxed w6 w1.heap.size 31 v := (hb6.block _ (by omega)).trans (bv5.alloc _)
        have cv6 := bv6.cell
        have fv6 := bv6.frozen
        refine hK _ _ ?_
        clear hK K
        refine wpAnyIn_ready (rs := [5]) (by kernel_rfl) (by simp) (AllReadyIn.cons rfl (fun K hK => ?_) AllReadyIn.nil)
        go_simp
        refine hK _ _ ?_
        clear hK K
        refine wpAnyIn_done (by kernel_rfl) ?_ _
        have hKF : KeepsFrom W0.heap.size W (w6.setCell ⟨w1.heap.size, 0, none⟩ (.slice (some ⟨g6, 0, none⟩) (pre.length + 1) c6)) := ⟨by have h1 := hbA.size; have h2 := hk6.size; simp; omega, fun k o hB hk ho => (KeepsOthers.setCell w6 ⟨w1.heap.size, 0, none⟩ _).same k o (hk6.same k o ((hbA.block k (Array.getElem?_eq_some_iff.1 hk).1).trans hk) ho) ho⟩
        exact ⟨hKF, ((hbA.mono hB.size).trans (hb6.mono (by omega))).setCell (p := ⟨w1.heap.size, 0, none⟩) (by simp; omega) _, ⟨⟨_, bv6.set _, by rw [List.map_append]; exact OwnLL.setBox ho6 bv6 _⟩, (hB.trans ((hbA.mono hB.size).trans (hb6.mono (by omega)))).setCell (p := ⟨w1.heap.size, 0, none⟩) (by simp; omega) _, by have h1 := hbA.size; have h2 := hk6.size; simp; omega⟩⟩
      · go_simp
        refine hK _ _ ?_
        clear hK K
        refine wpAnyIn_ready (rs := [0, 2]) (by kernel_rfl) (by simp) (AllReadyIn.cons rfl (fun K hK => ?_) (AllReadyIn.cons rfl (fun K hK => ?_) AllReadyIn.nil))
        · go_simp
          refine hK _ _ ?_
          clear hK K
          refine wpAnyIn_ready (rs := [2]) (by kernel_rfl) (by simp) (AllReadyIn.cons rfl (fun K hK => ?_) AllReadyIn.nil)
          go_simp
          refine ⟨trivial, (CallsIn.inRound l (callsIn_wide.2 hcl)).mono ?_⟩
          rintro e w' ⟨g5, c5, rfl, ho5, hb5⟩
          have bv5 : Boxed w' w1.heap.size 31 v := (hb5.block _ bv.lt).trans bv
          have cv5 := bv5.cell
          refine hK _ _ ?_
          clear hK K
          refine wpAnyIn_ready (rs := [3]) (by kernel_rfl) (by simp) (AllReadyIn.cons rfl (fun K hK => ?_) AllReadyIn.nil)
          go_simp
          have cvA := (bv5.alloc (.cells #[.slice (some ⟨g5, 0, none⟩) 4 c5] 26)).cell
          refine hK _ _ ?_
          clear hK K
          refine wpAnyIn_ready (rs := [4]) (by kernel_rfl) (by simp) (AllReadyIn.cons rfl (fun K hK => ?_) AllReadyIn.nil)
          have hbA : Below W.heap.size W (w'.alloc (.cells #[.slice (some ⟨g5, 0, none⟩) 4 c5] 26)) := hb5.alloc hb5.size _
          refine step_row_in rfl _ _ rfl W0.heap.size v (pre.map rowI) pre.length HL (by omega) rfl ho hbA hsw (OwnL.below ho5 ((Below.refl _ _).alloc (Nat.le_refl _) _)) w'.heap.size 1 rfl (heap_alloc_new w' _) ?_
          intro g6 c6 w6 ho6 hb6 hk6
          have bv6 : Boxed w6 w1.heap.size 31 v := (hb6.block _ (by omega)).trans (bv5.alloc _)
          have cv6 := bv6.cell
          have fv6 := bv6.frozen
          refine hK _ _ ?_
          clear hK K
          refine wpAnyIn_ready (rs := [5]) (by kernel_rfl) (by simp) (AllReadyIn.cons rfl (fun K hK => ?_) AllReadyIn.nil)
          go_simp
          refine hK _ _ ?_
          clear hK K
          refine wpAnyIn_done (by kernel_rfl) ?_ _
          have hKF : KeepsFrom W0.heap.size W (w6.setCell ⟨w1.heap.size, 0, none⟩ (.slice (some ⟨g6, 0, none⟩) (pre.length + 1) c6)) := ⟨by have h1 := hbA.size; have h2 := hk6.size; simp; omega, fun k o hB hk ho => (KeepsOthers.setCell w6 ⟨w1.heap.size, 0, none⟩ _).same k o (hk6.same k o ((hbA.block k (Array.getElem?_eq_some_iff.1 hk).1).trans hk) ho) ho⟩
          exact ⟨hKF, ((hbA.mono hB.size).trans (hb6.mono (by omega))).setCell (p := ⟨w1.heap.size, 0, none⟩) (by simp; omega) _, ⟨⟨_, bv6.set _, by rw [List.map_append]; exact OwnLL.setBox ho6 bv6 _⟩, (hB.trans ((hbA.mono hB.size).trans (hb6.mono (by omega)))).setCell (p := ⟨w1.heap.size, 0, none⟩) (by simp; omega) _, by have h1 := hbA.size; have h2 := hk6.size; simp; omega⟩⟩
        · go_simp
          refine ⟨trivial, (CallsIn.inRound l (callsIn_wide.2 hcl)).mono ?_⟩
          rintro e w' ⟨g5, c5, rfl, ho5, hb5⟩
          have bv5 : Boxed w' w1.heap.size 31 v := (hb5.block _ bv.lt).trans bv
          have cv5 := bv5.cell
          refine hK _ _ ?_
          clear hK K
          refine wpAnyIn_ready (rs := [0, 3]) (by kernel_rfl) (by simp) (AllReadyIn.cons rfl (fun K hK => ?_) (AllReadyIn.cons rfl (fun K hK => ?_) AllReadyIn.nil))
          · go_simp
            refine hK _ _ ?_
            clear hK K
            refine wpAnyIn_ready (rs := [3]) (by kernel_rfl) (by simp) (AllReadyIn.cons rfl (fun K hK => ?_) AllReadyIn.nil)
            go_simp
            have cvA := (bv5.alloc (.cells #[.slice (some ⟨g5, 0, none⟩) 4 c5] 26)).cell
            refine hK _ _ ?_
            clear hK K
            refine wpAnyIn_ready (rs := [4]) (by kernel_rfl) (by simp) (AllReadyIn.cons rfl (fun K hK => ?_) AllReadyIn.nil)
            have hbA : Below W.heap.size W (w'.alloc (.cells #[.slice (some ⟨g5, 0, none⟩) 4 c5] 26)) := hb5.alloc hb5.size _
            refine step_row_in rfl _ _ rfl W0.heap.size v (pre.map rowI) pre.length HL (by omega) rfl ho hbA hsw (OwnL.below ho5 ((Below.refl _ _).alloc (Nat.le_refl _) _)) w'.heap.size 1 rfl (heap_alloc_new w' _) ?_
            intro g6 c6 w6 ho6 hb6 hk6
            have bv6 : Boxed w6 w1.heap.size 31 v := (hb6.block _ (by omega)).trans (bv5.alloc _)
            have cv6 := bv6.cell
            have fv6 := bv6.frozen
            refine hK _ _ ?_
            clear hK K
            refine wpAnyIn_ready (rs := [5]) (by kernel_rfl) (by simp) (AllReadyIn.cons rfl (fun K hK => ?_) AllReadyIn.nil)
            go_simp
            refine hK _ _ ?_
            clear hK K
            refine wpAnyIn_done (by kernel_rfl) ?_ _
            have hKF : KeepsFrom W0.heap.size W (w6.setCell ⟨w1.heap.size, 0, none⟩ (.slice (some ⟨g6, 0, none⟩) (pre.length + 1) c6)) := ⟨by have h1 := hbA.size; have h2 := hk6.size; simp; omega, fun k o hB hk ho => (KeepsOthers.setCell w6 ⟨w1.heap.size, 0, none⟩ _).same k o (hk6.same k o ((hbA.block k (Array.getElem?_eq_some_iff.1 hk).1).trans hk) ho) ho⟩
            exact ⟨hKF, ((hbA.mono hB.size).trans (hb6.mono (by omega))).setCell (p := ⟨w1.heap.size, 0, none⟩) (by simp; omega) _, ⟨⟨_, bv6.set _, by rw [List.map_append]; exact OwnLL.setBox ho6 bv6 _⟩, (hB.trans ((hbA.mono hB.size).trans (hb6.mono (by omega)))).setCell (p := ⟨w1.heap.size, 0, none⟩) (by simp; omega) _, by have h1 := hbA.size; have h2 := hk6.size; simp; omega⟩⟩
          · go_simp
            have cvA := (bv5.alloc (.cells #[.slice (some ⟨g5, 0, none⟩) 4 c5] 26)).cell
            refine hK _ _ ?_
            clear hK K
            refine wpAnyIn_ready (rs := [0]) (by kernel_rfl) (by simp) (AllReadyIn.cons rfl (fun K hK => ?_) AllReadyIn.nil)
            go_simp
            refine hK _ _ ?_
            clear hK K
            refine wpAnyIn_ready (rs := [4]) (by kernel_rfl) (by simp) (AllReadyIn.cons rfl (fun K hK => ?_) AllReadyIn.nil)
            have hbA : Below W.heap.size W (w'.alloc (.cells #[.slice (some ⟨g5, 0, none⟩) 4 c5] 26)) := hb5.alloc hb5.size _
            refine step_row_in rfl _ _ rfl W0.heap.size v (pre.map rowI) pre.length HL (by omega) rfl ho hbA hsw (OwnL.below ho5 ((Below.refl _ _).alloc (Nat.le_refl _) _)) w'.heap.size 1 rfl (heap_alloc_new w' _) ?_
            intro g6 c6 w6 ho6 hb6 hk6
            have bv6 : Boxed w6 w1.heap.size 31 v := (hb6.block _ (by omega)).trans (bv5.alloc _)
            have cv6 := bv6.cell
            have fv6 := bv6.frozen
            refine hK _ _ ?_
            clear hK K
            refine wpAnyIn_ready (rs := [5]) (by kernel_rfl) (by simp) (AllReadyIn.cons rfl (fun K hK => ?_) AllReadyIn.nil)
            go_simp
            refine hK _ _ ?_
            clear hK K
            refine wpAnyIn_done (by kernel_rfl) ?_ _
            have hKF : KeepsFrom W0.heap.size W (w6.setCell ⟨w1.heap.size, 0, none⟩ (.slice (some ⟨g6, 0, none⟩) (pre.length + 1) c6)) := ⟨by have h1 := hbA.size; have h2 := hk6.size; simp; omega, fun k o hB hk ho => (KeepsOthers.setCell w6 ⟨w1.heap.size, 0, none⟩ _).same k o (hk6.same k o ((hbA.block k (Array.getElem?_eq_some_iff.1 hk).1).trans hk) ho) ho⟩
            exact ⟨hKF, ((hbA.mono hB.size).trans (hb6.mono (by omega))).setCell (p := ⟨w1.heap.size, 0, none⟩) (by simp; omega) _, ⟨⟨_, bv6.set _, by rw [List.map_append]; exact OwnLL.setBox ho6 bv6 _⟩, (hB.trans ((hbA.mono hB.size).trans (hb6.mono (by omega)))).setCell (p := ⟨w1.heap.size, 0, none⟩) (by simp; omega) _, by have h1 := hbA.size; have h2 := hk6.size; simp; omega⟩⟩
    case done =>
      rintro D ys W hD rfl ⟨⟨v, bv, ho⟩, hB, hsw⟩ hK
      have cv := bv.cell
      rw [← HR.out] at ho
      gi_wp2
      refine ⟨by simp, .inl ⟨_, _, rfl, run_takeDeferred hK, ?_⟩⟩
      exact ⟨_, results_tmp rfl _ _ _, v, rfl, (ho.nc (grownBy_putObj' W D (.deferred none)) (fun r e => by cases e; exact ⟨_, hK, rfl⟩)).mono (by omega), hB.trans (belowK_b (w := w) (Nat.le_refl _) W D _ _ (by omega) hK rfl rfl)⟩
    case stop =>
      rintro D c pre W _ _ h _
      exact h.elim
  · 
    rw [ruleF_no ht]
    have ht' : tok n s = false := by simpa using ht
    go_enter Try.func29, Try.ntmps29
    go_wp2_with fail
    refine (turnOk_any _ _ _).mono ?_; rintro e w1 ⟨rfl, hb1⟩
    have hz1 := hb1.size
    try simp at hz1
    have t1 : Two w1 (w.heap.size) (.int .i64 n) (.int .i64 s) 24 := Two.below (by repeat (first | assumption | exact Two.new' _ _ _ _ _ (by simp) | refine Two.alloc ?_ _ | refine Two.drewN ?_ _)) hb1 (by first | omega | (simp <;> omega))
    have hlt1 : (w.heap.size) < w1.heap.size := t1.lt
    have hnt1 : ¬ (w.heap.size) = w1.heap.size := Nat.ne_of_lt hlt1
    have t1c := t1.cell0
    have t1d := t1.cell1
    rw [ht']
    go_wp2
    go_ret
    exact ⟨_, rfl, OwnLL.nil _ _, (by repeat (first | exact Below.refl _ _ | assumption | (refine Below.trans ?_ (Below.mono (by assumption) (by first | omega | (simp <;> omega)))) | (refine Below.alloc ?_ (by first | omega | (simp <;> omega)) _) | (refine below_drewN ?_ _) | (refine Below.drew ?_) | (refine Below.setCell ?_ (by first | omega | (simp <;> omega)) _)))⟩
end Go.Proofs.Ytejofckfnieolaa
