/- Contract of NextDigits of the program: the digits are copied, and one is carried from below. -/
import Derived.Test.YtdkmghbbnkppcaaOkI
import Derived.Test.YtdkmghbbnkppcaaCarry
import Derived.Test.YtdkmghbbnkppcaaClone
import Derived.Deep.Cut
import Derived.Deep.CutRange
import Derived.Deep.RegionHeld3
import Derived.BigQuiet
set_option linter.unusedVariables false
namespace Go.Proofs.Ytdkmghbbnkppcaa

set_option maxRecDepth 4000
open Go.ChangeShapes Go.WideShapes Go.ChangeAt Go.RowKit Go.Joins

/-- the copy and the greatest digits lie ready -/
structure ReadyX (D : List Int) (M : Nat → Nat) (m : Nat) (w W : World) (g c gM oM : Nat) : Prop where
  row : ∃ cur, RowAt W g cur ∧ cur.size = c ∧ ∀ i, i < m → cur[i]? = some (.int .i64 (D.getD i 0))
  at0 : w.heap.size ≤ g
  most : ∀ i, i < m → W.cell? ⟨gM, oM + i, none⟩ = some (.int .i64 ((M i : Nat) : Int))
  ne : gM ≠ g
  cap : m ≤ c
  max : c ≤ maxLen
  b : Below w.heap.size w W

def nxL (D : List Int) (m p : Nat) : List Int := (List.range m).map fun i => if i < p then 0 else if i = p then D.getD i 0 + 1 else D.getD i 0

theorem nxL_len (D : List Int) (m p : Nat) : (nxL D m p).length = m := by simp [nxL]

theorem nxL_get (D : List Int) (m p i : Nat) (h : i < m) : (nxL D m p).getD i 0 = if i < p then 0 else if i = p then D.getD i 0 + 1 else D.getD i 0 := by
  simp [nxL, List.getD_eq_getElem?_getD, h]

set_option maxHeartbeats 8000000 in
theorem nextDigits_any (n s : Int) (v : Value) (D : List Int) (w : World) (hv : Reads w v D) (hD : D.length ≤ 2000000) :
    Calls Try.prog 43 #[(.agg #[.int .i64 (n), .int .i64 (s)]), v] w (NextPost n s D w) := by
  have hv0 : Reads (w.alloc (.cells #[.int .i64 n, .int .i64 s] 24)) v D := hv.below ((Below.refl _ _).alloc (Nat.le_refl _) _)
  have hok := Lib.hid (digitsOk_any n s v D _ hv0 hD)
  
  unfold NextPost
  cases ho : okF n s D with
  | false =>
    have hp : nextP n s D = false := by unfold nextP; rw [numF_no ho]; rfl
    have hf : nextF n s D = [] := by unfold nextF; rw [hp]; rfl
    rw [hp, hf]
    rw [ho] at hok
    clear hv0 hv
    go_enter Try.func43, Try.ntmps43
    go_wp2_with fail
    refine (hok.out).mono ?_; rintro e w1 ⟨rfl, hb1⟩
    have hz1 := hb1.size
    try simp at hz1
    have t1 : Two w1 (w.heap.size) (.int .i64 n) (.int .i64 s) 24 := Two.below (by repeat (first | assumption | exact Two.new' _ _ _ _ _ (by simp) | refine Two.alloc ?_ _ | refine Two.drewN ?_ _)) hb1 (by first | omega | (simp <;> omega))
    have hlt1 : (w.heap.size) < w1.heap.size := t1.lt
    have hnt1 : ¬ (w.heap.size) = w1.heap.size := Nat.ne_of_lt hlt1
    have t1c := t1.cell0
    have t1d := t1.cell1
    go_wp2
    refine bodyPost_ret (v := .tuple #[.slice none 0 0, .bool false]) (by simp [results, Try.results43, go_sem]) rfl ?_
    exact ⟨_, rfl, World.ownsRow_nil _ _ _ _, (by repeat (first | exact Below.refl _ _ | assumption | (refine Below.trans ?_ (Below.mono (by assumption) (by first | omega | (simp <;> omega)))) | (refine Below.alloc ?_ (by first | omega | (simp <;> omega)) _) | (refine below_drewN ?_ _) | (refine Below.drew ?_) | (refine Below.setCell ?_ (by first | omega | (simp <;> omega)) _)))⟩
  | true =>
    rw [ho] at hok
    have ht := ok_tok ho
    obtain ⟨N, S, rfl, rfl, hN⟩ := tokN_of ht
    
    obtain ⟨m1, m8, ml, hsc, m60, _⟩ := bas_facts hN
    obtain ⟨hlD, hD0, hOk⟩ := (okF_iff hN).1 ho
    have hmost := mostDigits_any (N : Int) (S : Int)
    rw [mostF_yes hN] at hmost
    have HMost := Lib.hid hmost
    have HMG : Hid (∀ i, (castL (mostN N S)).getD i 0 = ((mostAt N S i : Nat) : Int)) := fun i => by rw [castL_getD]; rfl
    have HML : Hid ((castL (mostN N S)).length = bmN N S) := by show _ = _; rw [castL_len]; exact ml
    have HIs := Lib.hid (fun p c hp hx E hE hv => next_is (N := N) (S := S) (p := p) (D := D) (E := E) hN ho c hp hx hE hv)
    have HNone := Lib.hid (fun c => next_none (N := N) (S := S) (D := D) hN ho c)
    have HSc := Lib.hid hsc
    have HOk := Lib.hid hOk
    have HDd : Hid (∀ i, i < bmN N S → D.getD i 0 = ((dAt D i : Nat) : Int)) := fun i hi => by have := hD0 i hi; unfold dAt; omega
    have HD60 : Hid (∀ i, i < bmN N S → dAt D i ≤ 60) := fun i hi => by have a := hOk.1 i hi; have b := m60 i hi; omega
    have hlD' := Lib.hid hlD
    obtain ⟨a, cap, rfl, hcells⟩ := hv0.cells hlD
    obtain ⟨g, off, rfl, HD⟩ := hcells (by omega)
    have lgD := World.block_lt_of_cell? _ _ (HD.out 0 (by omega))
    generalize mostN N S = MN at *
    generalize mostAt N S = M at *
    generalize basAt N S = B at *
    generalize bmN N S = m at *
    generalize dAt D = d at *
    generalize nextP (N : Int) (S : Int) D = nP at *
    generalize nextF (N : Int) (S : Int) D = nF at *
    clear hmost hsc hOk hD0 m60 hlD hv0 hv hcells ho ht hN ml hD
    go_enter Try.func43, Try.ntmps43
    go_wp2_with fail
    refine (hok.out).mono ?_; rintro e w1 ⟨rfl, hb1⟩
    have hz1 := hb1.size
    try simp at hz1
    have t1 : Two w1 (w.heap.size) (.int .i64 N) (.int .i64 S) 24 := Two.below (by repeat (first | assumption | exact Two.new' _ _ _ _ _ (by simp) | refine Two.alloc ?_ _ | refine Two.drewN ?_ _)) hb1 (by first | omega | (simp <;> omega))
    have hlt1 : (w.heap.size) < w1.heap.size := t1.lt
    have hnt1 : ¬ (w.heap.size) = w1.heap.size := Nat.ne_of_lt hlt1
    have t1c := t1.cell0
    have t1d := t1.cell1
    have HD1 : Hid (∀ i, i < m → w1.cell? ⟨g, off + i, none⟩ = some (.int .i64 (D.getD i 0))) := fun i hi => (hb1.cell (p := ⟨g, off + i, none⟩) lgD).trans (HD.out i hi)
    have lg1 : g < w1.heap.size := Nat.lt_of_lt_of_le lgD hb1.size
    have HDD : Hid (∀ W', Below w1.heap.size w1 W' → ∀ i, i < m → W'.cell? ⟨g, off + i, none⟩ = some (.int .i64 (D.getD i 0))) := fun W' hW i hi => (hW.cell (p := ⟨g, off + i, none⟩) lg1).trans (HD1.out i hi)
    have hB1 : Below w.heap.size w w1 := (by repeat (first | exact Below.refl _ _ | assumption | (refine Below.trans ?_ (Below.mono (by assumption) (by first | omega | (simp <;> omega)))) | (refine Below.alloc ?_ (by first | omega | (simp <;> omega)) _) | (refine below_drewN ?_ _) | (refine Below.drew ?_) | (refine Below.setCell ?_ (by first | omega | (simp <;> omega)) _)))
    have hR1 := Below.refl w1.heap.size w1
    clear hok HD HD1 hb1
    go_upto_region 3 with fail
    go_cut [6, 7] from 9 (fun v6 v7 wx => ∃ g6 c6 gM oM cM, v6 = .slice (some ⟨g6, 0, none⟩) m c6 ∧ v7 = .slice (some ⟨gM, oM, none⟩) m cM ∧ ReadyX D M m w wx g6 c6 gM oM)
    case first =>
      go_region_held3 (fun w' => w'.cell? ⟨w.heap.size, 0, none⟩ = some (.int .i64 N) ∧ w'.cell? ⟨w.heap.size, 1, none⟩ = some (.int .i64 S))
        (first | go_keep | exact ⟨tMc, tMd⟩ | exact ⟨tCc, tCd⟩)
        (first
          | (go_at_call 72; refine (clone_any g off m cap D _ hlD'.out (by omega) (fun j hj => by first | exact HDD.out _ (below_drewN hR1 1) j hj | exact HDD.out _ ((below_drewN hR1 1).trans hbM) j hj)).mono ?_; rintro e wC ⟨vC, rfl, hoC, hbC⟩; obtain ⟨gC, cC, curC, rfl, hgC, hrC, hsC, hnC, hmC, hcC⟩ := hoC.rowI (N := m) hlD'.out (by omega); have zC := hbC.size; (try simp at zC); have t' := Two.below (b := w.heap.size) (x := .int .i64 N) (y := .int .i64 S) (T := 24) (by repeat (first | assumption | refine Two.drew1 ?_)) hbC (by first | omega | (simp <;> omega)); have tCc := t'.cell0; have tCd := t'.cell1)
          | (go_at_call 29; refine (HMost.out _).mono ?_; rintro e wM ⟨vM, rfl, hoM, hbM⟩; obtain ⟨gM, oM, cM, rfl, hgM, lgM, hnM, hcM⟩ := hoM.cells (N := m) HML.out (by omega); have zM := hbM.size; (try simp at zM); have t' := Two.below (b := w.heap.size) (x := .int .i64 N) (y := .int .i64 S) (T := 24) (by repeat (first | assumption | refine Two.drew1 ?_)) hbM (by first | omega | (simp <;> omega)); have tMc := t'.cell0; have tMd := t'.cell1))
      · have hr : ReadyX D M m w wM gC cC gM oM := ⟨⟨curC, hrC.below hbM hrC.lt, hsC, hcC⟩, by simp at hgC; omega, fun i hi => by rw [hcM i hi, HMG.out i], by have := hrC.lt; omega, hnC, hmC, (hB1.trans (((below_drewN hR1 1).trans hbC).mono (by omega))).trans (hbM.mono (by omega))⟩
        go_wp2_with fail
        go_meet
        exact ⟨_, _, _, _, _, rfl, rfl, hr⟩
    case rest =>
      obtain ⟨g6, c6, gM, oM, cM, rfl, rfl, hr⟩ := hcut
      obtain ⟨⟨cur, hrow, hcs, hcv⟩, hat, hmo, hne, hcap, hmax, hB⟩ := hr
      have HCV := Lib.hid hcv
      have HMO := Lib.hid hmo
      have c0 := (hrow.cell 0).trans (hcv 0 (by omega))
      have c1 := hmo 0 (by omega)
      rw [HDd.out 0 (by omega)] at c0
      rw [Nat.add_zero] at c1
      have lg6 := hrow.lt
      have f0 := hrow.free 0
      have hm0 : (0 : Int) < (m : Int) := by omega
      clear hcv hmo hB1 hR1 HDD t1 t1c t1d
      by_cases h0 : d 0 = M 0
      · have HK : Hid (Carry B M d m 1) := carry_one HSc.out HOk.out m1 h0
        rw [h0] at c0
        clear h0
        generalize M 0 = M0 at c0 c1
        go_wp2_with fail
        go_quiet (fail)
        have hrow1 : RowAt ((wc.drewN nq).setCell ⟨g6, 0, none⟩ (.int .i64 0)) g6 (cur.setIfInBounds 0 (.int .i64 0)) := RowAt.set (show RowAt (wc.drewN nq) g6 cur from hrow) 0 _
        have hB1 : Below w.heap.size w ((wc.drewN nq).setCell ⟨g6, 0, none⟩ (.int .i64 0)) := (below_drewN hB nq).setCell (p := ⟨g6, 0, none⟩) hat _
        have hmo1 : Hid (∀ i, i < m → ((wc.drewN nq).setCell ⟨g6, 0, none⟩ (.int .i64 0)).cell? ⟨gM, oM + i, none⟩ = some (.int .i64 ((M i : Nat) : Int))) := fun i hi => (World.cell?_of_block (w := wc.drewN nq) (Below.heap_setCell _ _ _ _ hne)).trans (HMO.out i hi)
        have hcv1 : Hid (∀ i, i < m → (cur.setIfInBounds 0 (.int .i64 0))[i]? = some (.int .i64 (if i < 1 then 0 else D.getD i 0))) := fun i hi => by
          rw [Array.getElem?_setIfInBounds]
          by_cases hi0 : i = 0
          · subst hi0; rw [if_pos rfl, if_pos (by rw [hcs]; omega), if_pos (by omega)]
          · rw [if_neg (fun e => hi0 e.symm), if_neg (by omega)]; exact HCV.out i hi
        have hcs1 : (cur.setIfInBounds 0 (.int .i64 0)).size = c6 := by rw [Array.size_setIfInBounds]; exact hcs
        go_wp2_with fail
        go_loopw [8] (fun x wr => ∃ (p : Nat) (cu : Array Value), x = .int .i64 p ∧ Hid (Carry B M d m p) ∧ p ≤ m ∧ RowAt wr g6 cu ∧ cu.size = c6 ∧ Hid (∀ i, i < m → cu[i]? = some (.int .i64 (if i < p then 0 else D.getD i 0))) ∧ Below w.heap.size w wr ∧ Hid (∀ i, i < m → wr.cell? ⟨gM, oM + i, none⟩ = some (.int .i64 ((M i : Nat) : Int)))) (fun x _ => m - (intOf x).toNat)
        case atStart => exact ⟨1, _, rfl, HK, m1, hrow1, hcs1, hcv1, hB1, hmo1⟩
        case round =>
          obtain ⟨p, cu, rfl, HC, hpm, hro, hsz, hva, hBr, hmr⟩ := hrel
          clear hrow1 hcs1 hcv1 hB1 hmo1 hrow c0 c1 f0 HCV HMO hcs
          have hw1 : IntKind.i64.wrap ((p : Int) + 1) = (p : Int) + 1 := IntWalk.i64_in _ (by omega)
          have hw2 : IntKind.i64.wrap ((p : Int) + 2) = (p : Int) + 2 := IntWalk.i64_in _ (by omega)
          have lgr := hro.lt
          by_cases hp1 : p + 1 < m
          · have hp1' : (p : Int) + 1 < m := by omega
            have ca := (hro.cell (p + 1)).trans (hva.out (p + 1) hp1)
            rw [if_neg (by omega), HDd.out (p + 1) hp1] at ca
            have cb := hmr.out (p + 1) hp1
            have hp0 : (0 : Int) ≤ (p : Int) + 1 := by omega
            by_cases he : d (p + 1) = M (p + 1)
            · obtain ⟨hk2, hz⟩ := carry_step HSc.out HOk.out HC.out hp1 he
              have HK2 := Lib.hid hk2
              have hdz : D.getD p 0 = 0 := by rw [HDd.out p (by omega), hz]; rfl
              rw [he] at ca
              have ff := hro.free (p + 1)
              have hro2 := fun q => RowAt.set (show RowAt (wr.drewN q) g6 cu from hro) (p + 1) (.int .i64 0)
              have hB2 := fun q => (below_drewN hBr q).setCell (p := ⟨g6, p + 1, none⟩) hat (.int .i64 0)
              have hmr2 : Hid (∀ q i, i < m → ((wr.drewN q).setCell ⟨g6, p + 1, none⟩ (.int .i64 0)).cell? ⟨gM, oM + i, none⟩ = some (.int .i64 ((M i : Nat) : Int))) := fun q i hi => (World.cell?_of_block (w := wr.drewN q) (Below.heap_setCell _ _ _ _ hne)).trans (hmr.out i hi)
              have hva2 : Hid (∀ i, i < m → (cu.setIfInBounds (p + 1) (.int .i64 0))[i]? = some (.int .i64 (if i < p + 2 then 0 else D.getD i 0))) := fun i hi => by
                rw [Array.getElem?_setIfInBounds]
                by_cases hi0 : i = p + 1
                · subst hi0; rw [if_pos rfl, if_pos (by rw [hsz]; omega), if_pos (by omega)]
                · rw [if_neg (fun e => hi0 e.symm), hva.out i hi]
                  by_cases q : i < p
                  · rw [if_pos q, if_pos (by omega)]
                  · rw [if_neg q]
                    by_cases r : i = p
                    · subst r; rw [if_pos (by omega), hdz]
                    · rw [if_neg (by omega)]
              have hsz2 : (cu.setIfInBounds (p + 1) (.int .i64 0)).size = c6 := by rw [Array.size_setIfInBounds]; exact hsz
              have HB2 := Lib.hid hB2
              have HRO2 := Lib.hid hro2
              have HSZ2 := Lib.hid hsz2
              generalize M (p + 1) = Mp at ca cb
              clear he hz hdz hk2 hB2 hro2 hsz2
              go_wp2_with fail
              go_quiet (fail)
              go_wp2_with fail
              go_roundw
              case rel => exact ⟨p + 2, _, by go_num, HK2.out, by omega, HRO2.out nq, HSZ2.out, hva2.out, HB2.out nq, hmr2.out nq⟩
              case measure => simp only [intOf]; omega
            · have hee : (((d (p + 1) : Nat) : Int) == ((M (p + 1) : Nat) : Int)) = false := by simp; omega
              have cp := (hro.cell p).trans (hva.out p (by omega))
              rw [if_neg (by omega), HDd.out p (by omega)] at cp
              have d60 := HD60.out p (by omega)
              obtain ⟨e1, e2⟩ := HIs.out p HC.out (by omega) (fun _ => he) (nxL D m p) (nxL_len _ _ _) (fun i hi => nxL_get _ _ _ _ hi)
              subst e1 e2
              have hpe : ((p : Int) == (m : Int)) = false := by simp; omega
              have hpm' : (p : Int) < m := by omega
              have ff := hro.free p
              have hdp := HDd.out p (by omega)
              have hww : IntKind.i64.wrap (((d p : Nat) : Int) + 1) = ((d p : Nat) : Int) + 1 := IntWalk.i64_in _ (by omega)
              have HF : Hid (∀ q, OwnL ((wr.drewN q).setCell ⟨g6, p, none⟩ (.int .i64 (((d p : Nat) : Int) + 1))) w.heap.size (.slice (some ⟨g6, 0, none⟩) m c6) (nxL D m p)) := fun q => by
                have h := RowAt.ownCap (b := w.heap.size) (cap := c6) (xs := nxL D m p) (RowAt.set (show RowAt (wr.drewN q) g6 cu from hro) p (.int .i64 (((d p : Nat) : Int) + 1))) hat hmax (by rw [nxL_len]; exact hcap) (by rw [Array.size_setIfInBounds]; exact hsz) (fun i hi => by
                  rw [nxL_len] at hi
                  rw [nxL_get _ _ _ _ hi, Array.getElem?_setIfInBounds]
                  by_cases hi0 : p = i
                  · subst hi0; rw [if_pos rfl, if_pos (by rw [hsz]; omega), if_neg (by omega), if_pos rfl, hdp]
                  · rw [if_neg hi0, hva.out i hi]
                    by_cases q : i < p
                    · rw [if_pos q, if_pos q]
                    · rw [if_neg q, if_neg q, if_neg (fun e => hi0 e.symm)])
                rwa [nxL_len] at h
              have HBQ := Lib.hid (fun q => (below_drewN hBr q).setCell (p := ⟨g6, p, none⟩) hat (.int .i64 (((d p : Nat) : Int) + 1)))
              generalize d p = dp at *
              clear hdp
              go_wp2_with fail
              go_quiet (fail)
              have hF := HF.out nq
              have hBq := HBQ.out nq
              go_wp2
              refine bodyPost_ret (v := .tuple #[.slice (some ⟨g6, 0, none⟩) m c6, .bool true]) (by simp [results, Try.results43, go_sem]) rfl ?_
              exact ⟨_, rfl, hF, hBq⟩
          · have hp1' : decide ((p : Int) + 1 < m) = false := by simp; omega
            by_cases hpe : p = m
            · subst hpe
              obtain ⟨e1, e2⟩ := HNone.out HC.out
              subst e1 e2
              go_wp2_with fail
              go_quiet (fail)
              have hBq := below_drewN hBr nq
              go_wp2
              refine bodyPost_ret (v := .tuple #[.slice none 0 0, .bool false]) (by simp [results, Try.results43, go_sem]) rfl ?_
              exact ⟨_, rfl, World.ownsRow_nil _ _ _ _, hBq⟩
            · have cp := (hro.cell p).trans (hva.out p (by omega))
              rw [if_neg (by omega), HDd.out p (by omega)] at cp
              have d60 := HD60.out p (by omega)
              obtain ⟨e1, e2⟩ := HIs.out p HC.out (by omega) (fun h => absurd h hp1) (nxL D m p) (nxL_len _ _ _) (fun i hi => nxL_get _ _ _ _ hi)
              subst e1 e2
              have hpe : ((p : Int) == (m : Int)) = false := by simp; omega
              have hpm' : (p : Int) < m := by omega
              have ff := hro.free p
              have hdp := HDd.out p (by omega)
              have hww : IntKind.i64.wrap (((d p : Nat) : Int) + 1) = ((d p : Nat) : Int) + 1 := IntWalk.i64_in _ (by omega)
              have HF : Hid (∀ q, OwnL ((wr.drewN q).setCell ⟨g6, p, none⟩ (.int .i64 (((d p : Nat) : Int) + 1))) w.heap.size (.slice (some ⟨g6, 0, none⟩) m c6) (nxL D m p)) := fun q => by
                have h := RowAt.ownCap (b := w.heap.size) (cap := c6) (xs := nxL D m p) (RowAt.set (show RowAt (wr.drewN q) g6 cu from hro) p (.int .i64 (((d p : Nat) : Int) + 1))) hat hmax (by rw [nxL_len]; exact hcap) (by rw [Array.size_setIfInBounds]; exact hsz) (fun i hi => by
                  rw [nxL_len] at hi
                  rw [nxL_get _ _ _ _ hi, Array.getElem?_setIfInBounds]
                  by_cases hi0 : p = i
                  · subst hi0; rw [if_pos rfl, if_pos (by rw [hsz]; omega), if_neg (by omega), if_pos rfl, hdp]
                  · rw [if_neg hi0, hva.out i hi]
                    by_cases q : i < p
                    · rw [if_pos q, if_pos q]
                    · rw [if_neg q, if_neg q, if_neg (fun e => hi0 e.symm)])
                rwa [nxL_len] at h
              have HBQ := Lib.hid (fun q => (below_drewN hBr q).setCell (p := ⟨g6, p, none⟩) hat (.int .i64 (((d p : Nat) : Int) + 1)))
              generalize d p = dp at *
              clear hdp
              go_wp2_with fail
              go_quiet (fail)
              have hF := HF.out nq
              have hBq := HBQ.out nq
              go_wp2
              refine bodyPost_ret (v := .tuple #[.slice (some ⟨g6, 0, none⟩) m c6, .bool true]) (by simp [results, Try.results43, go_sem]) rfl ?_
              exact ⟨_, rfl, hF, hBq⟩

      · have HK : Hid (Carry B M d m 0) := carry_zero HSc.out h0
        have h0' : (((d 0 : Nat) : Int) == ((M 0 : Nat) : Int)) = false := by simp; omega
        clear h0
        generalize M 0 = M0 at c0 c1 h0'
        generalize d 0 = d0 at c0 h0'
        go_wp2_with fail
        go_quiet (fail)
        have hrow0 : RowAt (wc.drewN nq) g6 cur := hrow
        have hB0 := below_drewN hB nq
        have hmo0 : Hid (∀ i, i < m → (wc.drewN nq).cell? ⟨gM, oM + i, none⟩ = some (.int .i64 ((M i : Nat) : Int))) := HMO.out
        have hcv0 : Hid (∀ i, i < m → cur[i]? = some (.int .i64 (if i < 0 then 0 else D.getD i 0))) := fun i hi => by rw [if_neg (by omega)]; exact HCV.out i hi
        go_wp2_with fail
        go_loopw [8] (fun x wr => ∃ (p : Nat) (cu : Array Value), x = .int .i64 p ∧ Hid (Carry B M d m p) ∧ p ≤ m ∧ RowAt wr g6 cu ∧ cu.size = c6 ∧ Hid (∀ i, i < m → cu[i]? = some (.int .i64 (if i < p then 0 else D.getD i 0))) ∧ Below w.heap.size w wr ∧ Hid (∀ i, i < m → wr.cell? ⟨gM, oM + i, none⟩ = some (.int .i64 ((M i : Nat) : Int)))) (fun x _ => m - (intOf x).toNat)
        case atStart => exact ⟨0, cur, rfl, HK, by omega, hrow0, hcs, hcv0, hB0, hmo0⟩
        case round =>
          obtain ⟨p, cu, rfl, HC, hpm, hro, hsz, hva, hBr, hmr⟩ := hrel
          clear hrow0 hcs hcv0 hB0 hmo0 hrow c0 c1 f0 HCV HMO
          have hw1 : IntKind.i64.wrap ((p : Int) + 1) = (p : Int) + 1 := IntWalk.i64_in _ (by omega)
          have hw2 : IntKind.i64.wrap ((p : Int) + 2) = (p : Int) + 2 := IntWalk.i64_in _ (by omega)
          have lgr := hro.lt
          by_cases hp1 : p + 1 < m
          · have hp1' : (p : Int) + 1 < m := by omega
            have ca := (hro.cell (p + 1)).trans (hva.out (p + 1) hp1)
            rw [if_neg (by omega), HDd.out (p + 1) hp1] at ca
            have cb := hmr.out (p + 1) hp1
            have hp0 : (0 : Int) ≤ (p : Int) + 1 := by omega
            by_cases he : d (p + 1) = M (p + 1)
            · obtain ⟨hk2, hz⟩ := carry_step HSc.out HOk.out HC.out hp1 he
              have HK2 := Lib.hid hk2
              have hdz : D.getD p 0 = 0 := by rw [HDd.out p (by omega), hz]; rfl
              rw [he] at ca
              have ff := hro.free (p + 1)
              have hro2 := fun q => RowAt.set (show RowAt (wr.drewN q) g6 cu from hro) (p + 1) (.int .i64 0)
              have hB2 := fun q => (below_drewN hBr q).setCell (p := ⟨g6, p + 1, none⟩) hat (.int .i64 0)
              have hmr2 : Hid (∀ q i, i < m → ((wr.drewN q).setCell ⟨g6, p + 1, none⟩ (.int .i64 0)).cell? ⟨gM, oM + i, none⟩ = some (.int .i64 ((M i : Nat) : Int))) := fun q i hi => (World.cell?_of_block (w := wr.drewN q) (Below.heap_setCell _ _ _ _ hne)).trans (hmr.out i hi)
              have hva2 : Hid (∀ i, i < m → (cu.setIfInBounds (p + 1) (.int .i64 0))[i]? = some (.int .i64 (if i < p + 2 then 0 else D.getD i 0))) := fun i hi => by
                rw [Array.getElem?_setIfInBounds]
                by_cases hi0 : i = p + 1
                · subst hi0; rw [if_pos rfl, if_pos (by rw [hsz]; omega), if_pos (by omega)]
                · rw [if_neg (fun e => hi0 e.symm), hva.out i hi]
                  by_cases q : i < p
                  · rw [if_pos q, if_pos (by omega)]
                  · rw [if_neg q]
                    by_cases r : i = p
                    · subst r; rw [if_pos (by omega), hdz]
                    · rw [if_neg (by omega)]
              have hsz2 : (cu.setIfInBounds (p + 1) (.int .i64 0)).size = c6 := by rw [Array.size_setIfInBounds]; exact hsz
              have HB2 := Lib.hid hB2
              have HRO2 := Lib.hid hro2
              have HSZ2 := Lib.hid hsz2
              generalize M (p + 1) = Mp at ca cb
              clear he hz hdz hk2 hB2 hro2 hsz2
              go_wp2_with fail
              go_quiet (fail)
              go_wp2_with fail
              go_roundw
              case rel => exact ⟨p + 2, _, by go_num, HK2.out, by omega, HRO2.out nq, HSZ2.out, hva2.out, HB2.out nq, hmr2.out nq⟩
              case measure => simp only [intOf]; omega
            · have hee : (((d (p + 1) : Nat) : Int) == ((M (p + 1) : Nat) : Int)) = false := by simp; omega
              have cp := (hro.cell p).trans (hva.out p (by omega))
              rw [if_neg (by omega), HDd.out p (by omega)] at cp
              have d60 := HD60.out p (by omega)
              obtain ⟨e1, e2⟩ := HIs.out p HC.out (by omega) (fun _ => he) (nxL D m p) (nxL_len _ _ _) (fun i hi => nxL_get _ _ _ _ hi)
              subst e1 e2
              have hpe : ((p : Int) == (m : Int)) = false := by simp; omega
              have hpm' : (p : Int) < m := by omega
              have ff := hro.free p
              have hdp := HDd.out p (by omega)
              have hww : IntKind.i64.wrap (((d p : Nat) : Int) + 1) = ((d p : Nat) : Int) + 1 := IntWalk.i64_in _ (by omega)
              have HF : Hid (∀ q, OwnL ((wr.drewN q).setCell ⟨g6, p, none⟩ (.int .i64 (((d p : Nat) : Int) + 1))) w.heap.size (.slice (some ⟨g6, 0, none⟩) m c6) (nxL D m p)) := fun q => by
                have h := RowAt.ownCap (b := w.heap.size) (cap := c6) (xs := nxL D m p) (RowAt.set (show RowAt (wr.drewN q) g6 cu from hro) p (.int .i64 (((d p : Nat) : Int) + 1))) hat hmax (by rw [nxL_len]; exact hcap) (by rw [Array.size_setIfInBounds]; exact hsz) (fun i hi => by
                  rw [nxL_len] at hi
                  rw [nxL_get _ _ _ _ hi, Array.getElem?_setIfInBounds]
                  by_cases hi0 : p = i
                  · subst hi0; rw [if_pos rfl, if_pos (by rw [hsz]; omega), if_neg (by omega), if_pos rfl, hdp]
                  · rw [if_neg hi0, hva.out i hi]
                    by_cases q : i < p
                    · rw [if_pos q, if_pos q]
                    · rw [if_neg q, if_neg q, if_neg (fun e => hi0 e.symm)])
                rwa [nxL_len] at h
              have HBQ := Lib.hid (fun q => (below_drewN hBr q).setCell (p := ⟨g6, p, none⟩) hat (.int .i64 (((d p : Nat) : Int) + 1)))
              generalize d p = dp at *
              clear hdp
              go_wp2_with fail
              go_quiet (fail)
              have hF := HF.out nq
              have hBq := HBQ.out nq
              go_wp2
              refine bodyPost_ret (v := .tuple #[.slice (some ⟨g6, 0, none⟩) m c6, .bool true]) (by simp [results, Try.results43, go_sem]) rfl ?_
              exact ⟨_, rfl, hF, hBq⟩
          · have hp1' : decide ((p : Int) + 1 < m) = false := by simp; omega
            by_cases hpe : p = m
            · subst hpe
              obtain ⟨e1, e2⟩ := HNone.out HC.out
              subst e1 e2
              go_wp2_with fail
              go_quiet (fail)
              have hBq := below_drewN hBr nq
              go_wp2
              refine bodyPost_ret (v := .tuple #[.slice none 0 0, .bool false]) (by simp [results, Try.results43, go_sem]) rfl ?_
              exact ⟨_, rfl, World.ownsRow_nil _ _ _ _, hBq⟩
            · have cp := (hro.cell p).trans (hva.out p (by omega))
              rw [if_neg (by omega), HDd.out p (by omega)] at cp
              have d60 := HD60.out p (by omega)
              obtain ⟨e1, e2⟩ := HIs.out p HC.out (by omega) (fun h => absurd h hp1) (nxL D m p) (nxL_len _ _ _) (fun i hi => nxL_get _ _ _ _ hi)
              subst e1 e2
              have hpe : ((p : Int) == (m : Int)) = false := by simp; omega
              have hpm' : (p : Int) < m := by omega
              have ff := hro.free p
              have hdp := HDd.out p (by omega)
              have hww : IntKind.i64.wrap (((d p : Nat) : Int) + 1) = ((d p : Nat) : Int) + 1 := IntWalk.i64_in _ (by omega)
              have HF : Hid (∀ q, OwnL ((wr.drewN q).setCell ⟨g6, p, none⟩ (.int .i64 (((d p : Nat) : Int) + 1))) w.heap.size (.slice (some ⟨g6, 0, none⟩) m c6) (nxL D m p)) := fun q => by
                have h := RowAt.ownCap (b := w.heap.size) (cap := c6) (xs := nxL D m p) (RowAt.set (show RowAt (wr.drewN q) g6 cu from hro) p (.int .i64 (((d p : Nat) : Int) + 1))) hat hmax (by rw [nxL_len]; exact hcap) (by rw [Array.size_setIfInBounds]; exact hsz) (fun i hi => by
                  rw [nxL_len] at hi
                  rw [nxL_get _ _ _ _ hi, Array.getElem?_setIfInBounds]
                  by_cases hi0 : p = i
                  · subst hi0; rw [if_pos rfl, if_pos (by rw [hsz]; omega), if_neg (by omega), if_pos rfl, hdp]
                  · rw [if_neg hi0, hva.out i hi]
                    by_cases q : i < p
                    · rw [if_pos q, if_pos q]
                    · rw [if_neg q, if_neg q, if_neg (fun e => hi0 e.symm)])
                rwa [nxL_len] at h
              have HBQ := Lib.hid (fun q => (below_drewN hBr q).setCell (p := ⟨g6, p, none⟩) hat (.int .i64 (((d p : Nat) : Int) + 1)))
              generalize d p = dp at *
              clear hdp
              go_wp2_with fail
              go_quiet (fail)
              have hF := HF.out nq
              have hBq := HBQ.out nq
              go_wp2
              refine bodyPost_ret (v := .tuple #[.slice (some ⟨g6, 0, none⟩) m c6, .bool true]) (by simp [results, Try.results43, go_sem]) rfl ?_
              exact ⟨_, rfl, hF, hBq⟩

end Go.Proofs.Ytdkmghbbnkppcaa
