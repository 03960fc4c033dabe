/- Contract of OrderOf of the program. -/
import Derived.Test.YtpdnehcaogdjiaaCnt
set_option linter.unusedVariables false
namespace Go.Proofs.Ytpdnehcaogdjiaa
open Go.ChangeShapes Go.WideShapes Go.ChangeAt Go.RowKit Go.Joins N

def orderF (n s m : Int) : List Int := if tok n s = true ∧ 1 ≤ m ∧ m ≤ n then ordT n s m.toNat else []

theorem orderF_yes {n s : Int} {m : Nat} (h : tok n s = true) (h0 : 1 ≤ m) (h1 : (m : Int) ≤ n) : orderF n s m = ordT n s m := by
  unfold orderF
  rw [if_pos ⟨h, by omega, h1⟩, Int.toNat_natCast]

theorem orderF_no {n s m : Int} (h : ¬ (tok n s = true ∧ 1 ≤ m ∧ m ≤ n)) : orderF n s m = [] := if_neg h

theorem orderF_len (n s m : Int) : (orderF n s m).length ≤ 60 := by
  unfold orderF
  split
  · rename_i h
    have := tok_bd h.1
    rw [ordT_length]; omega
  · simp

/-- each place holds the time whose place it is -/
theorem place_ordT {n s : Int} (ht : tok n s = true) {m : Nat} (hm : (m : Int) ≤ n) {i : Nat} (hi : i < m) : ∃ t : Nat, t < m ∧ (ordT n s m).getD i 0 = t ∧ lessT n s (pt n s t) m = i := by
  obtain ⟨t, t1, t2, t3⟩ := ordT_at ht hm hi
  obtain ⟨p1, _, p3⟩ := place_at ht hm t1
  refine ⟨t, t1, t2, ?_⟩
  generalize lessT n s (pt n s t) m = j at *
  have h := srt_asc (turns_of ht) hm
  rcases Nat.lt_trichotomy i j with c | c | c
  · have := asc_getD h n c (by rw [srt_length]; exact p1); omega
  · exact c.symm
  · have := asc_getD h n c (by rw [srt_length]; exact hi); omega

set_option maxHeartbeats 2000000 in
theorem orderOf_any (n s m : Int) (w : World) :
    Calls Try.prog 24 #[(.agg #[.int .i64 (n), .int .i64 (s)]), .int .i64 m] w (ListPost (orderF n s m) w) := by
  
  have hp := firstPoints_any n s m (w.alloc (.cells #[.int .i64 n, .int .i64 s] 24))
  by_cases hc : tok n s = true ∧ 1 ≤ m ∧ m ≤ n
  · obtain ⟨ht, h0, h1⟩ := hc
    have hb := tok_bd ht
    obtain ⟨m, rfl⟩ := Int.eq_ofNat_of_zero_le (by omega : 0 ≤ m)
    rw [firstF_yes ht h0 h1, Int.toNat_natCast] at hp
    rw [orderF_yes ht (by omega) h1]
    have HP : Hid (∀ k, k < m → lessT n s (pt n s k) m < m) := fun k hk => (place_at ht h1 hk).1
    have HO : Hid (∀ i, i < m → ∃ t : Nat, t < m ∧ (ordT n s m).getD i 0 = t ∧ lessT n s (pt n s t) m = i) := fun i hi => place_ordT ht h1 hi
    have HI : Hid (∀ i k, i < k → k < m → lessT n s (pt n s i) m ≠ lessT n s (pt n s k) m) := fun i k hik hk e => by
      obtain ⟨_, _, p3⟩ := place_at ht h1 (by omega : i < m)
      obtain ⟨_, _, q3⟩ := place_at ht h1 hk
      rw [e, ← q3] at p3
      have := (turns_of ht).inj i k (by omega) (by omega) (by omega) (by omega) p3
      omega
    obtain ⟨i0, hi, iz0, iz1, iz2⟩ := info_parts infoInt
    have Hi := Lib.hid hi
    have hm0 : ((m : Int) == 0) = false := by simp; omega
    clear hi ht
    go_enter Try.func24, Try.ntmps24
    go_wp2_with fail
    refine (hp).mono ?_; rintro e w1 ⟨v1, rfl, ho1, hb1⟩
    have hz1 := hb1.size
    try simp at hz1
    clear hp
    have hR := ho1.reads
    obtain ⟨g, off, cap, rfl, HC⟩ := pts_cells ho1.reads (by omega)
    have hg1 : g < w1.heap.size := World.block_lt_of_cell? w1 _ (HC.out 0 (by omega))
    have hBw : Below w.heap.size w w1 := (by repeat (first | exact Below.refl _ _ | assumption | (refine Below.trans ?_ (Below.mono (by assumption) (by first | omega | (simp <;> omega)))) | (refine Below.alloc ?_ (by first | omega | (simp <;> omega)) _) | (refine below_drewN ?_ _) | (refine Below.drew ?_) | (refine Below.setCell ?_ (by first | omega | (simp <;> omega)) _)))
    have hlen := ptsL_length n s m
    clear ho1 hb1
    go_wp2_with (at_make; refine wpList_make_full _ rfl _ _ 34 rfl w.heap.size 3 i0 (.int .i64 0) 1 Try.underlying34 Hi.out iz0 iz1 .i64 .i64 _ _ m rfl rfl rfl rfl (by rw [iz2]; omega) (by unfold maxLen; omega) (by omega) ?_)
    intro w2 hown hgrow
    have hz2' := hgrow.size
    have hB2 : Below w1.heap.size w1 w2 := ⟨hgrow.os, hgrow.tape, hgrow.output, hgrow.size, fun k hk => hgrow.block k hk (by simp)⟩
    obtain ⟨cur0, hr0, hs0, _⟩ := RowAt.of_own hown
    have hsz1 := hBw.size
    clear hown hgrow
    obtain ⟨G, hG⟩ : ∃ G, w1.heap.size = G := ⟨_, rfl⟩
    rw [hG] at hg1 hB2 hr0 hsz1 ⊢
    go_wp2_with fail
    go_loopw [20] (fun x wr => ∃ (k : Nat) (cur : Array Value), x = .int .i64 k ∧ k ≤ m ∧ RowAt wr G cur ∧ cur.size = m ∧ Hid (∀ i, i < k → cur[lessT n s (pt n s i) m]? = some (.int .i64 (i : Int))) ∧ Below G w1 wr) (fun x _ => m - (intOf x).toNat)
    case atStart => exact ⟨0, cur0, rfl, by omega, hr0, hs0, fun i hi => by omega, hB2⟩
    case round =>
      obtain ⟨k, cur, rfl, hk, hr, hs, HD, hB⟩ := hrel
      clear hr0 hs0 hB2
      by_cases hkm : k < m
      · have hkm' : (k : Int) < m := by omega
        have ck := (hB.cell (p := ⟨g, off + k, none⟩) hg1).trans (HC.out k hkm)
        have hRk := hR.below (show Below w1.heap.size w1 wr by rw [hG]; exact hB)
        have hpl := HP.out k hkm
        have HJ : Hid (∀ i, i < k → lessT n s (pt n s i) m ≠ lessT n s (pt n s k) m) := fun i hi e => by
          exact HI.out i k hi hkm e
        go_wp2_with fail
        refine (countBelow_any _ (ptsL n s m) (pt n s k) _ hRk (by omega)).mono ?_; rintro e w3 ⟨rfl, rfl⟩
        rw [cntB_pts]
        obtain ⟨c, hcc⟩ : ∃ c, lessT n s (pt n s k) m = c := ⟨_, rfl⟩
        have HCC := Lib.hid hcc
        rw [hcc] at hpl ⊢
        have hc' : (c : Int) < m := by omega
        have c4 := hr.cell c
        obtain ⟨z4, e4⟩ : ∃ z, cur[c]? = some z := ⟨_, Array.getElem?_eq_getElem (by omega)⟩
        rw [e4] at c4
        have f4 := hr.free c
        have r5 := hr.set c (.int .i64 (k : Int))
        have hB5 := hB.setCell (p := ⟨G, c, none⟩) (Nat.le_refl _) (.int .i64 (k : Int))
        clear hcc hr hB ck hRk e4
        go_wp2_with fail
        go_roundw
        case rel =>
          refine ⟨k + 1, cur.setIfInBounds c (.int .i64 (k : Int)), by go_num, by omega, r5, by simp [hs], fun i hi => ?_, hB5⟩
          by_cases hik : i = k
          · subst hik
            rw [HCC.out]
            simp [hs, hpl]
          · rw [Array.getElem?_setIfInBounds, if_neg (by rw [← HCC.out]; exact fun e => HJ.out i (by omega) e.symm)]
            exact HD.out i (by omega)
        case measure => simp only [intOf]; omega
      · obtain rfl : k = m := by omega
        have hkm' : decide ((k : Int) < k) = false := by simp
        have ho : OwnL wr w.heap.size (.slice (some ⟨G, 0, none⟩) k k) (ordT n s k) := by
          have h := RowAt.own (b := w.heap.size) (xs := ordT n s k) hr (by omega) (by rw [ordT_length]; omega) (by rw [ordT_length]; exact hs) (fun i hi => by
            rw [ordT_length] at hi
            obtain ⟨t, t1, t2, t3⟩ := HO.out i hi
            have h := HD.out t t1
            rw [t3] at h
            rw [t2]
            exact h)
          rwa [ordT_length] at h
        have hBf : Below w.heap.size w wr := hBw.trans (hB.mono (by omega))
        clear hr HD hB
        go_wp2
        go_ret
        exact ⟨_, rfl, ho, hBf⟩
  · rw [firstF_no hc] at hp
    rw [orderF_no hc]
    clear hc
    go_enter Try.func24, Try.ntmps24
    go_wp2_with fail
    refine (hp).mono ?_; rintro e w1 ⟨v1, rfl, ho1, hb1⟩
    have hz1 := hb1.size
    try simp at hz1
    clear hp
    obtain ⟨a, cap, rfl⟩ := nil_cells ho1.reads
    go_wp2
    go_ret
    exact ⟨_, rfl, World.ownsRow_nil _ _ _ _, (by repeat (first | exact Below.refl _ _ | assumption | (refine Below.trans ?_ (Below.mono (by assumption) (by first | omega | (simp <;> omega)))) | (refine Below.alloc ?_ (by first | omega | (simp <;> omega)) _) | (refine below_drewN ?_ _) | (refine Below.drew ?_) | (refine Below.setCell ?_ (by first | omega | (simp <;> omega)) _)))⟩
end Go.Proofs.Ytpdnehcaogdjiaa
