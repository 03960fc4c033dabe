/- Contract of OrderBy of the model. -/
import Derived.Test.YtjjdcpghoekmiaaOrdB
set_option linter.unusedVariables false
set_option linter.unusedSimpArgs false
namespace Go.Proofs.Ytjjdcpghoekmiaa

set_option maxRecDepth 4000
open Go.ChangeShapes Go.WideShapes Go.ChangeAt Go.RowKit Go.Joins

theorem infoBool : (Try.prog.info? 4).map (fun i => (i.zero, i.size, i.bytes)) = some (some (.bool false), 1, 1) := by kernel_rfl

/-- block g holds the truth values cur -/
def BoolAt (w : World) (g : Nat) (cur : Array Value) : Prop := w.heap[g]? = some (.cells cur 4 (0, 0))

theorem BoolAt.cell {w : World} {g : Nat} {cur : Array Value} (h : BoolAt w g cur) (i : Nat) : w.cell? ⟨g, i, none⟩ = cur[i]? := by unfold BoolAt at h; simp [World.cell?, h]

theorem BoolAt.free {w : World} {g : Nat} {cur : Array Value} (h : BoolAt w g cur) (i : Nat) : w.frozen? ⟨g, i, none⟩ = false := by unfold BoolAt at h; simp [World.frozen?, h]

theorem BoolAt.lt {w : World} {g : Nat} {cur : Array Value} (h : BoolAt w g cur) : g < w.heap.size := by unfold BoolAt at h; exact (Array.getElem?_eq_some_iff.1 h).1

theorem BoolAt.below {w w' : World} {g B : Nat} {cur : Array Value} (h : BoolAt w g cur) (hb : Below B w w') (hg : g < B) : BoolAt w' g cur := by unfold BoolAt at *; rw [hb.block g hg]; exact h

theorem BoolAt.set {w : World} {g : Nat} {cur : Array Value} (h : BoolAt w g cur) (i : Nat) (v : Value) : BoolAt (w.setCell ⟨g, i, none⟩ v) g (cur.setIfInBounds i v) := by
  unfold BoolAt at *
  simp [World.setCell, Array.getElem?_modify, h]

theorem BoolAt.of_own {w : World} {g b n cap : Nat} {xs : List Value} (h : w.ownsRow b 4 1 (.slice (some ⟨g, 0, none⟩) n cap) n xs) : ∃ cur, BoolAt w g cur ∧ cur.size = cap ∧ n ≤ cap ∧ cur.toList.take n = xs := by
  obtain ⟨_, h⟩ := h
  rcases h with ⟨h, _⟩ | ⟨g', cap', cur, hv, hb, hg, hn, hm, hs, ht⟩
  · cases h
  · injection hv with h1 h2 h3
    injection h1 with h1
    injection h1 with h1
    subst h1 h3
    exact ⟨cur, hg, by omega, hn, by simpa using ht⟩

theorem orderByF_len (m u d : Int) : (orderByF m u d).1.length ≤ 60 := by
  by_cases h : okBy m u d
  · rw [orderByF_yes h]
    show (listBy m u d m.toNat).length ≤ 60
    rw [listBy_len]
    have := h.2.1
    omega
  · rw [orderByF_no h]; simp

def goodTo (m u d : Int) (k : Nat) : Prop := ∀ j : Nat, j < k → 0 ≤ nowBy m u d j ∧ nowBy m u d j < m ∧ ∀ i : Nat, i < j → nowBy m u d i ≠ nowBy m u d j

theorem goodTo_succ {m u d : Int} {k : Nat} (h : goodTo m u d k) (h0 : 0 ≤ nowBy m u d k) (h1 : nowBy m u d k < m) (h2 : ∀ i : Nat, i < k → nowBy m u d i ≠ nowBy m u d k) : goodTo m u d (k + 1) := by
  intro j hj
  by_cases e : j = k
  · subst e; exact ⟨h0, h1, h2⟩
  · exact h j (by omega)

/-- how the cells read: which numbers have come -/
def seenTo (m u d : Int) (k : Nat) (cur : Array Value) (M : Nat) : Prop := ∀ i : Nat, i < M → ∃ b : Bool, cur[i]? = some (.bool b) ∧ (b = true ↔ ∃ j : Nat, j < k ∧ nowBy m u d j = i)

set_option maxHeartbeats 4000000 in
theorem specOrderBy_any (m u d : Int) (w : World) :
    Calls Try.prog 24 #[.int .i64 m, .int .i64 u, .int .i64 d] w (PairPost (orderByF m u d) w) := by
  by_cases hv : 1 ≤ m ∧ m ≤ 60 ∧ 1 ≤ u ∧ u ≤ 60 ∧ 1 ≤ d ∧ d ≤ 60
  · obtain ⟨ma, mz, ua, uz, da, dz⟩ := hv
    obtain ⟨M, rfl⟩ := Int.eq_ofNat_of_zero_le (by omega : 0 ≤ m)
    have HLm := Lib.hid (show (decide ((1 : Int) ≤ M) && decide ((M : Int) ≤ 60)) = true by simp; omega)
    have HLu := Lib.hid (show (decide ((1 : Int) ≤ u) && decide (u ≤ 60)) = true by simp; omega)
    have HLd := Lib.hid (show (decide ((1 : Int) ≤ d) && decide (d ≤ 60)) = true by simp; omega)
    obtain ⟨i0, hi, iz0, iz1, iz2⟩ := info_parts infoBool
    have Hi := Lib.hid hi
    have hX := orderByF_yes (m := M) (u := u) (d := d)
    have hX2 := orderByF_no (m := M) (u := u) (d := d)
    have HY : Hid (goodTo M u d M → nowBy M u d M = 0 → orderByF M u d = (listBy M u d M, true)) := fun h1 h2 => by
      rw [hX ⟨ma, mz, ua, uz, da, dz, by rw [Int.toNat_natCast]; exact h1, by rw [Int.toNat_natCast]; exact h2⟩, Int.toNat_natCast]
    have HN : Hid ((¬ goodTo M u d M ∨ nowBy M u d M ≠ 0) → orderByF M u d = ([], false)) := fun h => hX2 fun h2 => by
      have h3 := h2.2.2.2.2.2.2
      unfold goodBy at h3
      rw [Int.toNat_natCast] at h3
      rcases h with h | h
      · exact h h3.1
      · exact h h3.2
    clear hX hX2 hi
    generalize orderByF M u d = R at *
    go_enter Try.func24, Try.ntmps24
    go_wp2_with fail
    refine (l1In_any _ _ _ _).mono ?_; rintro e w1 ⟨rfl, rfl⟩
    rw [HLm.out]
    go_wp2_with fail
    refine (l1In_any _ _ _ _).mono ?_; rintro e w1 ⟨rfl, rfl⟩
    rw [HLu.out]
    go_wp2_with fail
    refine (l1In_any _ _ _ _).mono ?_; rintro e w1 ⟨rfl, rfl⟩
    rw [HLd.out]
    clear HLm HLu HLd
    go_wp2_with (at_make; refine wpList_make_full _ rfl _ _ 61 rfl w.heap.size 4 i0 (.bool false) 1 Try.underlying61 Hi.out iz0 iz1 .i64 .i64 _ _ M rfl rfl rfl rfl (by rw [iz2]; omega) (by unfold maxLen; omega) (by omega) ?_)
    intro w2 hown hgrow
    have hB2 : Below w.heap.size w w2 := ⟨hgrow.os, hgrow.tape, hgrow.output, hgrow.size, fun k hk => hgrow.block k hk (by simp)⟩
    obtain ⟨cur0, hr0, hs0, _, hz0⟩ := BoolAt.of_own hown
    have hgl := hr0.lt
    have hnil := made_nil w2
    have hr1 := hr0.below (show Below w2.heap.size w2 (w2.alloc (.cells #[] 3)) from (Below.refl _ _).alloc (Nat.le_refl _) _) hgl
    have hBn : Below w.heap.size w (w2.alloc (.cells #[] 3)) := hB2.alloc hB2.size _
    have HS0 : Hid (seenTo M u d 0 cur0 M) := fun i hi => by
      refine ⟨false, ?_, ⟨fun h => absurd h (by decide), fun ⟨j, hj, _⟩ => by omega⟩⟩
      have e : (cur0.toList.take M)[i]? = some (.bool false) := by rw [hz0]; simp [madeCells, hi, Nat.mod_one]
      rw [List.getElem?_take_of_lt hi] at e
      simpa using e
    obtain ⟨B, hBe⟩ : ∃ B, w2.heap.size = B := ⟨_, rfl⟩
    rw [hBe] at hnil hgl
    obtain ⟨G, hG⟩ : ∃ G, w.heap.size = G := ⟨_, rfl⟩
    rw [hG] at hgl hr1 hBn ⊢
    clear hown hgrow hr0 hz0 hB2
    go_wp2_with fail
    go_loopw [9, 10, 11] (fun y x z wr => ∃ (k : Nat) (cur : Array Value) (v0 : Value), z = .int .i64 k ∧ x = .int .i64 (nowBy M u d k) ∧ v0 = y ∧ k ≤ M ∧ BoolAt wr G cur ∧ cur.size = M ∧ Hid (seenTo M u d k cur M) ∧ Hid (goodTo M u d k) ∧ OwnL wr B v0 (listBy M u d k) ∧ v0 ≠ .slice none 0 0 ∧ Below G w wr ∧ B ≤ wr.heap.size) (fun _ _ z _ => M - (intOf z).toNat)
    case atStart => exact ⟨0, cur0, _, rfl, rfl, rfl, by omega, hr1, hs0, HS0, fun j hj => by omega, hnil, by simp, hBn, by simp; omega⟩
    case round =>
      obtain ⟨k, cur, v0, rfl, rfl, rfl, hk, hr, hs, HS, HG, ho, hne, hB, hsw⟩ := hrel
      clear hr1 hs0 HS0 hnil hBn
      have hbd := nowBy_bd ma mz ua uz da dz k
      by_cases hkm : k < M
      · have hkm' : (k : Int) < M := by omega
        by_cases hin : 0 ≤ nowBy M u d k ∧ nowBy M u d k < M
        · obtain ⟨c, hc⟩ := Int.eq_ofNat_of_zero_le hin.1
          obtain ⟨b, hb1, hb2⟩ := HS.out c (by omega)
          have cs := hr.cell c
          rw [hb1] at cs
          have HLi := Lib.hid (show (decide ((0 : Int) ≤ (c : Int)) && decide ((c : Int) ≤ (M : Int) - 1)) = true by simp; omega)
          have hcM : (c : Int) < M := by omega
          by_cases hsee : b = true
          · subst hsee
            obtain ⟨j, hj, ej⟩ := hb2.1 rfl
            have hR := HN.out (.inl fun h => (h k hkm).2.2 j hj (by rw [ej, hc]))
            rw [hc]
            subst hR
            have hfin := hB.alloc (by omega) (.cells #[] 3)
            have hon := OwnL.mono (b' := G) (made_nil wr) (by omega)
            clear hb1 hb2 HS HG ho hr hB
            go_wp2_with fail
            refine (l1In_any _ _ _ _).mono ?_; rintro e w3 ⟨rfl, rfl⟩
            rw [HLi.out]
            go_wp2
            exact bodyPost_ret (v := .tuple #[.slice (some ⟨wr.heap.size, 0, none⟩) 0 0, .bool false]) (by simp [results, Try.results24, go_sem]) rfl ⟨_, rfl, by rw [hG]; exact hon, by rw [hG]; exact hfin⟩
          · obtain rfl : b = false := by simpa using hsee
            have hnot : ∀ j, j < k → nowBy M u d j ≠ nowBy M u d k := fun j hj e => by
              have := hb2.2 ⟨j, hj, by rw [e, hc]⟩
              simp at this
            have HG2 := Lib.hid (goodTo_succ HG.out hin.1 hin.2 hnot)
            have HS2 : Hid (seenTo M u d (k + 1) (cur.setIfInBounds c (.bool true)) M) := fun i hi => by
              by_cases e : i = c
              · subst e
                refine ⟨true, by rw [Array.getElem?_setIfInBounds_self_of_lt (by omega)], ⟨fun _ => ⟨k, by omega, hc⟩, fun _ => rfl⟩⟩
              · obtain ⟨b', h1, h2⟩ := HS.out i hi
                refine ⟨b', by rw [Array.getElem?_setIfInBounds, if_neg (fun e' => e e'.symm)]; exact h1, h2.trans ⟨fun ⟨j, hj, ej⟩ => ⟨j, Nat.lt_succ_of_lt hj, ej⟩, fun ⟨j, hj, ej⟩ => ?_⟩⟩
                by_cases ek : j = k
                · rw [ek, hc] at ej; exact absurd (Int.ofNat.inj ej).symm e
                · exact ⟨j, Nat.lt_of_le_of_ne (Nat.le_of_lt_succ hj) ek, ej⟩
            have hn : nowBy M u d (k + 1) = ruleBy M u d (c : Int) := by show ruleBy _ _ _ (nowBy M u d k) = _; rw [hc]
            have hT := listBy_succ M u d k
            rw [hc] at hT
            have hlen := listBy_len M u d k
            have fs := hr.free c
            have r5 := hr.set c (.bool true)
            have hB5 := hB.setCell (p := ⟨G, c, none⟩) (Nat.le_refl _) (.bool true)
            have ho5 : OwnL (wr.setCell ⟨G, c, none⟩ (.bool true)) B v0 (listBy M u d k) := World.ownsRow.kept ho (row := some G) ⟨rfl, rfl, rfl, by simp [World.setCell], fun q hq hne => Below.heap_setCell _ _ _ _ (by show q ≠ G; exact fun e => hne (by rw [e]))⟩ (.inr fun e => by have := (World.ownsRow.lt ho G e).1; omega)
            generalize hL1 : listBy M u d k = T at *
            generalize hL2 : listBy M u d (k + 1) = T2 at *
            have HT := Lib.hid hT
            have HL2 := Lib.hid hL2
            have HLn : Hid (T.length = k) := hlen
            unfold ruleBy at hn
            rw [hc]
            clear hb1 hb2 hnot HS HG hr hB ho hT hL2 hL1 hlen hbd hin
            go_wp2_with fail
            refine (l1In_any _ _ _ _).mono ?_; rintro e w3 ⟨rfl, rfl⟩
            rw [HLi.out]
            go_wp2_with (at_builtin; refine append_int rfl _ _ rfl B v0 T k HLn (by omega) rfl ho5 (by simp [World.setCell]; omega) (by rw [show (wr.setCell ⟨G, c, none⟩ (.bool true)).heap.size = wr.heap.size by simp [World.setCell]]; rfl) ?_)
            intro v6 w6 ho6 hn6 hb6
            have r6 := r5.below hb6 (by omega)
            have hB6 := hB5.trans (hb6.mono (by omega))
            have hs6 := hb6.size
            have hsw6 : B ≤ w6.heap.size := by simp [World.setCell] at hs6; omega
            rw [← HT.out] at ho6
            clear ho5 r5 hB5 hb6 fs cs hs6
            by_cases c1 : (c : Int) + u < M
            · rw [if_pos c1] at hn
              have HNn := Lib.hid hn
              clear hn
              go_wp2_with fail
              go_roundw
              case rel => exact ⟨k + 1, _, v6, by go_num, by rw [HNn.out], rfl, by omega, r6, by simp [hs], HS2.out, HG2.out, by rw [HL2.out]; exact ho6, hn6, hB6, hsw6⟩
              case measure => simp only [intOf]; omega
            · rw [if_neg c1] at hn
              have c1' : decide ((c : Int) + u < M) = false := by simpa using c1
              by_cases c2 : 0 ≤ (c : Int) - d
              · rw [if_pos c2] at hn
                have HNn := Lib.hid hn
                clear hn
                go_wp2_with fail
                go_roundw
                case rel => exact ⟨k + 1, _, v6, by go_num, by rw [HNn.out], rfl, by omega, r6, by simp [hs], HS2.out, HG2.out, by rw [HL2.out]; exact ho6, hn6, hB6, hsw6⟩
                case measure => simp only [intOf]; omega
              · rw [if_neg c2] at hn
                have c2' : decide (0 ≤ (c : Int) - d) = false := by simpa using c2
                have HNn := Lib.hid hn
                clear hn
                go_wp2_with fail
                go_roundw
                case rel => exact ⟨k + 1, _, v6, by go_num, by rw [HNn.out], rfl, by omega, r6, by simp [hs], HS2.out, HG2.out, by rw [HL2.out]; exact ho6, hn6, hB6, hsw6⟩
                case measure => simp only [intOf]; omega
        · have HLi := Lib.hid (show (decide ((0 : Int) ≤ nowBy M u d k) && decide (nowBy M u d k ≤ (M : Int) - 1)) = false by simp; omega)
          have hR := HN.out (.inl fun h => hin ⟨(h k hkm).1, (h k hkm).2.1⟩)
          subst hR
          have hfin := hB.alloc (by omega) (.cells #[] 3)
          have hon := OwnL.mono (b' := G) (made_nil wr) (by omega)
          generalize nowBy M u d k = x at *
          clear HS HG ho hr hB hin
          go_wp2_with fail
          refine (l1In_any _ _ _ _).mono ?_; rintro e w3 ⟨rfl, rfl⟩
          rw [HLi.out]
          go_wp2
          exact bodyPost_ret (v := .tuple #[.slice (some ⟨wr.heap.size, 0, none⟩) 0 0, .bool false]) (by simp [results, Try.results24, go_sem]) rfl ⟨_, rfl, by rw [hG]; exact hon, by rw [hG]; exact hfin⟩
      · obtain rfl : k = M := by omega
        have hkm' : decide ((k : Int) < k) = false := by simp
        by_cases z : nowBy k u d k = 0
        · have hR := HY.out HG.out z
          subst hR
          rw [z]
          have hon := OwnL.mono (b' := G) ho (by omega)
          clear HS HG ho hr
          go_wp2
          exact bodyPost_ret (v := .tuple #[v0, .bool true]) (by simp [results, Try.results24, go_sem]) rfl ⟨_, rfl, by rw [hG]; exact hon, by rw [hG]; exact hB⟩
        · have hR := HN.out (.inr z)
          subst hR
          have z' : (nowBy k u d k != 0) = true := by simpa using z
          have hfin := hB.alloc (by omega) (.cells #[] 3)
          have hon := OwnL.mono (b' := G) (made_nil wr) (by omega)
          generalize nowBy k u d k = x at *
          clear HS HG ho hr hB
          go_wp2
          exact bodyPost_ret (v := .tuple #[.slice (some ⟨wr.heap.size, 0, none⟩) 0 0, .bool false]) (by simp [results, Try.results24, go_sem]) rfl ⟨_, rfl, by rw [hG]; exact hon, by rw [hG]; exact hfin⟩
  · have HZ : Hid (orderByF m u d = ([], false)) := orderByF_no fun h => hv ⟨h.1, h.2.1, h.2.2.1, h.2.2.2.1, h.2.2.2.2.1, h.2.2.2.2.2.1⟩
    generalize orderByF m u d = x at *
    obtain rfl := HZ.out
    have hon := made_nil w
    by_cases hm : 1 ≤ m ∧ m ≤ 60
    · have HLm := Lib.hid (show (decide ((1 : Int) ≤ m) && decide (m ≤ 60)) = true by simp; omega)
      by_cases hu : 1 ≤ u ∧ u ≤ 60
      · have HLu := Lib.hid (show (decide ((1 : Int) ≤ u) && decide (u ≤ 60)) = true by simp; omega)
        have HLd := Lib.hid (show (decide ((1 : Int) ≤ d) && decide (d ≤ 60)) = false by simp; omega)
        clear hv hm hu
        go_enter Try.func24, Try.ntmps24
        go_wp2_with fail
        refine (l1In_any _ _ _ _).mono ?_; rintro e w1 ⟨rfl, rfl⟩
        rw [HLm.out]
        go_wp2_with fail
        refine (l1In_any _ _ _ _).mono ?_; rintro e w1 ⟨rfl, rfl⟩
        rw [HLu.out]
        go_wp2_with fail
        refine (l1In_any _ _ _ _).mono ?_; rintro e w1 ⟨rfl, rfl⟩
        rw [HLd.out]
        go_wp2
        exact bodyPost_ret (v := .tuple #[.slice (some ⟨w.heap.size, 0, none⟩) 0 0, .bool false]) (by simp [results, Try.results24, go_sem]) rfl ⟨_, rfl, hon, (by repeat (first | exact Below.refl _ _ | assumption | (refine Below.trans ?_ (Below.mono (by assumption) (by first | omega | (simp <;> omega)))) | (refine Below.alloc ?_ (by first | omega | (simp <;> omega)) _) | (refine below_drewN ?_ _) | (refine Below.drew ?_) | (refine Below.setCell ?_ (by first | omega | (simp <;> omega)) _)))⟩
      · have HLu := Lib.hid (show (decide ((1 : Int) ≤ u) && decide (u ≤ 60)) = false by simp; omega)
        clear hv hm hu
        go_enter Try.func24, Try.ntmps24
        go_wp2_with fail
        refine (l1In_any _ _ _ _).mono ?_; rintro e w1 ⟨rfl, rfl⟩
        rw [HLm.out]
        go_wp2_with fail
        refine (l1In_any _ _ _ _).mono ?_; rintro e w1 ⟨rfl, rfl⟩
        rw [HLu.out]
        go_wp2
        exact bodyPost_ret (v := .tuple #[.slice (some ⟨w.heap.size, 0, none⟩) 0 0, .bool false]) (by simp [results, Try.results24, go_sem]) rfl ⟨_, rfl, hon, (by repeat (first | exact Below.refl _ _ | assumption | (refine Below.trans ?_ (Below.mono (by assumption) (by first | omega | (simp <;> omega)))) | (refine Below.alloc ?_ (by first | omega | (simp <;> omega)) _) | (refine below_drewN ?_ _) | (refine Below.drew ?_) | (refine Below.setCell ?_ (by first | omega | (simp <;> omega)) _)))⟩
    · have HLm := Lib.hid (show (decide ((1 : Int) ≤ m) && decide (m ≤ 60)) = false by simp; omega)
      clear hv hm
      go_enter Try.func24, Try.ntmps24
      go_wp2_with fail
      refine (l1In_any _ _ _ _).mono ?_; rintro e w1 ⟨rfl, rfl⟩
      rw [HLm.out]
      go_wp2
      exact bodyPost_ret (v := .tuple #[.slice (some ⟨w.heap.size, 0, none⟩) 0 0, .bool false]) (by simp [results, Try.results24, go_sem]) rfl ⟨_, rfl, hon, (by repeat (first | exact Below.refl _ _ | assumption | (refine Below.trans ?_ (Below.mono (by assumption) (by first | omega | (simp <;> omega)))) | (refine Below.alloc ?_ (by first | omega | (simp <;> omega)) _) | (refine below_drewN ?_ _) | (refine Below.drew ?_) | (refine Below.setCell ?_ (by first | omega | (simp <;> omega)) _)))⟩
end Go.Proofs.Ytjjdcpghoekmiaa
