/- Contract of OrderOf of the model. -/
import Derived.Test.YtpdnehcaogdjiaaOrdI
import Derived.Test.YtpdnehcaogdjiaaSorted
set_option linter.unusedVariables false
namespace Go.Proofs.Ytpdnehcaogdjiaa
open Go.ChangeShapes Go.WideShapes Go.ChangeAt Go.RowKit Go.Joins N

theorem ordT_put {n s : Int} (ht : tok n s = true) {m : Nat} (hm : (m : Int) < n) :
    ordT n s (m + 1) = (ordT n s m).take (lessT n s (pt n s m) m) ++ (m : Int) :: (ordT n s m).drop (lessT n s (pt n s m) m) := by
  have e : timeF n s (pt n s m) = m := timeF_of ht (by omega) (by omega) rfl
  unfold ordT
  rw [srt_more (turns_of ht) hm, List.map_append, List.map_cons, e, List.map_take, List.map_drop]

set_option maxHeartbeats 4000000 in
theorem specOrderOf_any (n s m : Int) (w : World) :
    Calls Try.prog 26 #[(.agg #[.int .i64 (n), .int .i64 (s)]), .int .i64 m] w (ListPost (orderF n s m) w) := by
  
  have hp := specFirstPoints_any n s m (w.alloc (.cells #[.int .i64 n, .int .i64 s] 24))
  by_cases hc : tok n s = true ∧ 1 ≤ m ∧ m ≤ n
  · obtain ⟨ht, h0, h1⟩ := hc
    have hb := tok_bd ht
    obtain ⟨m, rfl⟩ := Int.eq_ofNat_of_zero_le (by omega : 0 ≤ m)
    rw [firstF_yes ht h0 h1, Int.toNat_natCast] at hp
    rw [orderF_yes ht (by omega) h1]
    have HPut : Hid (∀ k, k < m → ordT n s (k + 1) = (ordT n s k).take (lessT n s (pt n s k) k) ++ (k : Int) :: (ordT n s k).drop (lessT n s (pt n s k) k)) := fun k hk => ordT_put ht (by omega)
    have HAt : Hid (∀ k, k ≤ m → ∀ j, j < k → ∃ t : Nat, t < k ∧ (ordT n s k).getD j 0 = t ∧ (j < lessT n s (pt n s k) k ↔ pt n s t < pt n s k)) := fun k hk j hj => by
      obtain ⟨t, t1, t2, t3⟩ := ordT_at ht (by omega : (k : Int) ≤ n) hj
      refine ⟨t, t1, t2, ?_⟩
      rw [t3]
      exact less_iff (turns_of ht) (by omega) _ hj n
    obtain ⟨i0, hi, iz0, iz1, iz2⟩ := info_parts infoInt
    have Hi := Lib.hid hi
    clear hi ht
    go_enter Try.func26, Try.ntmps26
    go_wp2_with fail
    refine (hp).mono ?_; rintro e w1 ⟨v1, rfl, ho1, hb1⟩
    have hz1 := hb1.size
    try simp at hz1
    clear hp
    obtain ⟨gp, offp, capp, rfl, HCP⟩ := pts_cells ho1.reads (by omega)
    have hgp : gp < w1.heap.size := World.block_lt_of_cell? w1 _ (HCP.out 0 (by omega))
    have hBw : Below w.heap.size w w1 := (by repeat (first | exact Below.refl _ _ | assumption | (refine Below.trans ?_ (Below.mono (by assumption) (by first | omega | (simp <;> omega)))) | (refine Below.alloc ?_ (by first | omega | (simp <;> omega)) _) | (refine below_drewN ?_ _) | (refine Below.drew ?_) | (refine Below.setCell ?_ (by first | omega | (simp <;> omega)) _)))
    have hsw1 := hBw.size
    have hnil := OwnL.mono (b' := w.heap.size) (made_nil w1) hsw1
    have hB0 : Below w1.heap.size w1 (w1.alloc (.cells #[] 3)) := (by repeat (first | exact Below.refl _ _ | assumption | (refine Below.trans ?_ (Below.mono (by assumption) (by first | omega | (simp <;> omega)))) | (refine Below.alloc ?_ (by first | omega | (simp <;> omega)) _) | (refine below_drewN ?_ _) | (refine Below.drew ?_) | (refine Below.setCell ?_ (by first | omega | (simp <;> omega)) _)))
    clear ho1 hb1
    go_wp2_with fail
    go_loopw [6, 7] (fun y x wr => ∃ (k : Nat) (v0 : Value), x = .int .i64 k ∧ v0 = y ∧ k ≤ m ∧ OwnL wr w.heap.size v0 (ordT n s k) ∧ v0 ≠ .slice none 0 0 ∧ Below w1.heap.size w1 wr) (fun _ x _ => m - (intOf x).toNat)
    case atStart => exact ⟨0, _, rfl, rfl, by omega, hnil, by simp, hB0⟩
    case round =>
      obtain ⟨k, v0, rfl, rfl, hk, ho, hne, hB⟩ := hrel
      clear hnil hB0
      by_cases hkm : k < m
      · have hkm' : (k : Int) < m := by omega
        have ckp := (hB.cell (p := ⟨gp, offp + k, none⟩) hgp).trans (HCP.out k hkm)
        have HCK : Hid (∀ t : Nat, t < k → wr.cell? ⟨gp, offp + t, none⟩ = some (.int .i64 (pt n s t))) := fun t ht => (hB.cell (p := ⟨gp, offp + t, none⟩) hgp).trans (HCP.out t (by omega))
        have hlen := ordT_length n s k
        have hS := HPut.out k hkm
        have hAt := HAt.out k hk
        have hTk := lessT_le n s (pt n s k) k
        generalize hT2 : ordT n s (k + 1) = S2 at *
        generalize hT1 : ordT n s k = S at *
        generalize hTT : lessT n s (pt n s k) k = T at *
        have HS := Lib.hid hS
        have HT2 := Lib.hid hT2
        have HLn := Lib.hid hlen
        have HA := Lib.hid hAt
        obtain ⟨g, cap0, cur, rfl, hbg, hr, hs, hn, hm, hcur⟩ := ho.row hlen hne
        have hC := Lib.hid hcur
        have HM := Lib.hid hm
        clear hS hT2 hT1 hTT hlen ho hne hcur hm hAt
        go_wp2_with fail
        go_loopw [8] (fun y wi => ∃ (j q : Nat), y = .int .i64 j ∧ j ≤ T ∧ wi = wr.drewN q) (fun y _ => k - (intOf y).toNat)
        case atStart => exact ⟨0, 0, rfl, by omega, rfl⟩
        case round =>
          obtain ⟨j, q, rfl, hj, rfl⟩ := hrel
          by_cases hjk : j < k
          · have hjk' : (j : Int) < k := by omega
            obtain ⟨t, t1, t2, t3⟩ := HA.out j hjk
            have cj := hr.cell j
            rw [hC.out j hjk, t2] at cj
            have ct := HCK.out t t1
            have htm : (t : Int) < m := by omega
            have ht0 : (0 : Int) ≤ t := by omega
            have HT3 := Lib.hid t3
            clear t2 t3
            by_cases hxy : pt n s t < pt n s k
            · have hj2 : j < T := HT3.out.2 hxy
              go_wp2_with fail
              go_quiet (fail)
              go_wp2_with fail
              go_roundw
              case rel => exact ⟨j + 1, q + nq, by go_num, by omega, by simp⟩
              case measure => simp only [intOf]; omega
            · have d : decide (pt n s t < pt n s k) = false := by simpa using hxy
              have HTj : T = j := by
                have : ¬ j < T := fun h => hxy (HT3.out.1 h)
                omega
              have HTJ := Lib.hid HTj
              clear HTj
              go_wp2_with fail
              go_quiet (fail)
              have HTj := HTJ.out
              clear HTJ
              have hg0 := hr.lt
              have hj1 : (j : Int) ≤ cap0 := by omega
              have hj2 : (j : Int) ≤ k := by omega
              have hj0 : (0 : Int) ≤ j := by omega
              have hown1 : ((wr.drewN (q + nq)).alloc (.cells #[] 3)).ownsRow wr.heap.size 3 1 (.slice (some ⟨wr.heap.size, 0, none⟩) 0 0) 0 [] := World.ownsRow_made (base := wr.heap.size) (e := 3) (size := 1) (wr.drewN (q + nq)) #[] 0 (by simp) (by unfold maxLen; omega) rfl
              have hB1 : Below wr.heap.size wr ((wr.drewN (q + nq)).alloc (.cells #[] 3)) := (by repeat (first | exact Below.refl _ _ | assumption | (refine Below.trans ?_ (Below.mono (by assumption) (by first | omega | (simp <;> omega)))) | (refine Below.alloc ?_ (by first | omega | (simp <;> omega)) _) | (refine below_drewN ?_ _) | (refine Below.drew ?_) | (refine Below.setCell ?_ (by first | omega | (simp <;> omega)) _)))
              have hr1 := hr.below hB1 hg0
              have htl : ((S.take j).map (Value.int .i64)).length = j * 1 := by rw [List.length_map, List.length_take, HLn.out]; omega
              have HTL := Lib.hid htl
              clear htl
              go_wp2_with (at_builtin; refine wpList_append_own _ rfl _ _ 34 rfl wr.heap.size 3 i0 (.int .i64 0) 1 8 Try.underlying34 Hi.out iz0 iz1 iz2 rfl (by decide) _ _ _ rfl hown1 ⟨g, 0, none⟩ j cap0 ((S.take j).map (Value.int .i64)) rfl HTL.out ?c1 ?c2 ?c3 ?c4 (by first | omega | (simp <;> omega)) ?_)
              case c1 => simpa [addr_add] using hr1.newsTake HLn.out hC.out j
              case c2 => simpa using oneCells (S.take j)
              case c3 => unfold maxLen; omega
              case c4 => omega
              intro v6 w6 hown6 hgrow6 hnn6
              have hB6 : Below wr.heap.size wr w6 := hB1.grown hgrow6 (by simp) (fun q hq => by simp [Value.ownBlock] at hq; omega)
              have hr6 := hr.below hB6 hg0
              have hown6' : (w6.alloc (.cells #[.int .i64 (k : Int)] 3)).ownsRow wr.heap.size 3 1 v6 j ((S.take j).map (Value.int .i64)) := by
                rw [List.map_take]
                exact World.ownsRow.alloc hown6 _
              have hs6 := hB6.size
              clear hown1 hB1 hr1 hgrow6 hown6
              go_wp2_with (at_builtin; refine wpList_append_own _ rfl _ _ 34 rfl wr.heap.size 3 i0 (.int .i64 0) 1 8 Try.underlying34 Hi.out iz0 iz1 iz2 rfl (by decide) _ _ _ rfl hown6' ⟨w6.heap.size, 0, none⟩ 1 1 [.int .i64 (k : Int)] rfl rfl ?d1 ?d2 ?d3 ?d4 (by first | omega | (simp <;> omega)) ?_)
              case d1 =>
                intro j u hj
                match j, hj with
                | 0, hj => simp at hj; subst hj; exact cell_of_one (heap_alloc_new w6 _)
                | j + 1, hj => simp at hj
              case d2 => simp [Value.oneCell']
              case d3 => unfold maxLen; omega
              case d4 => omega
              intro v7 w7 hown7 hgrow7 hnn7
              have hB7 : Below wr.heap.size wr w7 := (hB6.alloc hs6 (.cells #[.int .i64 (k : Int)] 3)).grown hgrow7 (by simp; omega) (fun q hq => (World.ownsRow.lt hown6' q hq).1)
              have hr7 := hr.below hB7 hg0
              have hs7 := hB7.size
              have hkj : ((S.drop j).map (Value.int .i64)).length = (k - j) * 1 := by rw [List.length_map, List.length_drop, HLn.out]; omega
              have HKJ := Lib.hid hkj
              clear hkj hown6' hgrow7 hr6 hB6
              go_wp2_with (at_builtin; refine wpList_append_own _ rfl _ _ 34 rfl wr.heap.size 3 i0 (.int .i64 0) 1 8 Try.underlying34 Hi.out iz0 iz1 iz2 rfl (by decide) _ _ _ rfl hown7 ⟨g, j, none⟩ (k - j) (cap0 - j) ((S.drop j).map (Value.int .i64)) rfl HKJ.out ?e1 ?e2 ?e3 ?e4 (by first | omega | (simp <;> omega)) ?_)
              case e1 => simpa [addr_add] using hr7.news HLn.out hC.out j
              case e2 => simpa using oneCells (S.drop j)
              case e3 => unfold maxLen; omega
              case e4 => omega
              intro v8 w8 hown8 hgrow8 hnn8
              have hB8 : Below wr.heap.size wr w8 := hB7.grown hgrow8 (by omega) (fun q hq => (World.ownsRow.lt hown7 q hq).1)
              have hS2 : S2 = S.take j ++ (k : Int) :: S.drop j := by have h := HS.out; rw [HTj] at h; exact h
              have ho8 : OwnL w8 w.heap.size v8 S2 := by
                refine OwnL.mono (b := wr.heap.size) ?_ (Nat.le_trans hsw1 hB.size)
                unfold OwnL
                have e1 : S2.length = j + 1 + (k - j) := by rw [hS2, List.length_append, List.length_cons, List.length_take, List.length_drop, HLn.out]; omega
                have e2 : S2.map (Value.int .i64) = (S.take j).map (Value.int .i64) ++ [.int .i64 (k : Int)] ++ (S.drop j).map (Value.int .i64) := by rw [hS2, List.map_append, List.map_cons, List.append_assoc]; rfl
                rw [e1, e2]
                first | exact hown8 | simpa using hown8
              have hne8 : v8 ≠ .slice none 0 0 := ho8.some_of_len (by rw [hS2, List.length_append, List.length_cons]; omega)
              have hB8' := hB.trans (hB8.mono hB.size)
              clear hown7 hown8 hgrow8 hB7 hB8 hr7
              go_wp2_with fail
              go_roundw
              case rel => exact ⟨k + 1, v8, by go_num, rfl, by omega, by rw [HT2.out]; exact ho8, hne8, hB8'⟩
              case measure => simp only [intOf]; omega
          · have hjk' : decide ((j : Int) < k) = false := by simp; omega
            have HTj : T = j := by omega
            have HTJ := Lib.hid HTj
            clear HTj
            go_wp2_with fail
            go_quiet (fail)
            have HTj := HTJ.out
            clear HTJ
            have hg0 := hr.lt
            have hj1 : (j : Int) ≤ cap0 := by omega
            have hj2 : (j : Int) ≤ k := by omega
            have hj0 : (0 : Int) ≤ j := by omega
            have hown1 : ((wr.drewN (q + nq)).alloc (.cells #[] 3)).ownsRow wr.heap.size 3 1 (.slice (some ⟨wr.heap.size, 0, none⟩) 0 0) 0 [] := World.ownsRow_made (base := wr.heap.size) (e := 3) (size := 1) (wr.drewN (q + nq)) #[] 0 (by simp) (by unfold maxLen; omega) rfl
            have hB1 : Below wr.heap.size wr ((wr.drewN (q + nq)).alloc (.cells #[] 3)) := (by repeat (first | exact Below.refl _ _ | assumption | (refine Below.trans ?_ (Below.mono (by assumption) (by first | omega | (simp <;> omega)))) | (refine Below.alloc ?_ (by first | omega | (simp <;> omega)) _) | (refine below_drewN ?_ _) | (refine Below.drew ?_) | (refine Below.setCell ?_ (by first | omega | (simp <;> omega)) _)))
            have hr1 := hr.below hB1 hg0
            have htl : ((S.take j).map (Value.int .i64)).length = j * 1 := by rw [List.length_map, List.length_take, HLn.out]; omega
            have HTL := Lib.hid htl
            clear htl
            go_wp2_with (at_builtin; refine wpList_append_own _ rfl _ _ 34 rfl wr.heap.size 3 i0 (.int .i64 0) 1 8 Try.underlying34 Hi.out iz0 iz1 iz2 rfl (by decide) _ _ _ rfl hown1 ⟨g, 0, none⟩ j cap0 ((S.take j).map (Value.int .i64)) rfl HTL.out ?c1 ?c2 ?c3 ?c4 (by first | omega | (simp <;> omega)) ?_)
            case c1 => simpa [addr_add] using hr1.newsTake HLn.out hC.out j
            case c2 => simpa using oneCells (S.take j)
            case c3 => unfold maxLen; omega
            case c4 => omega
            intro v6 w6 hown6 hgrow6 hnn6
            have hB6 : Below wr.heap.size wr w6 := hB1.grown hgrow6 (by simp) (fun q hq => by simp [Value.ownBlock] at hq; omega)
            have hr6 := hr.below hB6 hg0
            have hown6' : (w6.alloc (.cells #[.int .i64 (k : Int)] 3)).ownsRow wr.heap.size 3 1 v6 j ((S.take j).map (Value.int .i64)) := by
              rw [List.map_take]
              exact World.ownsRow.alloc hown6 _
            have hs6 := hB6.size
            clear hown1 hB1 hr1 hgrow6 hown6
            go_wp2_with (at_builtin; refine wpList_append_own _ rfl _ _ 34 rfl wr.heap.size 3 i0 (.int .i64 0) 1 8 Try.underlying34 Hi.out iz0 iz1 iz2 rfl (by decide) _ _ _ rfl hown6' ⟨w6.heap.size, 0, none⟩ 1 1 [.int .i64 (k : Int)] rfl rfl ?d1 ?d2 ?d3 ?d4 (by first | omega | (simp <;> omega)) ?_)
            case d1 =>
              intro j u hj
              match j, hj with
              | 0, hj => simp at hj; subst hj; exact cell_of_one (heap_alloc_new w6 _)
              | j + 1, hj => simp at hj
            case d2 => simp [Value.oneCell']
            case d3 => unfold maxLen; omega
            case d4 => omega
            intro v7 w7 hown7 hgrow7 hnn7
            have hB7 : Below wr.heap.size wr w7 := (hB6.alloc hs6 (.cells #[.int .i64 (k : Int)] 3)).grown hgrow7 (by simp; omega) (fun q hq => (World.ownsRow.lt hown6' q hq).1)
            have hr7 := hr.below hB7 hg0
            have hs7 := hB7.size
            have hkj : ((S.drop j).map (Value.int .i64)).length = (k - j) * 1 := by rw [List.length_map, List.length_drop, HLn.out]; omega
            have HKJ := Lib.hid hkj
            clear hkj hown6' hgrow7 hr6 hB6
            by_cases hcj : cap0 = j
            · go_wp2_with (at_builtin; refine wpList_append_own _ rfl _ _ 34 rfl wr.heap.size 3 i0 (.int .i64 0) 1 8 Try.underlying34 Hi.out iz0 iz1 iz2 rfl (by decide) _ _ _ rfl hown7 ⟨g, 0, none⟩ (k - j) _ ((S.drop j).map (Value.int .i64)) rfl HKJ.out ?f1 ?f2 ?f3 ?f4 (by first | omega | (simp <;> omega)) ?_)
              case f1 =>
                intro i u hu
                exfalso
                have e : S.drop j = [] := List.drop_eq_nil_of_le (by rw [HLn.out]; omega)
                first | (rw [← List.map_drop, e] at hu; simp at hu) | (rw [e] at hu; simp at hu) | (simp [e] at hu)
              case f2 => simpa using oneCells (S.drop j)
              case f3 => unfold maxLen; omega
              case f4 => omega
              intro v8 w8 hown8 hgrow8 hnn8
              have hB8 : Below wr.heap.size wr w8 := hB7.grown hgrow8 (by omega) (fun q hq => (World.ownsRow.lt hown7 q hq).1)
              have hS2 : S2 = S.take j ++ (k : Int) :: S.drop j := by have h := HS.out; rw [HTj] at h; exact h
              have ho8 : OwnL w8 w.heap.size v8 S2 := by
                refine OwnL.mono (b := wr.heap.size) ?_ (Nat.le_trans hsw1 hB.size)
                unfold OwnL
                have e1 : S2.length = j + 1 + (k - j) := by rw [hS2, List.length_append, List.length_cons, List.length_take, List.length_drop, HLn.out]; omega
                have e2 : S2.map (Value.int .i64) = (S.take j).map (Value.int .i64) ++ [.int .i64 (k : Int)] ++ (S.drop j).map (Value.int .i64) := by rw [hS2, List.map_append, List.map_cons, List.append_assoc]; rfl
                rw [e1, e2]
                first | exact hown8 | simpa using hown8
              have hne8 : v8 ≠ .slice none 0 0 := ho8.some_of_len (by rw [hS2, List.length_append, List.length_cons]; omega)
              have hB8' := hB.trans (hB8.mono hB.size)
              clear hown7 hown8 hgrow8 hB7 hB8 hr7
              go_wp2_with fail
              go_roundw
              case rel => exact ⟨k + 1, v8, by go_num, rfl, by omega, by rw [HT2.out]; exact ho8, hne8, hB8'⟩
              case measure => simp only [intOf]; omega
            · go_wp2_with (at_builtin; refine wpList_append_own _ rfl _ _ 34 rfl wr.heap.size 3 i0 (.int .i64 0) 1 8 Try.underlying34 Hi.out iz0 iz1 iz2 rfl (by decide) _ _ _ rfl hown7 ⟨g, j, none⟩ (k - j) (cap0 - j) ((S.drop j).map (Value.int .i64)) rfl HKJ.out ?e1 ?e2 ?e3 ?e4 (by first | omega | (simp <;> omega)) ?_)
              case e1 => simpa [addr_add] using hr7.news HLn.out hC.out j
              case e2 => simpa using oneCells (S.drop j)
              case e3 => unfold maxLen; omega
              case e4 => omega
              intro v8 w8 hown8 hgrow8 hnn8
              have hB8 : Below wr.heap.size wr w8 := hB7.grown hgrow8 (by omega) (fun q hq => (World.ownsRow.lt hown7 q hq).1)
              have hS2 : S2 = S.take j ++ (k : Int) :: S.drop j := by have h := HS.out; rw [HTj] at h; exact h
              have ho8 : OwnL w8 w.heap.size v8 S2 := by
                refine OwnL.mono (b := wr.heap.size) ?_ (Nat.le_trans hsw1 hB.size)
                unfold OwnL
                have e1 : S2.length = j + 1 + (k - j) := by rw [hS2, List.length_append, List.length_cons, List.length_take, List.length_drop, HLn.out]; omega
                have e2 : S2.map (Value.int .i64) = (S.take j).map (Value.int .i64) ++ [.int .i64 (k : Int)] ++ (S.drop j).map (Value.int .i64) := by rw [hS2, List.map_append, List.map_cons, List.append_assoc]; rfl
                rw [e1, e2]
                first | exact hown8 | simpa using hown8
              have hne8 : v8 ≠ .slice none 0 0 := ho8.some_of_len (by rw [hS2, List.length_append, List.length_cons]; omega)
              have hB8' := hB.trans (hB8.mono hB.size)
              clear hown7 hown8 hgrow8 hB7 hB8 hr7
              go_wp2_with fail
              go_roundw
              case rel => exact ⟨k + 1, v8, by go_num, rfl, by omega, by rw [HT2.out]; exact ho8, hne8, hB8'⟩
              case measure => simp only [intOf]; omega
      · obtain rfl : k = m := by omega
        have hkm' : decide ((k : Int) < k) = false := by simp
        have hBf : Below w.heap.size w wr := hBw.trans (hB.mono hsw1)
        clear hB
        go_wp2
        go_ret
        exact ⟨_, rfl, ho, hBf⟩
  · rw [firstF_no hc] at hp
    rw [orderF_no hc]
    clear hc
    go_enter Try.func26, Try.ntmps26
    go_wp2_with fail
    refine (hp).mono ?_; rintro e w1 ⟨v1, rfl, ho1, hb1⟩
    have hz1 := hb1.size
    try simp at hz1
    clear hp
    obtain ⟨a, cap, rfl⟩ := nil_cells ho1.reads
    have hBw : Below w.heap.size w w1 := (by repeat (first | exact Below.refl _ _ | assumption | (refine Below.trans ?_ (Below.mono (by assumption) (by first | omega | (simp <;> omega)))) | (refine Below.alloc ?_ (by first | omega | (simp <;> omega)) _) | (refine below_drewN ?_ _) | (refine Below.drew ?_) | (refine Below.setCell ?_ (by first | omega | (simp <;> omega)) _)))
    have hnil := OwnL.mono (b' := w.heap.size) (made_nil w1) hBw.size
    have hBf : Below w.heap.size w (w1.alloc (.cells #[] 3)) := hBw.alloc hBw.size _
    go_wp2_with fail
    go_loopw [6, 7] (fun y x wr => y = .slice (some ⟨w1.heap.size, 0, none⟩) 0 0 ∧ x = .int .i64 0 ∧ wr = w1.alloc (.cells #[] 3)) (fun _ x _ => 0)
    case atStart => exact ⟨rfl, rfl, rfl⟩
    case round =>
      obtain ⟨rfl, rfl, rfl⟩ := hrel
      go_wp2
      go_ret
      exact ⟨_, rfl, hnil, hBf⟩
end Go.Proofs.Ytpdnehcaogdjiaa
