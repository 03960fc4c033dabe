/- Contracts of GapsOf, of the program and of the model. Contracts of slices.Index and slices.Contains, of KindsOf and of GapsLong, of the program and of the model, and of ascend. -/
import Derived.Test.YtcfhjkaemhhndaaGSort
import Derived.Test.YtcfhjkaemhhndaaGList
import Derived.Test.YtcfhjkaemhhndaaThree
set_option linter.unusedVariables false
namespace Go.Proofs.Ytcfhjkaemhhndaa
open Go.ChangeShapes Go.WideShapes Go.ChangeAt Go.RowKit Go.Joins N

def gapsF (n s m : Int) : List Int := gapsL n (isort (firstF n s m))

theorem gapsF_yes {n s : Int} {m : Nat} (h : tok n s = true) (h0 : 1 ≤ m) (h1 : (m : Int) ≤ n) : gapsF n s m = gapsT n s m := by
  unfold gapsF gapsT srt
  rw [firstF_yes h (by omega) h1, Int.toNat_natCast]

theorem gapsF_no {n s m : Int} (h : ¬ (tok n s = true ∧ 1 ≤ m ∧ m ≤ n)) : gapsF n s m = [] := by
  unfold gapsF
  rw [firstF_no h]
  rfl

theorem gapsF_len (n s m : Int) : (gapsF n s m).length ≤ 60 := by
  by_cases hc : tok n s = true ∧ 1 ≤ m ∧ m ≤ n
  · have hb := tok_bd hc.1
    obtain ⟨m, rfl⟩ := Int.eq_ofNat_of_zero_le (by omega : 0 ≤ m)
    rw [gapsF_yes hc.1 (by omega) hc.2.2, gapsT_length]
    omega
  · rw [gapsF_no hc]; simp

theorem gapsT_take (n s : Int) {m k : Nat} (h : k < m) : (gapsT n s m).take (k + 1) = (gapsT n s m).take k ++ [(srt n s m).getD (k + 1) n - (srt n s m).getD k n] :=
  gapsL_take n _ (by rw [srt_length]; exact h)

set_option maxHeartbeats 1000000 in
theorem gapsOf_any (n s m : Int) (w : World) :
    Calls Try.prog 41 #[(.agg #[.int .i64 (n), .int .i64 (s)]), .int .i64 m] w (ListPost (gapsF n s m) w) := by
  
  have hp := sortedPoints_any n s m (w.alloc (.cells #[.int .i64 n, .int .i64 s] 24))
  by_cases hc : tok n s = true ∧ 1 ≤ m ∧ m ≤ n
  · obtain ⟨ht, h0, h1⟩ := hc
    have hb := tok_bd ht
    have htn := turns_of ht
    obtain ⟨m, rfl⟩ := Int.eq_ofNat_of_zero_le (by omega : 0 ≤ m)
    rw [firstF_yes ht h0 h1, Int.toNat_natCast, show isort (ptsL n s m) = srt n s m from rfl] at hp
    rw [gapsF_yes ht (by omega) h1]
    have hl := srt_length n s m
    have HB : Hid (∀ i, i < m → 0 ≤ (srt n s m).getD i n ∧ (srt n s m).getD i n < n) := fun i hi => by
      obtain ⟨k, hk, e⟩ := srt_at (n := n) (s := s) hi n
      have := pt_lo (n := n) s k htn.n2
      have := pt_hi (n := n) s k htn.n2
      omega
    have HT := Lib.hid ht
    clear ht htn
    go_enter Try.func41, Try.ntmps41
    go_wp2_with fail
    refine (hp).mono ?_; rintro e w1 ⟨v1, rfl, ho1, hb1⟩
    have hz1 := hb1.size
    try simp at hz1
    have t1 : Two w1 (w.heap.size) (.int .i64 n) (.int .i64 s) 24 := Two.below (by repeat (first | assumption | exact Two.new' _ _ _ _ _ (by simp) | refine Two.alloc ?_ _ | refine Two.drewN ?_ _)) hb1 (by first | omega | (simp <;> omega))
    have hlt1 : (w.heap.size) < w1.heap.size := t1.lt
    have hnt1 : ¬ (w.heap.size) = w1.heap.size := Nat.ne_of_lt hlt1
    have t1c := t1.cell0
    have t1d := t1.cell1
    clear hp
    obtain ⟨a, cap, rfl, HC0⟩ := ho1.reads.cells hl
    obtain ⟨g, off, rfl, HC⟩ := HC0 (by omega)
    have hB1 : Below w.heap.size w w1 := (by repeat (first | exact Below.refl _ _ | assumption | (refine Below.trans ?_ (Below.mono (by assumption) (by first | omega | (simp <;> omega)))) | (refine Below.alloc ?_ (by first | omega | (simp <;> omega)) _) | (refine below_drewN ?_ _) | (refine Below.drew ?_) | (refine Below.setCell ?_ (by first | omega | (simp <;> omega)) _)))
    clear ho1 hb1 HC0 hl
    go_wp2_with fail
    go_loopw [6, 15] (fun y x wr => ∃ (k : Nat) (v0 : Value), x = .int .i64 k ∧ v0 = y ∧ k ≤ m ∧ OwnL wr w1.heap.size v0 ((gapsT n s m).take k) ∧ Below w1.heap.size w1 wr) (fun _ x _ => m - (intOf x).toNat)
    case atStart => exact ⟨0, _, rfl, rfl, by omega, World.ownsRow_nil _ _ _ _, Below.refl _ _⟩
    case round =>
      obtain ⟨k, v0, rfl, rfl, hk, ho, hB⟩ := hrel
      by_cases hkm : k < m
      · have hkm' : (k : Int) < m := by omega
        have c1 := HC.out k hkm
        have ck := (hB.cell (p := ⟨g, off + k, none⟩) (World.block_lt_of_cell? w1 _ c1)).trans c1
        have hd := srt_d (n := n) (s := s) hkm 0 n
        have hbk := HB.out k hkm
        have t3 : Two wr w.heap.size (.int .i64 n) (.int .i64 s) 24 := Two.below t1 hB hlt1
        have t3c := t3.cell0
        have t3d := t3.cell1
        have HL : Hid (((gapsT n s m).take k).length = k) := by show _ = _; rw [List.length_take, gapsT_length]; omega
        have hTk := gapsT_take n s hkm
        rw [hd] at ck
        have hz := hB.size
        by_cases hk1 : k + 1 < m
        · have hk1' : (k : Int) + 1 < m := by omega
          have c2 := HC.out (k + 1) hk1
          have ck2 := (hB.cell (p := ⟨g, off + (k + 1), none⟩) (World.block_lt_of_cell? w1 _ c2)).trans c2
          have hd2 := srt_d (n := n) (s := s) hk1 0 n
          have hbk2 := HB.out (k + 1) hk1
          rw [hd2] at ck2
          generalize (srt n s m).getD k n = X at *
          generalize (srt n s m).getD (k + 1) n = Y at *
          have HTk := Lib.hid hTk
          clear c1 c2 hd hd2 hTk
          go_wp2_with (at_builtin; refine append_int rfl _ _ rfl w1.heap.size v0 ((gapsT n s m).take k) k HL (by omega) rfl ho hz rfl ?_)
          intro v5 w5 ho5 hn5 hb5
          rw [← HTk.out] at ho5
          have hB5 := hB.trans hb5
          clear ck ck2 ho hb5 t3 t3c t3d
          go_wp2_with fail
          go_roundw
          case rel => exact ⟨k + 1, _, by go_num, rfl, by omega, ho5, hB5⟩
          case measure => simp only [intOf]; omega
        · have hk1' : ¬ (k : Int) + 1 < m := by omega
          rw [getD_ge n (by rw [srt_length]; omega : (srt n s m).length ≤ k + 1)] at hTk
          generalize (srt n s m).getD k n = X at *
          have HTk := Lib.hid hTk
          clear c1 hd hTk
          go_wp2_with (at_builtin; refine append_int rfl _ _ rfl w1.heap.size v0 ((gapsT n s m).take k) k HL (by omega) rfl ho hz rfl ?_)
          intro v5 w5 ho5 hn5 hb5
          rw [← HTk.out] at ho5
          have hB5 := hB.trans hb5
          clear ck ho hb5 t3 t3c t3d
          go_wp2_with fail
          go_roundw
          case rel => exact ⟨k + 1, _, by go_num, rfl, by omega, ho5, hB5⟩
          case measure => simp only [intOf]; omega
      · obtain rfl : k = m := by omega
        have hkm' : decide ((k : Int) < k) = false := by simp
        have hsz := hB1.size
        have ho' : OwnL wr w.heap.size v0 (gapsT n s k) := by
          have h := OwnL.mono (b' := w.heap.size) ho (by omega)
          rwa [List.take_of_length_le (by rw [gapsT_length]; omega)] at h
        have hB' : Below w.heap.size w wr := hB1.trans (hB.mono hsz)
        clear ho hB
        go_wp2
        go_ret
        exact ⟨_, rfl, ho', hB'⟩
  · rw [firstF_no hc] at hp
    rw [gapsF_no hc]
    clear hc
    go_enter Try.func41, Try.ntmps41
    go_wp2_with fail
    refine (hp).mono ?_; rintro e w1 ⟨v1, rfl, ho1, hb1⟩
    have hz1 := hb1.size
    try simp at hz1
    clear hp
    obtain ⟨a, cap, rfl⟩ := nil_cells ho1.reads
    go_wp2_with fail
    go_loopw [6, 15] (fun y x wr => y = .slice none 0 0 ∧ x = .int .i64 0 ∧ wr = w1) (fun _ x _ => 0)
    case atStart => exact ⟨rfl, rfl, rfl⟩
    case round =>
      obtain ⟨rfl, rfl, rfl⟩ := hrel
      go_wp2
      go_ret
      exact ⟨_, rfl, World.ownsRow_nil _ _ _ _, (by repeat (first | exact Below.refl _ _ | assumption | (refine Below.trans ?_ (Below.mono (by assumption) (by first | omega | (simp <;> omega)))) | (refine Below.alloc ?_ (by first | omega | (simp <;> omega)) _) | (refine below_drewN ?_ _) | (refine Below.drew ?_) | (refine Below.setCell ?_ (by first | omega | (simp <;> omega)) _)))⟩

set_option maxHeartbeats 1000000 in
theorem specGapsOf_any (n s m : Int) (w : World) :
    Calls Try.prog 55 #[(.agg #[.int .i64 (n), .int .i64 (s)]), .int .i64 m] w (ListPost (gapsF n s m) w) := by
  
  obtain ⟨W0, hW0⟩ : ∃ W0, (w.alloc (.cells #[.int .i64 n, .int .i64 s] 24)).alloc (.cells #[] 3) = W0 := ⟨_, rfl⟩
  have hp := specFirstPoints_any n s m ((w.alloc (.cells #[.int .i64 n, .int .i64 s] 24)).alloc (.cells #[] 3))
  have hnil := made_nil (w.alloc (.cells #[.int .i64 n, .int .i64 s] 24))
  rw [World.size_alloc] at hnil
  clear hW0
  by_cases hc : tok n s = true ∧ 1 ≤ m ∧ m ≤ n
  · obtain ⟨ht, h0, h1⟩ := hc
    have hb := tok_bd ht
    have htn := turns_of ht
    obtain ⟨m, rfl⟩ := Int.eq_ofNat_of_zero_le (by omega : 0 ≤ m)
    rw [firstF_yes ht h0 h1, Int.toNat_natCast] at hp
    rw [gapsF_yes ht (by omega) h1]
    have hl := srt_length n s m
    have HB : Hid (∀ i, i < m → 0 ≤ (srt n s m).getD i n ∧ (srt n s m).getD i n < n) := fun i hi => by
      obtain ⟨k, hk, e⟩ := srt_at (n := n) (s := s) hi n
      have := pt_lo (n := n) s k htn.n2
      have := pt_hi (n := n) s k htn.n2
      omega
    have HT := Lib.hid ht
    have hpl := ptsL_length n s m
    clear ht htn
    go_enter Try.func55, Try.ntmps55
    go_wp2_with fail
    refine (hp).mono ?_; rintro e w1 ⟨v1, rfl, ho1, hb1⟩
    have hz1 := hb1.size
    try simp at hz1
    have t1 : Two w1 (w.heap.size) (.int .i64 n) (.int .i64 s) 24 := Two.below (by repeat (first | assumption | exact Two.new' _ _ _ _ _ (by simp) | refine Two.alloc ?_ _ | refine Two.drewN ?_ _)) hb1 (by first | omega | (simp <;> omega))
    have hlt1 : (w.heap.size) < w1.heap.size := t1.lt
    have hnt1 : ¬ (w.heap.size) = w1.heap.size := Nat.ne_of_lt hlt1
    have t1c := t1.cell0
    have t1d := t1.cell1
    have hn1 := hnil.below hb1
    clear hp hnil
    go_wp2_with fail
    refine (l2Sorted_any v1 (ptsL n s m) _ ho1.reads (by omega)).mono ?_; rintro e w2 ⟨v2, rfl, ho2, hb2⟩
    have hz2 := hb2.size
    try simp at hz2
    have t2 : Two w2 (w.heap.size) (.int .i64 n) (.int .i64 s) 24 := Two.below (by repeat (first | assumption | exact Two.new' _ _ _ _ _ (by simp) | refine Two.alloc ?_ _ | refine Two.drewN ?_ _)) hb2 (by first | omega | (simp <;> omega))
    have hlt2 : (w.heap.size) < w2.heap.size := t2.lt
    have hnt2 : ¬ (w.heap.size) = w2.heap.size := Nat.ne_of_lt hlt2
    have t2c := t2.cell0
    have t2d := t2.cell1
    have hn2 := hn1.below hb2
    obtain ⟨a, cap, rfl, HC0⟩ := (show Reads w2 v2 (srt n s m) from ho2.reads).cells hl
    obtain ⟨g, off, rfl, HC⟩ := HC0 (by omega)
    have hB1 : Below w.heap.size w w2 := (by repeat (first | exact Below.refl _ _ | assumption | (refine Below.trans ?_ (Below.mono (by assumption) (by first | omega | (simp <;> omega)))) | (refine Below.alloc ?_ (by first | omega | (simp <;> omega)) _) | (refine below_drewN ?_ _) | (refine Below.drew ?_) | (refine Below.setCell ?_ (by first | omega | (simp <;> omega)) _)))
    have hE : OwnE w2 (w.heap.size + 1) w2.heap.size (.slice (some ⟨w.heap.size + 1, 0, none⟩) 0 0) [] := .inl ⟨_, rfl, rfl, hn2⟩
    clear ho1 ho2 hb1 hb2 hn1 hn2 HC0 hl hpl
    go_wp2_with fail
    go_loopw [5, 7] (fun y x wr => ∃ (k : Nat) (v0 : Value), x = .int .i64 k ∧ v0 = y ∧ k ≤ m ∧ OwnE wr (w.heap.size + 1) w2.heap.size v0 ((gapsT n s m).take k) ∧ v0 ≠ .slice none 0 0 ∧ Below w2.heap.size w2 wr) (fun _ x _ => m - (intOf x).toNat)
    case atStart => exact ⟨0, _, rfl, rfl, by omega, hE, by simp, Below.refl _ _⟩
    case round =>
      obtain ⟨k, v0, rfl, rfl, hk, ho, hn0, hB⟩ := hrel
      clear hE
      by_cases hkm : k < m
      · have hkm' : (k : Int) < m := by omega
        have c1 := HC.out k hkm
        have ck := (hB.cell (p := ⟨g, off + k, none⟩) (World.block_lt_of_cell? w2 _ c1)).trans c1
        have hd := srt_d (n := n) (s := s) hkm 0 n
        have hbk := HB.out k hkm
        have t3 : Two wr w.heap.size (.int .i64 n) (.int .i64 s) 24 := Two.below t2 hB hlt2
        have t3c := t3.cell0
        have t3d := t3.cell1
        have HL : Hid (((gapsT n s m).take k).length = k) := by show _ = _; rw [List.length_take, gapsT_length]; omega
        have hTk := gapsT_take n s hkm
        rw [hd] at ck
        have hz := hB.size
        by_cases hk1 : k + 1 < m
        · have hk1' : (k : Int) + 1 < m := by omega
          have c2 := HC.out (k + 1) hk1
          have ck2 := (hB.cell (p := ⟨g, off + (k + 1), none⟩) (World.block_lt_of_cell? w2 _ c2)).trans c2
          have hd2 := srt_d (n := n) (s := s) hk1 0 n
          have hbk2 := HB.out (k + 1) hk1
          rw [hd2] at ck2
          generalize (srt n s m).getD k n = X at *
          generalize (srt n s m).getD (k + 1) n = Y at *
          have HTk := Lib.hid hTk
          clear c1 c2 hd hd2 hTk
          go_wp2_with (at_builtin; refine append_e rfl _ _ rfl (w.heap.size + 1) w2.heap.size v0 ((gapsT n s m).take k) k HL (by omega) rfl ho hz rfl ?_)
          intro v5 w5 ho5 hn5 hb5
          rw [← HTk.out] at ho5
          have hB5 := hB.trans hb5
          clear ck ck2 ho hb5 t3 t3c t3d
          go_wp2_with fail
          go_roundw
          case rel => exact ⟨k + 1, _, by go_num, rfl, by omega, ho5, hn5, hB5⟩
          case measure => simp only [intOf]; omega
        · have hk1' : ¬ (k : Int) + 1 < m := by omega
          rw [getD_ge n (by rw [srt_length]; omega : (srt n s m).length ≤ k + 1)] at hTk
          generalize (srt n s m).getD k n = X at *
          have HTk := Lib.hid hTk
          clear c1 hd hTk
          go_wp2_with (at_builtin; refine append_e rfl _ _ rfl (w.heap.size + 1) w2.heap.size v0 ((gapsT n s m).take k) k HL (by omega) rfl ho hz rfl ?_)
          intro v5 w5 ho5 hn5 hb5
          rw [← HTk.out] at ho5
          have hB5 := hB.trans hb5
          clear ck ho hb5 t3 t3c t3d
          go_wp2_with fail
          go_roundw
          case rel => exact ⟨k + 1, _, by go_num, rfl, by omega, ho5, hn5, hB5⟩
          case measure => simp only [intOf]; omega
      · obtain rfl : k = m := by omega
        have hkm' : decide ((k : Int) < k) = false := by simp
        have hsz := hB1.size
        have ho' : OwnL wr w.heap.size v0 (gapsT n s k) := by
          have h := OwnL.mono (b' := w.heap.size) (ho.own (by omega)) (by omega)
          rwa [List.take_of_length_le (by rw [gapsT_length]; omega)] at h
        have hB' : Below w.heap.size w wr := hB1.trans (hB.mono hsz)
        clear ho hB
        go_wp2
        go_ret
        exact ⟨_, rfl, ho', hB'⟩
  · rw [firstF_no hc] at hp
    rw [gapsF_no hc]
    clear hc
    go_enter Try.func55, Try.ntmps55
    go_wp2_with fail
    refine (hp).mono ?_; rintro e w1 ⟨v1, rfl, ho1, hb1⟩
    have hz1 := hb1.size
    try simp at hz1
    have hn1 := hnil.below hb1
    clear hp hnil
    go_wp2_with fail
    refine (l2Sorted_any v1 [] _ ho1.reads (by simp)).mono ?_; rintro e w2 ⟨v2, rfl, ho2, hb2⟩
    have hz2 := hb2.size
    try simp at hz2
    have hn2 := (hn1.below hb2).mono (b' := w.heap.size) (by omega)
    obtain ⟨a, cap, rfl⟩ := nil_cells (show Reads w2 v2 [] from ho2.reads)
    have hB1 : Below w.heap.size w w2 := (by repeat (first | exact Below.refl _ _ | assumption | (refine Below.trans ?_ (Below.mono (by assumption) (by first | omega | (simp <;> omega)))) | (refine Below.alloc ?_ (by first | omega | (simp <;> omega)) _) | (refine below_drewN ?_ _) | (refine Below.drew ?_) | (refine Below.setCell ?_ (by first | omega | (simp <;> omega)) _)))
    clear ho1 ho2 hb1 hb2 hn1
    go_wp2_with fail
    go_loopw [5, 7] (fun y x wr => y = .slice (some ⟨w.heap.size + 1, 0, none⟩) 0 0 ∧ x = .int .i64 0 ∧ wr = w2) (fun _ x _ => 0)
    case atStart => exact ⟨rfl, rfl, rfl⟩
    case round =>
      obtain ⟨rfl, rfl, rfl⟩ := hrel
      go_wp2
      go_ret
      exact ⟨_, rfl, hn2, hB1⟩
end Go.Proofs.Ytcfhjkaemhhndaa

set_option linter.unusedVariables false
namespace Go.Proofs.Ytcfhjkaemhhndaa
open Go.ChangeShapes Go.WideShapes Go.ChangeAt Go.RowKit Go.Joins N

theorem take_one (xs : List Int) {k : Nat} (h : k < xs.length) : xs.take (k + 1) = xs.take k ++ [xs.getD k 0] := by
  rw [List.take_succ_eq_append_getElem h, List.getD_eq_getElem?_getD, List.getElem?_eq_getElem h]; rfl

set_option maxHeartbeats 1000000 in
theorem index_any (v : Value) (xs : List Int) (n : Int) (w : World) (hv : Reads w v xs) (hx : xs.length ≤ 1000000) :
    Calls Try.prog 72 #[v, .int .i64 n] w fun e w' => (∃ j : Int, e = .returned (.int .i64 j) ∧ (0 ≤ j ↔ n ∈ xs)) ∧ w = w' := by
  obtain ⟨N, hN⟩ : ∃ N, xs.length = N := ⟨_, rfl⟩
  obtain ⟨a, cap, rfl, HC0⟩ := hv.cells hN
  rw [hN] at hx
  by_cases h0 : N = 0
  · subst h0
    obtain rfl := nil_of_len hN
    clear HC0
    go_enter Try.func72, Try.ntmps72
    go_wp2_with fail
    go_loop [8] (fun i => i = .int .i64 0) (fun _ => 0)
    case atStart => rfl
    case round =>
      obtain rfl := hrel
      go_wp2
      go_ret
      exact ⟨⟨_, rfl, by simp⟩, rfl⟩
  · obtain ⟨g, off, rfl, HC⟩ := HC0 h0
    have HN := Lib.hid hN
    clear HC0 hN
    go_enter Try.func72, Try.ntmps72
    go_wp2_with fail
    go_loop [8] (fun i => ∃ k : Nat, i = .int .i64 k ∧ k ≤ N ∧ Hid (n ∉ xs.take k)) (fun i => N - (intOf i).toNat)
    case atStart => exact ⟨0, rfl, by omega, by show n ∉ xs.take 0; simp⟩
    case round =>
      obtain ⟨k, rfl, hk, hn⟩ := hrel
      by_cases hlt : k < N
      · have hlt' : (k : Int) < N := by omega
        have c1 := HC.out k hlt
        have hm : xs.getD k 0 ∈ xs := by rw [List.getD_eq_getElem?_getD, List.getElem?_eq_getElem (by rw [HN.out]; exact hlt)]; simp
        have hs := take_one xs (k := k) (by rw [HN.out]; exact hlt)
        generalize xs.getD k 0 = X at c1 hm hs
        have HM := Lib.hid hm
        have HS := Lib.hid hs
        clear hm hs
        by_cases he : X = n
        · subst he
          have HI : Hid ((0 : Int) ≤ k ↔ X ∈ xs) := ⟨fun _ => HM.out, fun _ => by omega⟩
          go_wp2
          go_ret
          exact ⟨⟨_, rfl, HI.out⟩, rfl⟩
        · have he' : (n == X) = false := by simp; exact fun e => he e.symm
          go_wp2_with fail
          go_round
          case rel => exact ⟨k + 1, by go_num, by omega, by show n ∉ xs.take (k + 1); rw [HS.out]; simp; exact ⟨hn.out, fun e => he e.symm⟩⟩
          case measure => simp only [intOf]; omega
      · have hlt' : decide ((k : Int) < N) = false := by simp; omega
        have HI : Hid (n ∉ xs) := by
          have := hn.out
          rwa [List.take_of_length_le (by rw [HN.out]; omega)] at this
        go_wp2
        go_ret
        exact ⟨⟨_, rfl, ⟨fun h => absurd h (by decide), fun h => absurd h HI.out⟩⟩, rfl⟩

set_option maxHeartbeats 400000 in
theorem contains_any (v : Value) (xs : List Int) (n : Int) (w : World) (hv : Reads w v xs) (hx : xs.length ≤ 1000000) :
    Calls Try.prog 65 #[v, .int .i64 n] w fun e w' => e = .returned (.bool (decide (n ∈ xs))) ∧ w = w' := by
  go_enter Try.func65, Try.ntmps65
  go_wp2_with fail
  refine (index_any v xs n _ hv hx).mono ?_; rintro e w1 ⟨⟨j, rfl, hj⟩, rfl⟩
  have HJ := Lib.hid hj
  clear hj hv
  go_wp2
  go_ret
  exact ⟨ret_bool (decide_eq_decide.2 HJ.out), rfl⟩

def kindsF (n s m : Int) : List Int := kindsL (gapsF n s m)

theorem kindsL_le (xs : List Int) : (kindsL xs).length ≤ xs.length := by
  have h : ∀ (ys acc : List Int), (ys.foldl (fun ks g => if g ∈ ks then ks else ins g ks) acc).length ≤ acc.length + ys.length := by
    intro ys
    induction ys with
    | nil => intro acc; simp
    | cons y ys ih =>
      intro acc
      rw [List.foldl_cons]
      have := ih (if y ∈ acc then acc else ins y acc)
      by_cases hy : y ∈ acc
      · rw [if_pos hy] at *; simp at *; omega
      · rw [if_neg hy] at *; rw [ins_length] at this; simp at *; omega
  have := h xs []
  simpa [kindsL] using this

theorem kindsF_len (n s m : Int) : (kindsF n s m).length ≤ 60 := Nat.le_trans (kindsL_le _) (gapsF_len n s m)

theorem kindsF_no {n s m : Int} (h : ¬ (tok n s = true ∧ 1 ≤ m ∧ m ≤ n)) : kindsF n s m = [] := by
  unfold kindsF; rw [gapsF_no h]; rfl

set_option maxHeartbeats 1000000 in
theorem insertOnce_any (v : Value) (x : Int) (xs : List Int) (b : Nat) (w : World) (ho : OwnL w b v xs) (hbw : b ≤ w.heap.size) (hw : xs.Pairwise (· ≤ ·)) (hx : xs.length ≤ 100000) :
    Calls Try.prog 42 #[v, .int .i64 x] w (InsPost b (if x ∈ xs then xs else ins x xs) w) := by
  by_cases h : x ∈ xs
  · rw [if_pos h]
    go_enter Try.func42, Try.ntmps42
    go_wp2_with fail
    refine (contains_any v xs x _ ho.reads (by omega)).mono ?_; rintro e w2 ⟨rfl, rfl⟩
    rw [decide_eq_true h]
    go_wp2
    go_ret
    exact ⟨_, rfl, ho, Below.refl _ _⟩
  · rw [if_neg h]
    go_enter Try.func42, Try.ntmps42
    go_wp2_with fail
    refine (contains_any v xs x _ ho.reads (by omega)).mono ?_; rintro e w2 ⟨rfl, rfl⟩
    rw [decide_eq_false h]
    go_wp2_with fail
    refine (insertSorted_any v x xs b _ ho hbw hw hx).mono ?_; rintro e w3 ⟨v3, rfl, ho3, hb3⟩
    go_wp2
    go_ret
    exact ⟨_, rfl, ho3, hb3⟩

set_option maxHeartbeats 1000000 in
theorem kindsOf_any (n s m : Int) (w : World) :
    Calls Try.prog 15 #[(.agg #[.int .i64 (n), .int .i64 (s)]), .int .i64 m] w (ListPost (kindsF n s m) w) := by
  have hp := gapsOf_any n s m (w.alloc (.cells #[.int .i64 n, .int .i64 s] 24))
  have hlen := gapsF_len n s m
  unfold kindsF
  generalize gapsF n s m = L at hp hlen ⊢
  
  obtain ⟨N, hN⟩ : ∃ N, L.length = N := ⟨_, rfl⟩
  rw [hN] at hlen
  go_enter Try.func15, Try.ntmps15
  go_wp2_with fail
  refine (hp).mono ?_; rintro e w1 ⟨v1, rfl, ho1, hb1⟩
  have hz1 := hb1.size
  try simp at hz1
  clear hp
  obtain ⟨a, cap, rfl, HC0⟩ := ho1.reads.cells hN
  have HC1 : Hid (∀ j, j < N → ∃ g off, a = some ⟨g, off, none⟩ ∧ w1.cell? ⟨g, off + j, none⟩ = some (.int .i64 (L.getD j 0))) := fun j hj => by
    obtain ⟨g, off, e, h⟩ := HC0 (by omega)
    exact ⟨g, off, e, h.out j hj⟩
  have hB1 : Below w.heap.size w w1 := (by repeat (first | exact Below.refl _ _ | assumption | (refine Below.trans ?_ (Below.mono (by assumption) (by first | omega | (simp <;> omega)))) | (refine Below.alloc ?_ (by first | omega | (simp <;> omega)) _) | (refine below_drewN ?_ _) | (refine Below.drew ?_) | (refine Below.setCell ?_ (by first | omega | (simp <;> omega)) _)))
  have HN := Lib.hid hN
  clear ho1 hb1 HC0 hN
  go_wp2_with fail
  go_loopw [5, 12] (fun y x wr => ∃ (k : Nat) (v0 : Value), x = .int .i64 k ∧ v0 = y ∧ k ≤ N ∧ OwnL wr w1.heap.size v0 (kindsL (L.take k)) ∧ Below w1.heap.size w1 wr) (fun _ x _ => N - (intOf x).toNat)
  case atStart => exact ⟨0, _, rfl, rfl, by omega, World.ownsRow_nil _ _ _ _, Below.refl _ _⟩
  case round =>
    obtain ⟨k, v0, rfl, rfl, hk, ho, hB⟩ := hrel
    by_cases hkm : k < N
    · have hkm' : (k : Int) < N := by omega
      obtain ⟨g, off, rfl, c1⟩ := HC1.out k hkm
      have ck := (hB.cell (p := ⟨g, off + k, none⟩) (World.block_lt_of_cell? w1 _ c1)).trans c1
      have hS := kindsL_snoc (L.take k) (L.getD k 0)
      rw [← take_one L (by rw [HN.out]; exact hkm)] at hS
      have hwk := ((kindsL_is (L.take k)).1).imp (fun {a b} (h : a < b) => Int.le_of_lt h)
      have hlen := Nat.le_trans (kindsL_le (L.take k)) (by rw [List.length_take]; omega : (L.take k).length ≤ 60)
      generalize L.getD k 0 = X at c1 ck hS
      clear c1
      go_wp2_with fail
      refine (insertOnce_any v0 X _ w1.heap.size _ ho hB.size hwk (by omega)).mono ?_; rintro e w3 ⟨v3, rfl, ho3, hb3⟩
      rw [← hS] at ho3
      have hB3 := hB.trans hb3
      clear ck ho hb3 hwk hS hlen hB
      go_wp2_with fail
      go_roundw
      case rel => exact ⟨k + 1, _, by go_num, rfl, by omega, ho3, hB3⟩
      case measure => simp only [intOf]; omega
    · obtain rfl : k = N := by omega
      have hkm' : decide ((k : Int) < k) = false := by simp
      have hsz := hB1.size
      have ho' : OwnL wr w.heap.size v0 (kindsL L) := by
        have h := OwnL.mono (b' := w.heap.size) ho (by omega)
        rwa [List.take_of_length_le (by rw [HN.out]; omega)] at h
      have hB' : Below w.heap.size w wr := hB1.trans (hB.mono hsz)
      clear ho hB
      go_wp2
      go_ret
      exact ⟨_, rfl, ho', hB'⟩

/-- the numbers of a row that differ from the one before -/
def dd (ys : List Int) : Nat → List Int
  | 0 => []
  | k + 1 => if k = 0 ∨ ys.getD k 0 ≠ ys.getD (k - 1) 0 then dd ys k ++ [ys.getD k 0] else dd ys k

theorem dd_yes {ys : List Int} {k : Nat} (h : k = 0 ∨ ys.getD k 0 ≠ ys.getD (k - 1) 0) : dd ys (k + 1) = dd ys k ++ [ys.getD k 0] := by
  rw [dd, if_pos h]

theorem dd_no {ys : List Int} {k : Nat} (h : ¬ (k = 0 ∨ ys.getD k 0 ≠ ys.getD (k - 1) 0)) : dd ys (k + 1) = dd ys k := by
  rw [dd, if_neg h]

theorem dd_len (ys : List Int) (k : Nat) : (dd ys k).length ≤ k := by
  induction k with
  | zero => simp [dd]
  | succ k ih => rw [dd]; split <;> (try simp) <;> omega

theorem wk_getD {ys : List Int} (h : ys.Pairwise (· ≤ ·)) {i j : Nat} (hij : i < j) (hj : j < ys.length) : ys.getD i 0 ≤ ys.getD j 0 := by
  rw [List.getD_eq_getElem?_getD, List.getD_eq_getElem?_getD, List.getElem?_eq_getElem hj, List.getElem?_eq_getElem (by omega : i < ys.length)]
  exact List.pairwise_iff_getElem.1 h i j (by omega) hj hij

theorem dd_is {ys : List Int} (h : ys.Pairwise (· ≤ ·)) (k : Nat) (hk : k ≤ ys.length) :
    (dd ys k).Pairwise (· < ·) ∧ (∀ x, x ∈ dd ys k ↔ x ∈ ys.take k) ∧ (∀ x ∈ dd ys k, x ≤ ys.getD (k - 1) 0) := by
  induction k with
  | zero => exact ⟨.nil, fun x => by simp [dd], fun x hx => by simp [dd] at hx⟩
  | succ k ih =>
    obtain ⟨a, b, c⟩ := ih (by omega)
    rw [take_one ys (by omega)]
    by_cases hc : k = 0 ∨ ys.getD k 0 ≠ ys.getD (k - 1) 0
    · rw [dd_yes hc]
      have hlt : ∀ x ∈ dd ys k, x < ys.getD k 0 := fun x hx => by
        rcases hc with rfl | hc
        · simp [dd] at hx
        · have k0 : k ≠ 0 := by rintro rfl; simp [dd] at hx
          have := c x hx
          have := wk_getD h (by omega : k - 1 < k) (by omega)
          omega
      refine ⟨List.pairwise_append.2 ⟨a, by simp, fun x hx y hy => ?_⟩, fun x => ?_, fun x hx => ?_⟩
      · simp only [List.mem_singleton] at hy
        subst hy
        exact hlt x hx
      · rw [List.mem_append, List.mem_append, b x]
      · rw [List.mem_append, List.mem_singleton] at hx
        show x ≤ ys.getD k 0
        rcases hx with hx | rfl
        · have := hlt x hx; omega
        · exact Int.le_refl _
    · rw [dd_no hc]
      have k0 : k ≠ 0 := fun e => hc (.inl e)
      have e : ys.getD k 0 = ys.getD (k - 1) 0 := Decidable.byContradiction fun e => hc (.inr e)
      refine ⟨a, fun x => ?_, fun x hx => ?_⟩
      · rw [List.mem_append, List.mem_singleton, b x]
        constructor
        · exact .inl
        · rintro (hx | rfl)
          · exact hx
          · rw [e]
            have hm : ys.getD (k - 1) 0 ∈ ys.take (k - 1 + 1) := by
              rw [take_one ys (by omega)]; simp
            rwa [show k - 1 + 1 = k by omega] at hm
      · show x ≤ ys.getD k 0
        rw [e]
        exact c x hx

theorem dd_kinds (g : List Int) {N : Nat} (hN : g.length = N) : dd (isort g) N = kindsL g := by
  subst hN
  obtain ⟨a, b, _⟩ := dd_is (isort_wk g) g.length (by rw [isort_length]; exact Nat.le_refl _)
  obtain ⟨a', b'⟩ := kindsL_is g
  refine asc_ext a a' fun x => ?_
  rw [b x, List.take_of_length_le (by rw [isort_length]; exact Nat.le_refl _), isort_mem, b' x]

end Go.Proofs.Ytcfhjkaemhhndaa
