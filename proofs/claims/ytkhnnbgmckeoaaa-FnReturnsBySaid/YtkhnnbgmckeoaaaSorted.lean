/- Contract of l2Sorted of the model. -/
import Derived.Test.YtkhnnbgmckeoaaaIns
set_option linter.unusedVariables false
namespace Go.Proofs.Ytkhnnbgmckeoaaa
open Go.ChangeShapes Go.WideShapes Go.ChangeAt Go.RowKit Go.Joins N

theorem addr_add (g o j : Nat) : (⟨g, o, none⟩ : Addr).add j = ⟨g, o + j, none⟩ := by unfold Addr.add; split <;> simp_all

/-- the cells of a row from a place on are the row from that place on -/
theorem RowAt.news {w : World} {g : Nat} {cur : Array Value} {xs : List Int} {N : Nat} (h : RowAt w g cur) (hN : xs.length = N) (hc : ∀ i, i < N → cur[i]? = some (.int .i64 (xs.getD i 0))) (at' : Nat) :
    ∀ j u, ((xs.drop at').map (Value.int .i64))[j]? = some u → w.cell? ⟨g, at' + j, none⟩ = some u := by
  intro j u hu
  subst hN
  rw [List.getElem?_map, List.getElem?_drop] at hu
  by_cases hj : at' + j < xs.length
  · rw [List.getElem?_eq_getElem hj] at hu
    simp at hu
    have e := h.cell (at' + j)
    rw [hc _ hj, List.getD_eq_getElem?_getD, List.getElem?_eq_getElem hj] at e
    simp at e
    rw [hu] at e
    exact e
  · rw [List.getElem?_eq_none (by omega)] at hu
    simp at hu

theorem RowAt.newsTake {w : World} {g : Nat} {cur : Array Value} {xs : List Int} {N : Nat} (h : RowAt w g cur) (hN : xs.length = N) (hc : ∀ i, i < N → cur[i]? = some (.int .i64 (xs.getD i 0))) (m : Nat) :
    ∀ j u, ((xs.take m).map (Value.int .i64))[j]? = some u → w.cell? ⟨g, j, none⟩ = some u := by
  intro j u hu
  have h0 := h.news hN hc 0 j u
  rw [Nat.zero_add] at h0
  refine h0 ?_
  rw [List.map_take, List.getElem?_take] at hu
  split at hu
  · simpa using hu
  · cases hu

theorem oneCells (xs : List Int) : ∀ u ∈ xs.map (Value.int .i64), u.oneCell' = true := by
  intro u hu
  obtain ⟨x, _, rfl⟩ := List.mem_map.1 hu
  rfl

set_option maxHeartbeats 4000000 in
theorem l2Sorted_any (v : Value) (xs : List Int) (w : World) (hv : Reads w v xs) (hx : xs.length ≤ 100000) :
    Calls Try.prog 70 #[v] w (ListPost (isort xs) w) := by
  obtain ⟨i0, hi, iz0, iz1, iz2⟩ := info_parts infoInt
  have Hi := Lib.hid hi
  clear hi
  obtain ⟨a, cap, rfl, ha⟩ := hv
  have hnil : OwnL (w.alloc (.cells #[] 3)) w.heap.size (.slice (some ⟨w.heap.size, 0, none⟩) 0 0) [] :=
    World.ownsRow_made (base := w.heap.size) (e := 3) (size := 1) w #[] 0 (by omega) (by unfold maxLen; omega) rfl
  have hB0 : Below w.heap.size w (w.alloc (.cells #[] 3)) := (by repeat (first | exact Below.refl _ _ | assumption | (refine Below.trans ?_ (Below.mono (by assumption) (by first | omega | (simp <;> omega)))) | (refine Below.alloc ?_ (by first | omega | (simp <;> omega)) _) | (refine below_drewN ?_ _) | (refine Below.drew ?_) | (refine Below.setCell ?_ (by first | omega | (simp <;> omega)) _)))
  obtain ⟨N, hN⟩ : ∃ N, xs.length = N := ⟨_, rfl⟩
  have HA : Hid (∀ k, k < N → ∃ g off, a = some ⟨g, off, none⟩ ∧ w.cell? ⟨g, off + k, none⟩ = some (.int .i64 (xs.getD k 0))) := fun k hk => by
    obtain ⟨g, off, e, h⟩ := ha (fun e => by rw [e] at hN; simp at hN; omega)
    exact ⟨g, off, e, h k (by omega)⟩
  have HN := Lib.hid hN
  rw [hN] at hx ⊢
  clear ha hN
  go_enter Try.func70, Try.ntmps70
  go_wp2_with fail
  go_loopw [3, 4] (fun y x wr => ∃ (k : Nat) (v0 : Value), x = .int .i64 k ∧ v0 = y ∧ k ≤ N ∧ OwnL wr w.heap.size v0 (isort (xs.take k)) ∧ v0 ≠ .slice none 0 0 ∧ Below w.heap.size w wr) (fun _ x _ => N - (intOf x).toNat)
  case atStart => exact ⟨0, _, rfl, rfl, by omega, hnil, by simp, hB0⟩
  case round =>
    obtain ⟨k, v0, rfl, rfl, hk, ho, hne, hB⟩ := hrel
    clear hnil hB0
    by_cases hkm : k < N
    · have hkm' : (k : Int) < N := by omega
      obtain ⟨ga, offa, rfl, ca⟩ := HA.out k hkm
      obtain ⟨X, hX⟩ : ∃ X, xs.getD k 0 = X := ⟨_, rfl⟩
      rw [hX] at ca
      have ck := (hB.cell (p := ⟨ga, offa + k, none⟩) (World.block_lt_of_cell? w _ ca)).trans ca
      have hS : isort (xs.take (k + 1)) = ins X (isort (xs.take k)) := by
        rw [List.take_succ_eq_append_getElem (by rw [HN.out]; exact hkm), isort_snoc]
        congr 1
        rw [← hX, List.getD_eq_getElem?_getD, List.getElem?_eq_getElem (by rw [HN.out]; exact hkm)]
        rfl
      have hlen : (isort (xs.take k)).length = k := by rw [isort_length, List.length_take, HN.out]; omega
      generalize hT : isort (xs.take k) = S at *
      generalize hT2 : isort (xs.take (k + 1)) = S2 at *
      have HS := Lib.hid hS
      have HT2 := Lib.hid hT2
      have HLn := Lib.hid hlen
      obtain ⟨g, cap0, cur, rfl, hbg, hr, hs, hn, hm, hcur⟩ := ho.row hlen hne
      have hC := Lib.hid hcur
      clear ca hX hS hT hT2 hlen ho hne hcur
      have HM := Lib.hid hm
      clear hm
      go_wp2_with fail
      go_loopw [5] (fun y wi => ∃ (j q : Nat), y = .int .i64 j ∧ j ≤ k ∧ Hid (∀ i, i < j → S.getD i 0 < X) ∧ wi = wr.drewN q) (fun y _ => k - (intOf y).toNat)
      case atStart => exact ⟨0, 0, rfl, by omega, fun i hi => by omega, rfl⟩
      case round =>
        obtain ⟨j, q, rfl, hj, HJ, rfl⟩ := hrel
        by_cases hjk : j < k
        · have hjk' : (j : Int) < k := by omega
          have cj := hr.cell j
          rw [hC.out j hjk] at cj
          obtain ⟨Y, hY⟩ : ∃ Y, S.getD j 0 = Y := ⟨_, rfl⟩
          rw [hY] at cj
          have HY := Lib.hid hY
          clear hY
          by_cases hxy : Y < X
          · have HJ2 : Hid (∀ i, i < j + 1 → S.getD i 0 < X) := fun i hi => by
              by_cases h : i = j
              · rw [h, HY.out]; exact hxy
              · exact HJ.out i (by omega)
            go_wp2_with fail
            go_quiet (fail)
            go_wp2_with fail
            go_roundw
            case rel => exact ⟨j + 1, q + nq, by go_num, by omega, HJ2.out, by simp⟩
            case measure => simp only [intOf]; omega
          · have d : decide (Y < X) = false := by simpa using hxy
            have HLow : Hid (∀ x ∈ S.take j, x < X) := fun x hx => by
              obtain ⟨i, hi, e⟩ := mem_getD 0 hx
              rw [List.length_take] at hi
              have h := HJ.out i (by omega)
              rw [List.getD_eq_getElem?_getD, List.getElem?_take_of_lt (by omega)] at e
              rw [List.getD_eq_getElem?_getD] at h
              omega
            have HHigh : Hid (∀ y ∈ (S.drop j).head?, X ≤ y) := fun y hy => by
              rw [List.head?_drop] at hy
              have h := HY.out
              rw [List.getD_eq_getElem?_getD] at h
              rw [Option.mem_def] at hy
              rw [hy] at h
              simp at h
              omega
            go_wp2_with fail
            go_quiet (fail)
            have hg0 := hr.lt
            have j1 : (j : Int) ≤ cap0 := by omega
            have j2 : (j : Int) ≤ k := by omega
            have j0 : (0 : Int) ≤ j := by omega
            have hga := World.block_lt_of_cell? wr _ ck
            have hown1 : ((wr.drewN (q + nq)).alloc (.cells #[] 3)).ownsRow wr.heap.size 3 1 (.slice (some ⟨wr.heap.size, 0, none⟩) 0 0) 0 [] := World.ownsRow_made (base := wr.heap.size) (e := 3) (size := 1) (wr.drewN (q + nq)) #[] 0 (by simp) (by unfold maxLen; omega) rfl
            have hB1 : Below wr.heap.size wr ((wr.drewN (q + nq)).alloc (.cells #[] 3)) := (by repeat (first | exact Below.refl _ _ | assumption | (refine Below.trans ?_ (Below.mono (by assumption) (by first | omega | (simp <;> omega)))) | (refine Below.alloc ?_ (by first | omega | (simp <;> omega)) _) | (refine below_drewN ?_ _) | (refine Below.drew ?_) | (refine Below.setCell ?_ (by first | omega | (simp <;> omega)) _)))
            have hr1 := hr.below hB1 hg0
            have htl : ((S.take j).map (Value.int .i64)).length = j * 1 := by rw [List.length_map, List.length_take, HLn.out]; omega
            have HTL := Lib.hid htl
            clear htl
            go_wp2_with (at_builtin; refine wpList_append_own _ rfl _ _ 32 rfl wr.heap.size 3 i0 (.int .i64 0) 1 8 Try.underlying32 Hi.out iz0 iz1 iz2 rfl (by decide) _ _ _ rfl hown1 ⟨g, 0, none⟩ j cap0 ((S.take j).map (Value.int .i64)) rfl HTL.out ?c1 ?c2 ?c3 ?c4 (by first | omega | (simp <;> omega)) ?_)
            case c1 => simpa using hr1.newsTake HLn.out hC.out j
            case c2 => simpa using oneCells (S.take j)
            case c3 => unfold maxLen; omega
            case c4 => omega
            intro v6 w6 hown6 hgrow6 hnn6
            have hB6 : Below wr.heap.size wr w6 := hB1.grown hgrow6 (by simp) (fun q hq => by simp [Value.ownBlock] at hq; omega)
            have hr6 := hr.below hB6 hg0
            have ck6 := (hB6.cell (p := ⟨ga, offa + k, none⟩) hga).trans ck
            have hown6' : (w6.alloc (.cells #[.int .i64 X] 3)).ownsRow wr.heap.size 3 1 v6 j ((S.take j).map (Value.int .i64)) := by
              rw [List.map_take]
              exact World.ownsRow.alloc hown6 _
            have hs6 := hB6.size
            clear hown1 hB1 hr1 hgrow6 hown6
            go_wp2_with (at_builtin; refine wpList_append_own _ rfl _ _ 32 rfl wr.heap.size 3 i0 (.int .i64 0) 1 8 Try.underlying32 Hi.out iz0 iz1 iz2 rfl (by decide) _ _ _ rfl hown6' ⟨w6.heap.size, 0, none⟩ 1 1 [.int .i64 X] rfl rfl ?d1 ?d2 ?d3 ?d4 (by first | omega | (simp <;> omega)) ?_)
            case d1 =>
              intro j u hj
              match j, hj with
              | 0, hj => simp at hj; subst hj; exact cell_of_one (heap_alloc_new w6 _)
              | j + 1, hj => simp at hj
            case d2 => simp [Value.oneCell']
            case d3 => unfold maxLen; omega
            case d4 => omega
            intro v7 w7 hown7 hgrow7 hnn7
            have hB7 : Below wr.heap.size wr w7 := (hB6.alloc hs6 (.cells #[.int .i64 X] 3)).grown hgrow7 (by simp; omega) (fun q hq => (World.ownsRow.lt hown6' q hq).1)
            have hr7 := hr.below hB7 hg0
            have hs7 := hB7.size
            have hkj : ((S.drop j).map (Value.int .i64)).length = (k - j) * 1 := by rw [List.length_map, List.length_drop, HLn.out]; omega
            have HKJ := Lib.hid hkj
            clear hkj hown6' hgrow7 hr6 ck6 hB6
            go_wp2_with (at_builtin; refine wpList_append_own _ rfl _ _ 32 rfl wr.heap.size 3 i0 (.int .i64 0) 1 8 Try.underlying32 Hi.out iz0 iz1 iz2 rfl (by decide) _ _ _ rfl hown7 ⟨g, j, none⟩ (k - j) (cap0 - j) ((S.drop j).map (Value.int .i64)) rfl HKJ.out ?e1 ?e2 ?e3 ?e4 (by first | omega | (simp <;> omega)) ?_)
            case e1 => simpa [addr_add] using hr7.news HLn.out hC.out j
            case e2 => simpa using oneCells (S.drop j)
            case e3 => unfold maxLen; omega
            case e4 => omega
            intro v8 w8 hown8 hgrow8 hnn8
            have hB8 : Below wr.heap.size wr w8 := hB7.grown hgrow8 (by omega) (fun q hq => (World.ownsRow.lt hown7 q hq).1)
            have hS2 : S2 = S.take j ++ X :: S.drop j := by
              rw [HS.out]
              have h := ins_below X (S.take j) (S.drop j) HLow.out HHigh.out
              rwa [List.take_append_drop] at h
            have ho8 : OwnL w8 w.heap.size v8 S2 := by
              refine OwnL.mono (b := wr.heap.size) ?_ hB.size
              unfold OwnL
              have e1 : S2.length = j + 1 + (k - j) := by rw [hS2, List.length_append, List.length_cons, List.length_take, List.length_drop, HLn.out]; omega
              have e2 : S2.map (Value.int .i64) = (S.take j).map (Value.int .i64) ++ [.int .i64 X] ++ (S.drop j).map (Value.int .i64) := by rw [hS2, List.map_append, List.map_cons, List.append_assoc]; rfl
              rw [e1, e2]
              first | exact hown8 | simpa using hown8
            have hne8 : v8 ≠ .slice none 0 0 := ho8.some_of_len (by rw [hS2, List.length_append, List.length_cons]; omega)
            have hB8' := hB.trans (hB8.mono hB.size)
            clear hown7 hown8 hgrow8 hB7 hB8 hr7
            go_wp2_with fail
            go_roundw
            case rel => exact ⟨k + 1, v8, by go_num, rfl, by omega, by rw [HT2.out]; exact ho8, hne8, hB8'⟩
            case measure => simp only [intOf]; omega
        · have hjk' : decide ((j : Int) < k) = false := by simp; omega
          have HLow : Hid (∀ x ∈ S.take j, x < X) := fun x hx => by
            obtain ⟨i, hi, e⟩ := mem_getD 0 hx
            rw [List.length_take] at hi
            have h := HJ.out i (by omega)
            rw [List.getD_eq_getElem?_getD, List.getElem?_take_of_lt (by omega)] at e
            rw [List.getD_eq_getElem?_getD] at h
            omega
          have HHigh : Hid (∀ y ∈ (S.drop j).head?, X ≤ y) := fun y hy => by
            rw [List.head?_drop, List.getElem?_eq_none (by rw [HLn.out]; omega)] at hy
            simp at hy
          go_wp2_with fail
          go_quiet (fail)
          have hg0 := hr.lt
          have j1 : (j : Int) ≤ cap0 := by omega
          have j2 : (j : Int) ≤ k := by omega
          have j0 : (0 : Int) ≤ j := by omega
          have hga := World.block_lt_of_cell? wr _ ck
          have hown1 : ((wr.drewN (q + nq)).alloc (.cells #[] 3)).ownsRow wr.heap.size 3 1 (.slice (some ⟨wr.heap.size, 0, none⟩) 0 0) 0 [] := World.ownsRow_made (base := wr.heap.size) (e := 3) (size := 1) (wr.drewN (q + nq)) #[] 0 (by simp) (by unfold maxLen; omega) rfl
          have hB1 : Below wr.heap.size wr ((wr.drewN (q + nq)).alloc (.cells #[] 3)) := (by repeat (first | exact Below.refl _ _ | assumption | (refine Below.trans ?_ (Below.mono (by assumption) (by first | omega | (simp <;> omega)))) | (refine Below.alloc ?_ (by first | omega | (simp <;> omega)) _) | (refine below_drewN ?_ _) | (refine Below.drew ?_) | (refine Below.setCell ?_ (by first | omega | (simp <;> omega)) _)))
          have hr1 := hr.below hB1 hg0
          have htl : ((S.take j).map (Value.int .i64)).length = j * 1 := by rw [List.length_map, List.length_take, HLn.out]; omega
          have HTL := Lib.hid htl
          clear htl
          go_wp2_with (at_builtin; refine wpList_append_own _ rfl _ _ 32 rfl wr.heap.size 3 i0 (.int .i64 0) 1 8 Try.underlying32 Hi.out iz0 iz1 iz2 rfl (by decide) _ _ _ rfl hown1 ⟨g, 0, none⟩ j cap0 ((S.take j).map (Value.int .i64)) rfl HTL.out ?cc1 ?cc2 ?cc3 ?cc4 (by first | omega | (simp <;> omega)) ?_)
          case cc1 => simpa using hr1.newsTake HLn.out hC.out j
          case cc2 => simpa using oneCells (S.take j)
          case cc3 => unfold maxLen; omega
          case cc4 => omega
          intro v6 w6 hown6 hgrow6 hnn6
          have hB6 : Below wr.heap.size wr w6 := hB1.grown hgrow6 (by simp) (fun q hq => by simp [Value.ownBlock] at hq; omega)
          have hr6 := hr.below hB6 hg0
          have ck6 := (hB6.cell (p := ⟨ga, offa + k, none⟩) hga).trans ck
          have hown6' : (w6.alloc (.cells #[.int .i64 X] 3)).ownsRow wr.heap.size 3 1 v6 j ((S.take j).map (Value.int .i64)) := by
            rw [List.map_take]
            exact World.ownsRow.alloc hown6 _
          have hs6 := hB6.size
          clear hown1 hB1 hr1 hgrow6 hown6
          go_wp2_with (at_builtin; refine wpList_append_own _ rfl _ _ 32 rfl wr.heap.size 3 i0 (.int .i64 0) 1 8 Try.underlying32 Hi.out iz0 iz1 iz2 rfl (by decide) _ _ _ rfl hown6' ⟨w6.heap.size, 0, none⟩ 1 1 [.int .i64 X] rfl rfl ?dd1 ?dd2 ?dd3 ?dd4 (by first | omega | (simp <;> omega)) ?_)
          case dd1 =>
            intro j u hj
            match j, hj with
            | 0, hj => simp at hj; subst hj; exact cell_of_one (heap_alloc_new w6 _)
            | j + 1, hj => simp at hj
          case dd2 => simp [Value.oneCell']
          case dd3 => unfold maxLen; omega
          case dd4 => omega
          intro v7 w7 hown7 hgrow7 hnn7
          have hB7 : Below wr.heap.size wr w7 := (hB6.alloc hs6 (.cells #[.int .i64 X] 3)).grown hgrow7 (by simp; omega) (fun q hq => (World.ownsRow.lt hown6' q hq).1)
          have hr7 := hr.below hB7 hg0
          have hs7 := hB7.size
          have hkj : ((S.drop j).map (Value.int .i64)).length = (k - j) * 1 := by rw [List.length_map, List.length_drop, HLn.out]; omega
          have HKJ := Lib.hid hkj
          clear hkj hown6' hgrow7 hr6 ck6 hB6
          by_cases hcj : cap0 = j
          · go_wp2_with (at_builtin; refine wpList_append_own _ rfl _ _ 32 rfl wr.heap.size 3 i0 (.int .i64 0) 1 8 Try.underlying32 Hi.out iz0 iz1 iz2 rfl (by decide) _ _ _ rfl hown7 ⟨g, 0, none⟩ (k - j) _ ((S.drop j).map (Value.int .i64)) rfl HKJ.out ?ff1 ?ff2 ?ff3 ?ff4 (by first | omega | (simp <;> omega)) ?_)
            case ff1 =>
              intro i u hu
              exfalso
              have e : S.drop j = [] := List.drop_eq_nil_of_le (by rw [HLn.out]; omega)
              first | (rw [← List.map_drop, e] at hu; simp at hu) | (rw [e] at hu; simp at hu) | (simp [e] at hu)
            case ff2 => simpa using oneCells (S.drop j)
            case ff3 => unfold maxLen; omega
            case ff4 => omega
            intro v8 w8 hown8 hgrow8 hnn8
            have hB8 : Below wr.heap.size wr w8 := hB7.grown hgrow8 (by omega) (fun q hq => (World.ownsRow.lt hown7 q hq).1)
            have hS2 : S2 = S.take j ++ X :: S.drop j := by
              rw [HS.out]
              have h := ins_below X (S.take j) (S.drop j) HLow.out HHigh.out
              rwa [List.take_append_drop] at h
            have ho8 : OwnL w8 w.heap.size v8 S2 := by
              refine OwnL.mono (b := wr.heap.size) ?_ hB.size
              unfold OwnL
              have e1 : S2.length = j + 1 + (k - j) := by rw [hS2, List.length_append, List.length_cons, List.length_take, List.length_drop, HLn.out]; omega
              have e2 : S2.map (Value.int .i64) = (S.take j).map (Value.int .i64) ++ [.int .i64 X] ++ (S.drop j).map (Value.int .i64) := by rw [hS2, List.map_append, List.map_cons, List.append_assoc]; rfl
              rw [e1, e2]
              first | exact hown8 | simpa using hown8
            have hne8 : v8 ≠ .slice none 0 0 := ho8.some_of_len (by rw [hS2, List.length_append, List.length_cons]; omega)
            have hB8' := hB.trans (hB8.mono hB.size)
            clear hown7 hown8 hgrow8 hB7 hB8 hr7
            go_wp2_with fail
            go_roundw
            case rel => exact ⟨k + 1, v8, by go_num, rfl, by omega, by rw [HT2.out]; exact ho8, hne8, hB8'⟩
            case measure => simp only [intOf]; omega
          · go_wp2_with (at_builtin; refine wpList_append_own _ rfl _ _ 32 rfl wr.heap.size 3 i0 (.int .i64 0) 1 8 Try.underlying32 Hi.out iz0 iz1 iz2 rfl (by decide) _ _ _ rfl hown7 ⟨g, j, none⟩ (k - j) (cap0 - j) ((S.drop j).map (Value.int .i64)) rfl HKJ.out ?ee1 ?ee2 ?ee3 ?ee4 (by first | omega | (simp <;> omega)) ?_)
            case ee1 => simpa [addr_add] using hr7.news HLn.out hC.out j
            case ee2 => simpa using oneCells (S.drop j)
            case ee3 => unfold maxLen; omega
            case ee4 => omega
            intro v8 w8 hown8 hgrow8 hnn8
            have hB8 : Below wr.heap.size wr w8 := hB7.grown hgrow8 (by omega) (fun q hq => (World.ownsRow.lt hown7 q hq).1)
            have hS2 : S2 = S.take j ++ X :: S.drop j := by
              rw [HS.out]
              have h := ins_below X (S.take j) (S.drop j) HLow.out HHigh.out
              rwa [List.take_append_drop] at h
            have ho8 : OwnL w8 w.heap.size v8 S2 := by
              refine OwnL.mono (b := wr.heap.size) ?_ hB.size
              unfold OwnL
              have e1 : S2.length = j + 1 + (k - j) := by rw [hS2, List.length_append, List.length_cons, List.length_take, List.length_drop, HLn.out]; omega
              have e2 : S2.map (Value.int .i64) = (S.take j).map (Value.int .i64) ++ [.int .i64 X] ++ (S.drop j).map (Value.int .i64) := by rw [hS2, List.map_append, List.map_cons, List.append_assoc]; rfl
              rw [e1, e2]
              first | exact hown8 | simpa using hown8
            have hne8 : v8 ≠ .slice none 0 0 := ho8.some_of_len (by rw [hS2, List.length_append, List.length_cons]; omega)
            have hB8' := hB.trans (hB8.mono hB.size)
            clear hown7 hown8 hgrow8 hB7 hB8 hr7
            go_wp2_with fail
            go_roundw
            case rel => exact ⟨k + 1, v8, by go_num, rfl, by omega, by rw [HT2.out]; exact ho8, hne8, hB8'⟩
            case measure => simp only [intOf]; omega
    · obtain rfl : k = N := by omega
      have hkm' : decide ((k : Int) < k) = false := by simp
      have hE : OwnL wr w.heap.size v0 (isort xs) := by rwa [List.take_of_length_le (by rw [HN.out]; omega)] at ho
      clear ho
      go_wp2
      go_ret
      exact ⟨_, rfl, hE, hB⟩
end Go.Proofs.Ytkhnnbgmckeoaaa
