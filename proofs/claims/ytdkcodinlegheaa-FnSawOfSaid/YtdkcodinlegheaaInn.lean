/- Contracts of the program's lettersWhere and InnerTurn, and of the model's InnerTurn. -/
import Derived.Test.YtdkcodinlegheaaPlaceI
import Derived.Test.YtdkcodinlegheaaRev
import Derived.Test.YtdkcodinlegheaaToc
import Derived.Test.YtdkcodinlegheaaOne
import Derived.Test.YtdkcodinlegheaaGFun2
import Derived.Deep.Cut
set_option linter.unusedVariables false
namespace Go.Proofs.Ytdkcodinlegheaa

set_option maxRecDepth 4000
open Go.ChangeShapes Go.WideShapes Go.ChangeAt Go.RowKit Go.Joins

/-- one inner turn comes back, and whether there is one -/
def InnPost (n s : Int) (w : World) (e : Ending) (w' : World) : Prop :=
  e = .returned (.tuple #[(.agg #[.int .i64 ((innF n s).1), .int .i64 ((innF n s).2)]), .bool (innP n s)]) ∧ Below w.heap.size w w'

set_option maxHeartbeats 400000 in
theorem inner1_any (x h : Int) (c : Nat) (w : World) (hc : One w c (.int .i64 h) 3) :
    Calls Try.prog 58 #[.int .i64 x, .pointer (some ⟨c, 0, none⟩)] w fun e w' => e = .returned (.bool (decide (h < x))) ∧ w = w' := by
  have c0 := hc.cell
  by_cases c : h < x
  · rw [decide_eq_true c]
    go_enter Try.func58, Try.ntmps58
    go_wp2
    go_ret
    exact ⟨rfl, rfl⟩
  · have c' : ¬ h < x := c
    rw [decide_eq_false c]
    go_enter Try.func58, Try.ntmps58
    go_wp2
    go_ret
    exact ⟨rfl, rfl⟩

theorem RowAt.away {w : World} {g G : Nat} {cur : Array Value} (h : RowAt w g cur) (hne : g ≠ G) (k : Nat) (v : Value) : RowAt (w.setCell ⟨G, k, none⟩ v) g cur := by
  have e : (w.setCell ⟨G, k, none⟩ v).heap[g]? = w.heap[g]? := Below.heap_setCell _ _ _ _ hne
  unfold RowAt at *
  rw [e]; exact h

theorem One.away {w : World} {g G : Nat} {x : Value} {T : TypeId} (h : One w g x T) (hne : g ≠ G) (k : Nat) (v : Value) : One (w.setCell ⟨G, k, none⟩ v) g x T := by
  have e : (w.setCell ⟨G, k, none⟩ v).heap[g]? = w.heap[g]? := Below.heap_setCell _ _ _ _ hne
  unfold One at *
  rw [e]; exact h

theorem One.ofA {W w' : World} {N : Nat} {x : Value} {T : TypeId} (h : Below N (W.alloc (.cells #[x] T)) w') (hN : W.heap.size < N) : One w' W.heap.size x T := One.below (One.new W x T) h hN

theorem One.ofD {W w' : World} {N : Nat} {x : Value} {T : TypeId} (h : Below N (W.alloc (.cells #[x] T)).drew w') (hN : W.heap.size < N) : One w' W.heap.size x T := One.below (One.drewS (One.new W x T)) h hN

theorem One.free {w : World} {g : Nat} {x : Value} {T : TypeId} (h : One w g x T) (i : Nat) : w.frozen? ⟨g, i, none⟩ = false := by unfold One at h; simp [World.frozen?, h]

theorem One.set {w : World} {g : Nat} {x : Value} {T : TypeId} (h : One w g x T) (y : Value) : One (w.setCell ⟨g, 0, none⟩ y) g y T := by
  unfold One at *
  simp [World.setCell, Array.getElem?_modify, h]

theorem set1_away {w : World} {A g : Nat} (h : ¬ g = A) (o : Nat) (x : Value) (p : Nat) : (w.setCell ⟨A, p, none⟩ x).cell? ⟨g, o, none⟩ = w.cell? ⟨g, o, none⟩ := by
  rw [World.cell?_of_block (w := w) (Below.heap_setCell _ _ _ _ h)]

/-- the letters of a list: 1 for what is greater than h -/
def whereL (h : Int) (xs : List Int) : List Bool := xs.map fun x => decide (h < x)

theorem whereL_getD (h : Int) (xs : List Int) (i : Nat) (hi : i < xs.length) : (whereL h xs).getD i false = decide (h < xs.getD i 0) := by
  simp [whereL, List.getD_eq_getElem?_getD, hi]

set_option maxHeartbeats 2000000 in
theorem lettersWhere_any (b c : Nat) (v : Value) (xs : List Int) (h : Int) (w : World) (hv : OwnL w b v xs) (h0 : 1 ≤ xs.length) (hx : xs.length ≤ 60) (hc : One w c (.int .i64 h) 3) :
    Calls Try.prog 57 #[v, .func (.func 58) #[] #[.pointer (some ⟨c, 0, none⟩)]] w (StrPost (whereL h xs) w) := by
  obtain ⟨n, hn⟩ : ∃ n, xs.length = n := ⟨_, rfl⟩
  obtain ⟨g, cap, cur, rfl, hbg, hr0, hs0, hnc, hm, hc0⟩ := hv.rowI hn (by omega)
  have HX : Hid (∀ j, j < n → cur[j]? = some (.int .i64 (xs.getD j 0))) := hc0
  have HW : Hid (∀ i, i < n → (whereL h xs).getD i false = decide (h < xs.getD i 0)) := fun i hi => whereL_getD h xs i (by omega)
  have HWL : Hid ((whereL h xs).length = n) := by show _ = _; simp [whereL, hn]
  have hn1 : n ≤ 60 := by omega
  have hn2 : 1 ≤ n := by omega
  have hlc := hc.lt
  have hlg := hr0.lt
  obtain ⟨i0, hi, iz0, iz1, iz2⟩ := info_parts infoByte
  have Hi := Lib.hid hi
  clear hv hc0 hn hi
  go_enter Try.func57, Try.ntmps57
  go_wp2_with (at_make; refine wpList_make_full _ rfl _ _ 22 rfl w.heap.size 5 i0 (.int .u8 0) 1 Try.underlying22 Hi.out iz0 iz1 .i64 .i64 _ _ n rfl rfl rfl rfl (by rw [iz2]; omega) (by unfold maxLen; omega) (by omega) ?_)
  intro w2 hown hgrow
  have hB2 : Below w.heap.size w w2 := ⟨hgrow.os, hgrow.tape, hgrow.output, hgrow.size, fun k hk => hgrow.block k hk (by simp)⟩
  obtain ⟨curb, hrb, hsb, _⟩ := RowB.of_own hown
  have c2 := hc.below hB2 hlc
  have r2 := hr0.below hB2 hlg
  clear hown hgrow hc hr0
  go_wp2_with fail
  go_loopw [13] (fun x wr => ∃ (k : Nat) (cb : Array Value), x = .int .i64 k ∧ k ≤ n ∧ RowB wr w.heap.size cb ∧ cb.size = n ∧ Hid (∀ i, i < k → cb[i]? = some (.int .u8 (bI ((whereL h xs).getD i false)))) ∧ RowAt wr g cur ∧ One wr c (.int .i64 h) 3 ∧ Below w.heap.size w wr) (fun x _ => n - (intOf x).toNat)
  case atStart => exact ⟨0, curb, rfl, by omega, hrb, hsb, fun i hi => by omega, r2, c2, hB2⟩
  case round =>
    obtain ⟨k, cb, rfl, hk, hr, hs, hd, ra, co, hB⟩ := hrel
    clear hrb hsb r2 c2 hB2
    have hlr := hr.lt
    by_cases hkn : k < n
    · have hkn' : (k : Int) < n := by omega
      have ca := ra.cell k
      rw [HX.out k hkn] at ca
      have hwk := HW.out k hkn
      generalize xs.getD k 0 = X at *
      obtain ⟨z4, e4⟩ : ∃ z, cb[k]? = some z := ⟨_, Array.getElem?_eq_getElem (by omega)⟩
      have c4 := hr.cell k
      rw [e4] at c4
      have f4 := hr.free k
      have r5 := hr.set k (.int .u8 48)
      have a5 := ra.away (G := w.heap.size) (by omega) k (.int .u8 48)
      have o5 := co.away (G := w.heap.size) (by omega) k (.int .u8 48)
      have hB5 := hB.setCell (p := ⟨w.heap.size, k, none⟩) (Nat.le_refl _) (.int .u8 48)
      have c6 := r5.cell k
      have f6 := r5.free k
      rw [Array.getElem?_setIfInBounds, if_pos rfl, if_pos (by omega)] at c6
      have HS := Lib.hid hs
      have hcall := inner1_any X h c _ o5
      clear hr ra co hB e4 hs
      by_cases cx : h < X
      · rw [decide_eq_true cx] at hwk hcall
        have r7 := r5.set k (.int .u8 49)
        have a7 := a5.away (G := w.heap.size) (by omega) k (.int .u8 49)
        have o7 := o5.away (G := w.heap.size) (by omega) k (.int .u8 49)
        have hB7 := hB5.setCell (p := ⟨w.heap.size, k, none⟩) (Nat.le_refl _) (.int .u8 49)
        have hwk' := Lib.hid hwk
        clear cx hwk
        go_wp2_with fail
        refine hcall.mono ?_; rintro e w3 ⟨rfl, rfl⟩
        go_wp2_with fail
        go_roundw
        case rel =>
          refine ⟨k + 1, _, by go_num, by omega, r7, by simp [HS.out], fun i hi => ?_, a7, o7, hB7⟩
          by_cases hik : i = k
          · subst hik
            rw [Array.getElem?_setIfInBounds, if_pos rfl, if_pos (by simp [HS.out]; omega), hwk'.out]; rfl
          · rw [Array.getElem?_setIfInBounds, if_neg (by omega), Array.getElem?_setIfInBounds, if_neg (by omega)]
            exact hd.out i (by omega)
        case measure => simp only [intOf]; omega
      · rw [decide_eq_false cx] at hwk hcall
        have hwk' := Lib.hid hwk
        clear cx hwk
        go_wp2_with fail
        refine hcall.mono ?_; rintro e w3 ⟨rfl, rfl⟩
        go_wp2_with fail
        go_roundw
        case rel =>
          refine ⟨k + 1, _, by go_num, by omega, r5, by simp [HS.out], fun i hi => ?_, a5, o5, hB5⟩
          by_cases hik : i = k
          · subst hik
            rw [Array.getElem?_setIfInBounds, if_pos rfl, if_pos (by rw [HS.out]; omega), hwk'.out]; rfl
          · rw [Array.getElem?_setIfInBounds, if_neg (by omega)]
            exact hd.out i (by omega)
        case measure => simp only [intOf]; omega
    · obtain rfl : k = n := by omega
      have hkm' : decide ((k : Int) < k) = false := by simp
      have hconv := conv_bits wr w.heap.size k (whereL h xs) cb HWL.out hr (fun i hi => hd.out i hi)
      clear hr ra co hs hd
      go_wp2
      go_ret
      exact ⟨rfl, hB⟩

theorem cnt_word {n s : Nat} (h : tokN n s = true) : cnt (txtB (wordL n s 0 n)) = s := by
  obtain ⟨b1, _⟩ := tokN_bd h
  unfold cnt
  rw [count_txt, ones_upto h]
  exact Nat.mul_div_cancel_left s (by omega)

theorem toc_word {n s : Nat} (h : tokN n s = true) : TocP (txtB (wordL n s 0 n)) := by
  obtain ⟨b1, b2, _⟩ := tokN_bd h
  have ht := tok_of_tokN h
  have e : (txtB (wordL n s 0 n)).size = n := by rw [txtB_size, wordL_length]
  unfold TocP
  rw [cnt_word h, e]
  refine ⟨ht, ?_⟩
  rw [codeF_yes ht (Int.le_refl 0) (by omega) (by omega) (by omega)]
  rfl

theorem where_spaces {n s : Nat} (hs : 0 < s) : whereL ((n / s : Nat) : Int) (spL n s s).reverse = wordL s (n % s) 0 s := by
  have hl : (whereL ((n / s : Nat) : Int) (spL n s s).reverse).length = s := by simp [whereL, spL_len]
  apply List.ext_getElem (by rw [hl, wordL_length])
  intro i h1 h2
  rw [hl] at h1
  have a := whereL_getD ((n / s : Nat) : Int) (spL n s s).reverse i (by rw [List.length_reverse, spL_len]; exact h1)
  have b := wordL_getD s (n % s) 0 s i h1 false
  have c : (spL n s s).reverse.getD i 0 = ((spaceN n s (s - 1 - i) : Nat) : Int) := by
    rw [List.getD_eq_getElem?_getD, List.getElem?_reverse (by rw [spL_len]; exact h1), spL_len, ← List.getD_eq_getElem?_getD, spL_getD _ _ _ _ (by omega)]
  rw [c, space_letter hs (by omega), show s - 1 - (s - 1 - i) = i by omega] at a
  rw [List.getD_eq_getElem?_getD, List.getElem?_eq_getElem (by rw [hl]; exact h1)] at a
  rw [List.getD_eq_getElem?_getD, List.getElem?_eq_getElem (by rw [wordL_length]; exact h1), Nat.zero_add] at b
  simp only [Option.getD_some] at a b
  rw [a, b]
  cases letN s (n % s) i with
  | true => simp; omega
  | false => simp

theorem turnOfCode_word {n s : Nat} (h : tokN n s = true) (w : World) : Calls Try.prog 56 #[.string (txtB (wordL n s 0 n))] w fun e w' => e = .returned (.tuple #[(.agg #[.int .i64 ((n : Int)), .int .i64 ((s : Int))]), .bool true]) ∧ Below w.heap.size w w' := by
  obtain ⟨b1, b2, _⟩ := tokN_bd h
  have e : (txtB (wordL n s 0 n)).size = n := by rw [txtB_size, wordL_length]
  refine (turnOfCode_any (txtB (wordL n s 0 n)) w (by omega)).mono ?_
  rintro e' w' ⟨h1, h2⟩
  refine ⟨?_, h2⟩
  rcases h1 with ⟨_, h1⟩ | ⟨hn, _⟩
  · rw [h1, e, cnt_word h]
  · exact absurd (toc_word h) hn

theorem inn_facts {n s : Int} (ht : tok n s = true) (h2 : 2 ≤ s) : ∃ (Q : Nat) (L : List Int), n / s = (Q : Int) ∧ n.tdiv s = (Q : Int) ∧ Q ≤ 60 ∧ 1 ≤ L.length ∧ L.length ≤ 60 ∧
    Hid (∀ w, Calls Try.prog 54 #[(.agg #[.int .i64 (n), .int .i64 (s)])] w (ListPost L w)) ∧
    Hid (∀ w, Calls Try.prog 56 #[.string (txtB (whereL (Q : Int) L.reverse))] w fun e w' => e = .returned (.tuple #[(.agg #[.int .i64 (s), .int .i64 (n % s)]), .bool true]) ∧ Below w.heap.size w w') := by
  have hb := tok_bd ht
  obtain ⟨N, rfl⟩ := Int.eq_ofNat_of_zero_le (by omega : 0 ≤ n)
  obtain ⟨S, rfl⟩ := Int.eq_ofNat_of_zero_le (by omega : 0 ≤ s)
  have hN : tokN N S = true := tokN_nat ht
  have hsp := spacesOf_any N S
  rw [spacesF_yes ht] at hsp
  have h5 := turnOfCode_word (tok_inner hN (by omega))
  have hmod : (N : Int) % (S : Int) = ((N % S : Nat) : Int) := by simp
  refine ⟨N / S, spL N S S, by simp, by rw [Int.tdiv_eq_ediv_of_nonneg (by omega)]; simp, Nat.le_trans (Nat.div_le_self _ _) (by omega), by rw [spL_len]; omega, by rw [spL_len]; omega, hsp, ?_⟩
  rw [where_spaces (by omega), hmod]
  exact h5

/-- all is laid for the walk behind the distances -/
structure Ready (n s Q : Int) (w W : World) (C : Nat) (v : Value) (L : List Int) : Prop where
  t : Two W w.heap.size (.int .i64 n) (.int .i64 s) 29
  u : Two W (w.heap.size + 1) (.int .i64 0) (.int .i64 0) 29
  c : One W C (.int .i64 Q) 3
  o : OwnL W (w.heap.size + 1 + 1) v L
  ne : ∀ q, v.ownBlock = some q → q ≠ C
  b : Below w.heap.size w W

set_option maxHeartbeats 4000000 in
theorem innerTurn_any (n s : Int) (w : World) : Calls Try.prog 34 #[(.agg #[.int .i64 (n), .int .i64 (s)])] w (InnPost n s w) := by
  have t0 : Two ((w.alloc (.cells #[.int .i64 n, .int .i64 s] 29)).alloc (.cells #[.int .i64 0, .int .i64 0] 29)) w.heap.size (.int .i64 n) (.int .i64 s) 29 := (Two.new _ _ _ _).alloc _
  have u0 : Two ((w.alloc (.cells #[.int .i64 n, .int .i64 s] 29)).alloc (.cells #[.int .i64 0, .int .i64 0] 29)) (w.heap.size + 1) (.int .i64 0) (.int .i64 0) 29 := Two.new' _ _ _ _ _ (by simp)
  have hB0 : Below w.heap.size w ((w.alloc (.cells #[.int .i64 n, .int .i64 s] 29)).alloc (.cells #[.int .i64 0, .int .i64 0] 29)) := (by repeat (first | exact Below.refl _ _ | assumption | (refine Below.trans ?_ (Below.mono (by assumption) (by first | omega | (simp <;> omega)))) | (refine Below.alloc ?_ (by first | omega | (simp <;> omega)) _) | (refine below_drewN ?_ _) | (refine Below.drew ?_) | (refine Below.setCell ?_ (by first | omega | (simp <;> omega)) _)))
  have c0 := t0.cell0
  have c1 := t0.cell1
  by_cases hc : tok n s = true ∧ 2 ≤ s
  · obtain ⟨ht, h2⟩ := hc
    have hb := tok_bd ht
    unfold InnPost
    rw [innF_yes ht h2, innP_yes ht h2]
    have h2' : ¬ s < 2 := by omega
    obtain ⟨Q, L, q1, q2, q3, l1, l2, HSP, HT2⟩ := inn_facts ht h2
    have hwq : IntKind.i64.wrap (Q : Int) = Q := IntWalk.i64_in _ (by omega)
    go_enter Try.func34, Try.ntmps34
    go_wp2_with fail
    refine (turnOk_any _ _ _).mono ?_; rintro e w2 ⟨rfl, hb2⟩
    rw [ht]
    have t2 := t0.below hb2 t0.lt
    have u2 := u0.below hb2 u0.lt
    have hB2 := hB0.trans (hb2.mono hB0.size)
    clear hb2 t0 u0 hB0 c0 c1
    have c0 := t2.cell0
    have c1 := t2.cell1
    have lt2 := u2.lt
    have hne : ¬ s = 0 := by omega
    clear ht
    go_wp2_with fail
    go_region_held3 (fun w' => w'.cell? ⟨w.heap.size, 0, none⟩ = some (.int .i64 n) ∧ w'.cell? ⟨w.heap.size, 1, none⟩ = some (.int .i64 s))
      (first | go_keep | exact ⟨t'c, t'd⟩ | exact ⟨(set1_away (by omega) _ _ _).trans t'c, (set1_away (by omega) _ _ _).trans t'd⟩)
      (first | (go_at_call 54; refine (HSP.out _).mono ?_; rintro e w' ⟨v, rfl, ho', hb'⟩; have t' := Two.below (b := w.heap.size) (x := .int .i64 n) (y := .int .i64 s) (T := 29) (by repeat (first | assumption | refine Two.alloc ?_ _ | refine Two.drew1 ?_)) hb' (by first | omega | (simp <;> omega)); have t'c := t'.cell0; have t'd := t'.cell1; have lt' := t'.lt; (first | (have v' := One.ofA (x := .int .i64 0) (T := 3) hb' (by first | omega | (simp <;> omega)); have v'c := v'.cell; have fv := v'.free 0; have lv' := v'.lt) | (have v' := One.ofD (x := .int .i64 0) (T := 3) hb' (by first | omega | (simp <;> omega)); have v'c := v'.cell; have fv := v'.free 0; have lv' := v'.lt) | skip)))
    · have hr : Ready n s Q w (w'.alloc (.cells #[.int .i64 Q] 3)) w'.heap.size v L := by
        have hlt := World.ownsRow.lt ho'
        have hz : w2.heap.size ≤ w'.heap.size := hb'.size
        refine ⟨t'.alloc _, ?_, One.new _ _ _, ?_, fun q hq => ?_, ?_⟩
        · exact (Two.below (Two.drew1 u2) hb' (by simpa using lt2)).alloc _
        · exact World.ownsRow.alloc (OwnL.mono (b := w2.drew.heap.size) ho' (by show _ ≤ w2.heap.size; omega)) _
        · have := (hlt q hq).2; omega
        · exact (((below_drewN hB2 1).trans (hb'.mono (by simpa using hB2.size))).alloc (Nat.le_trans hB2.size hz) _)
      generalize w'.alloc (.cells #[.int .i64 Q] 3) = W at *
      generalize w'.heap.size = C at *
      clear ho' hb' t' t'c t'd lt' u2 hB2 lt2
      obtain ⟨t3, u3, o3, v3, ne3, b3⟩ := hr
      go_wp2_with fail
      refine (reverse_any (w.heap.size + 1 + 1) v L W v3 l1 (by omega)).mono ?_; rintro e w3 ⟨rfl, v4, hb4, hk4⟩
      have t4 := t3.below hb4 (by omega)
      have u4 := u3.below hb4 (by omega)
      have o4 : One w3 C (.int .i64 Q) 3 := by
        have e := hk4 C (fun e => ne3 C e rfl)
        unfold One at *
        rw [e]; exact o3
      have b4 := b3.trans (hb4.mono (by omega))
      clear t3 u3 o3 v3 hb4 hk4 b3
      go_wp2_with fail
      refine (lettersWhere_any (w.heap.size + 1 + 1) C v L.reverse Q _ v4 (by rw [List.length_reverse]; exact l1) (by rw [List.length_reverse]; exact l2) o4).mono ?_; rintro e w5 ⟨rfl, hb5⟩
      have t5 := t4.below hb5 t4.lt
      have u5 := u4.below hb5 u4.lt
      have b5 := b4.trans (hb5.mono b4.size)
      clear t4 u4 o4 v4 hb5 b4
      go_wp2_with fail
      refine (HT2.out _).mono ?_; rintro e w6 ⟨rfl, hb6⟩
      have u6 := u5.below hb6 u5.lt
      have b6 := b5.trans (hb6.mono b5.size)
      have f0 := u6.free 0
      have f1 := u6.free 1
      have d0 := u6.cell0
      have d1 := u6.cell1
      have u7 := (u6.set0 (.int .i64 s)).set1 (.int .i64 (n % s))
      have e0 := u7.cell0
      have e1 := u7.cell1
      clear t5 u5 b5 hb6
      go_wp2
      exact bodyPost_ret (v := .tuple #[(.agg #[.int .i64 (s), .int .i64 (n % s)]), .bool true]) (by simp [results, Try.results34, go_sem, e0, e1]) rfl ⟨rfl, (b6.setCell (by simp) _).setCell (by simp) _⟩
    · have hr : Ready n s Q w (w'.setCell ⟨w2.heap.size, 0, none⟩ (.int .i64 Q)) w2.heap.size v L := by
        have hge : ∀ k, v.ownBlock = some k → (w2.alloc (.cells #[.int .i64 0] 3)).drew.heap.size ≤ k := fun k hk => (World.ownsRow.lt ho' k hk).1
        have hz : w2.heap.size + 1 ≤ w'.heap.size := by have := hb'.size; simpa using this
        have hB3 : Below w.heap.size w w' := (below_drewN (hB2.alloc hB2.size _) 1).trans (hb'.mono (by simp; have := hB2.size; omega))
        refine ⟨t'.set (by omega) _ _, ?_, v'.set _, ?_, fun q hq => ?_, hB3.setCell hB2.size _⟩
        · exact (Two.below (Two.drew1 (u2.alloc _)) hb' (by simp; omega)).set (by omega) _ _
        · refine World.ownsRow.kept (w := w') (row := some w2.heap.size) (OwnL.mono (b := (w2.alloc (.cells #[.int .i64 0] 3)).drew.heap.size) ho' (by simp; omega)) ?_ ?_
          · exact ⟨rfl, rfl, rfl, by simp [World.setCell], fun k _ hk => Below.heap_setCell _ _ _ _ (fun (e : k = w2.heap.size) => hk (by rw [e]))⟩
          · cases h0 : v.ownBlock with
            | none => exact .inl rfl
            | some q => right; intro e; have := hge q h0; simp at this; injection e with e; omega
        · have := hge q hq; simp at this; omega
      generalize w'.setCell ⟨w2.heap.size, 0, none⟩ (.int .i64 Q) = W at *
      generalize w2.heap.size = C at *
      clear ho' hb' t' t'c t'd lt' u2 hB2 lt2
      obtain ⟨t3, u3, o3, v3, ne3, b3⟩ := hr
      go_wp2_with fail
      refine (reverse_any (w.heap.size + 1 + 1) v L W v3 l1 (by omega)).mono ?_; rintro e w3 ⟨rfl, v4, hb4, hk4⟩
      have t4 := t3.below hb4 (by omega)
      have u4 := u3.below hb4 (by omega)
      have o4 : One w3 C (.int .i64 Q) 3 := by
        have e := hk4 C (fun e => ne3 C e rfl)
        unfold One at *
        rw [e]; exact o3
      have b4 := b3.trans (hb4.mono (by omega))
      clear t3 u3 o3 v3 hb4 hk4 b3
      go_wp2_with fail
      refine (lettersWhere_any (w.heap.size + 1 + 1) C v L.reverse Q _ v4 (by rw [List.length_reverse]; exact l1) (by rw [List.length_reverse]; exact l2) o4).mono ?_; rintro e w5 ⟨rfl, hb5⟩
      have t5 := t4.below hb5 t4.lt
      have u5 := u4.below hb5 u4.lt
      have b5 := b4.trans (hb5.mono b4.size)
      clear t4 u4 o4 v4 hb5 b4
      go_wp2_with fail
      refine (HT2.out _).mono ?_; rintro e w6 ⟨rfl, hb6⟩
      have u6 := u5.below hb6 u5.lt
      have b6 := b5.trans (hb6.mono b5.size)
      have f0 := u6.free 0
      have f1 := u6.free 1
      have d0 := u6.cell0
      have d1 := u6.cell1
      have u7 := (u6.set0 (.int .i64 s)).set1 (.int .i64 (n % s))
      have e0 := u7.cell0
      have e1 := u7.cell1
      clear t5 u5 b5 hb6
      go_wp2
      exact bodyPost_ret (v := .tuple #[(.agg #[.int .i64 (s), .int .i64 (n % s)]), .bool true]) (by simp [results, Try.results34, go_sem, e0, e1]) rfl ⟨rfl, (b6.setCell (by simp) _).setCell (by simp) _⟩
  · have hI := innF_no hc
    have hP := innP_no hc
    unfold InnPost
    rw [hI, hP]
    by_cases ht : tok n s = true
    · have h2 : s < 2 := by
        by_cases c : s < 2
        · exact c
        · exact absurd ⟨ht, by omega⟩ hc
      go_enter Try.func34, Try.ntmps34
      go_wp2_with fail
      refine (turnOk_any _ _ _).mono ?_; rintro e w2 ⟨rfl, hb2⟩
      rw [ht]
      have t2 := t0.below hb2 t0.lt
      have u2 := u0.below hb2 u0.lt
      have hB2 := hB0.trans (hb2.mono hB0.size)
      clear hb2 t0 u0 hB0 c0 c1
      have c0 := t2.cell0
      have c1 := t2.cell1
      have f0 := u2.free 0
      have f1 := u2.free 1
      have d0 := u2.cell0
      have d1 := u2.cell1
      have u5 := (u2.set0 (.int .i64 0)).set1 (.int .i64 0)
      have e0 := u5.cell0
      have e1 := u5.cell1
      go_wp2
      exact bodyPost_ret (v := .tuple #[(.agg #[.int .i64 (0), .int .i64 (0)]), .bool false]) (by simp [results, Try.results34, go_sem, e0, e1]) rfl ⟨rfl, (hB2.setCell (by simp) _).setCell (by simp) _⟩
    · have ht' : tok n s = false := by simpa using ht
      go_enter Try.func34, Try.ntmps34
      go_wp2_with fail
      refine (turnOk_any _ _ _).mono ?_; rintro e w2 ⟨rfl, hb2⟩
      rw [ht']
      have t2 := t0.below hb2 t0.lt
      have u2 := u0.below hb2 u0.lt
      have hB2 := hB0.trans (hb2.mono hB0.size)
      clear hb2 t0 u0 hB0 c0 c1
      have f0 := u2.free 0
      have f1 := u2.free 1
      have d0 := u2.cell0
      have d1 := u2.cell1
      have u5 := (u2.set0 (.int .i64 0)).set1 (.int .i64 0)
      have e0 := u5.cell0
      have e1 := u5.cell1
      go_wp2
      exact bodyPost_ret (v := .tuple #[(.agg #[.int .i64 (0), .int .i64 (0)]), .bool false]) (by simp [results, Try.results34, go_sem, e0, e1]) rfl ⟨rfl, (hB2.setCell (by simp) _).setCell (by simp) _⟩
end Go.Proofs.Ytdkcodinlegheaa
