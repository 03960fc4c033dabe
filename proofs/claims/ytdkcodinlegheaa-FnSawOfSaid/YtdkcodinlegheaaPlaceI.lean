/- Contracts of chapter 8's functions of the program: places and distances. -/
import Derived.Test.YtdkcodinlegheaaPlaceF
import Derived.Test.YtdkcodinlegheaaGList
import Derived.Test.YtdkcodinlegheaaGFun
set_option linter.unusedVariables false
namespace Go.Proofs.Ytdkcodinlegheaa

set_option maxRecDepth 4000
open Go.ChangeShapes Go.WideShapes Go.ChangeAt Go.RowKit Go.Joins

set_option maxHeartbeats 400000 in
theorem dividedUp_any (a b : Nat) (w : World) (ha : a ≤ 100000) (hb : 1 ≤ b) (hb2 : b ≤ 100000) :
    Calls Try.prog 73 #[.int .i64 a, .int .i64 b] w fun e w' => e = .returned (.int .i64 (upN a b : Nat)) ∧ w = w' := by
  have hE : ((a : Int) + b - 1) / (b : Int) = ((upN a b : Nat) : Int) := by
    unfold upN
    have e : ((a + b - 1 : Nat) : Int) = (a : Int) + b - 1 := by omega
    rw [← e]; simp
  have hE2 : ((a : Int) + b - 1).tdiv (b : Int) = ((upN a b : Nat) : Int) := by rw [Int.tdiv_eq_ediv_of_nonneg (by omega), hE]
  have hle : upN a b ≤ a + b := by unfold upN; exact Nat.le_trans (Nat.div_le_self _ _) (by omega)
  have hb0 : ¬ (b : Int) = 0 := by omega
  generalize upN a b = q at *
  go_enter Try.func73, Try.ntmps73
  go_wp2
  go_ret
  exact ⟨rfl, rfl⟩

theorem upN_le60 {n s k : Nat} (ht : tokN n s = true) (h1 : k ≤ s) : upN (k * n) s ≤ 60 := by
  obtain ⟨b1, b2, b3, b4, _⟩ := tokN_bd ht
  have := oneAt_le (n := n) (s := s) (i := k) (by omega) h1
  unfold oneAt at this
  omega

set_option maxHeartbeats 2000000 in
theorem placeOfOne_any (n s q : Int) (w : World) :
    Calls Try.prog 70 #[(.agg #[.int .i64 (n), .int .i64 (s)]), .int .i64 q] w fun e w' => e = .returned (.int .i64 (oneF n s q)) ∧ Below w.heap.size w w' := by
  
  by_cases ht : tok n s = true
  · have hb := tok_bd ht
    by_cases h0 : q < 1
    · rw [oneF_no (n := n) (s := s) (k := q) (by omega)]
      go_enter Try.func70, Try.ntmps70
      go_wp2_with fail
      refine (turnOk_any _ _ _).mono ?_; rintro e w1 ⟨rfl, hb1⟩
      have hz1 := hb1.size
      try simp at hz1
      have t1 : Two w1 (w.heap.size) (.int .i64 n) (.int .i64 s) 29 := Two.below (by repeat (first | assumption | exact Two.new' _ _ _ _ _ (by simp) | refine Two.alloc ?_ _ | refine Two.drewN ?_ _)) hb1 (by first | omega | (simp <;> omega))
      have hlt1 : (w.heap.size) < w1.heap.size := t1.lt
      have hnt1 : ¬ (w.heap.size) = w1.heap.size := Nat.ne_of_lt hlt1
      have t1c := t1.cell0
      have t1d := t1.cell1
      rw [ht]
      go_wp2
      go_ret
      exact ⟨rfl, (by repeat (first | exact Below.refl _ _ | assumption | (refine Below.trans ?_ (Below.mono (by assumption) (by first | omega | (simp <;> omega)))) | (refine Below.alloc ?_ (by first | omega | (simp <;> omega)) _) | (refine below_drewN ?_ _) | (refine Below.drew ?_) | (refine Below.setCell ?_ (by first | omega | (simp <;> omega)) _)))⟩
    by_cases h1 : s < q
    · rw [oneF_no (n := n) (s := s) (k := q) (by omega)]
      go_enter Try.func70, Try.ntmps70
      go_wp2_with fail
      refine (turnOk_any _ _ _).mono ?_; rintro e w1 ⟨rfl, hb1⟩
      have hz1 := hb1.size
      try simp at hz1
      have t1 : Two w1 (w.heap.size) (.int .i64 n) (.int .i64 s) 29 := Two.below (by repeat (first | assumption | exact Two.new' _ _ _ _ _ (by simp) | refine Two.alloc ?_ _ | refine Two.drewN ?_ _)) hb1 (by first | omega | (simp <;> omega))
      have hlt1 : (w.heap.size) < w1.heap.size := t1.lt
      have hnt1 : ¬ (w.heap.size) = w1.heap.size := Nat.ne_of_lt hlt1
      have t1c := t1.cell0
      have t1d := t1.cell1
      rw [ht]
      go_wp2
      go_ret
      exact ⟨rfl, (by repeat (first | exact Below.refl _ _ | assumption | (refine Below.trans ?_ (Below.mono (by assumption) (by first | omega | (simp <;> omega)))) | (refine Below.alloc ?_ (by first | omega | (simp <;> omega)) _) | (refine below_drewN ?_ _) | (refine Below.drew ?_) | (refine Below.setCell ?_ (by first | omega | (simp <;> omega)) _)))⟩
    · rw [oneF_yes ht (by omega) (by omega)]
      have ht0 := ht
      obtain ⟨N, S, rfl, rfl, hN⟩ := tokN_of ht0
      obtain ⟨q, rfl⟩ := Int.eq_ofNat_of_zero_le (by omega : 0 ≤ q)
      simp only [Int.toNat_natCast]
      have hq1 : q ≤ S := by omega
      have hu := upN_le60 (k := q) hN hq1
      have hm : q * N ≤ 60 * 60 := Nat.mul_le_mul (by omega) (by omega)
      have he : (q : Int) * N = ((q * N : Nat) : Int) := by simp
      have hd := fun w => dividedUp_any (q * N) S w (by omega) (by omega) (by omega)
      rw [show oneAt N S q = upN (q * N) S from rfl]
      
      generalize upN (q * N) S = u at *
      generalize q * N = m at *
      clear hN ht0
      go_enter Try.func70, Try.ntmps70
      go_wp2_with fail
      refine (turnOk_any _ _ _).mono ?_; rintro e w1 ⟨rfl, hb1⟩
      have hz1 := hb1.size
      try simp at hz1
      have t1 : Two w1 (w.heap.size) (.int .i64 N) (.int .i64 S) 29 := Two.below (by repeat (first | assumption | exact Two.new' _ _ _ _ _ (by simp) | refine Two.alloc ?_ _ | refine Two.drewN ?_ _)) hb1 (by first | omega | (simp <;> omega))
      have hlt1 : (w.heap.size) < w1.heap.size := t1.lt
      have hnt1 : ¬ (w.heap.size) = w1.heap.size := Nat.ne_of_lt hlt1
      have t1c := t1.cell0
      have t1d := t1.cell1
      rw [ht]
      go_wp2_with fail
      refine (hd _).mono ?_; rintro e w2 ⟨rfl, rfl⟩
      go_wp2
      go_ret
      exact ⟨rfl, (by repeat (first | exact Below.refl _ _ | assumption | (refine Below.trans ?_ (Below.mono (by assumption) (by first | omega | (simp <;> omega)))) | (refine Below.alloc ?_ (by first | omega | (simp <;> omega)) _) | (refine below_drewN ?_ _) | (refine Below.drew ?_) | (refine Below.setCell ?_ (by first | omega | (simp <;> omega)) _)))⟩
  · 
    have ht' : tok n s = false := by simpa using ht
    rw [oneF_no (n := n) (s := s) (k := q) (by simp [ht])]
    go_enter Try.func70, Try.ntmps70
    go_wp2_with fail
    refine (turnOk_any _ _ _).mono ?_; rintro e w1 ⟨rfl, hb1⟩
    have hz1 := hb1.size
    try simp at hz1
    have t1 : Two w1 (w.heap.size) (.int .i64 n) (.int .i64 s) 29 := Two.below (by repeat (first | assumption | exact Two.new' _ _ _ _ _ (by simp) | refine Two.alloc ?_ _ | refine Two.drewN ?_ _)) hb1 (by first | omega | (simp <;> omega))
    have hlt1 : (w.heap.size) < w1.heap.size := t1.lt
    have hnt1 : ¬ (w.heap.size) = w1.heap.size := Nat.ne_of_lt hlt1
    have t1c := t1.cell0
    have t1d := t1.cell1
    rw [ht']
    go_wp2
    go_ret
    exact ⟨rfl, (by repeat (first | exact Below.refl _ _ | assumption | (refine Below.trans ?_ (Below.mono (by assumption) (by first | omega | (simp <;> omega)))) | (refine Below.alloc ?_ (by first | omega | (simp <;> omega)) _) | (refine below_drewN ?_ _) | (refine Below.drew ?_) | (refine Below.setCell ?_ (by first | omega | (simp <;> omega)) _)))⟩

set_option maxHeartbeats 2000000 in
theorem spacesOf_any (n s : Int) (w : World) :
    Calls Try.prog 54 #[(.agg #[.int .i64 (n), .int .i64 (s)])] w (ListPost (spacesF n s) w) := by
  
  by_cases ht : tok n s = true
  · rw [spacesF_yes ht]
    have hb := tok_bd ht
    have HT := Lib.hid ht
    obtain ⟨N, rfl⟩ := Int.eq_ofNat_of_zero_le (by omega : 0 ≤ n)
    obtain ⟨S, rfl⟩ := Int.eq_ofNat_of_zero_le (by omega : 0 ≤ s)
    rw [Int.toNat_natCast, Int.toNat_natCast]
    obtain ⟨i0, hi, iz0, iz1, iz2⟩ := info_parts infoInt
    have Hi := Lib.hid hi
    
    go_enter Try.func54, Try.ntmps54
    go_wp2_with fail
    refine (turnOk_any _ _ _).mono ?_; rintro e w1 ⟨rfl, hb1⟩
    have hz1 := hb1.size
    try simp at hz1
    have t1 : Two w1 (w.heap.size) (.int .i64 N) (.int .i64 S) 29 := Two.below (by repeat (first | assumption | exact Two.new' _ _ _ _ _ (by simp) | refine Two.alloc ?_ _ | refine Two.drewN ?_ _)) hb1 (by first | omega | (simp <;> omega))
    have hlt1 : (w.heap.size) < w1.heap.size := t1.lt
    have hnt1 : ¬ (w.heap.size) = w1.heap.size := Nat.ne_of_lt hlt1
    have t1c := t1.cell0
    have t1d := t1.cell1
    rw [ht]
    clear ht hi
    go_wp2_with (at_make; refine wpList_make_full _ rfl _ _ 38 rfl w.heap.size 3 i0 (.int .i64 0) 1 Try.underlying38 Hi.out iz0 iz1 .i64 .i64 _ _ S rfl rfl rfl rfl (by rw [iz2]; omega) (by unfold maxLen; omega) (by omega) ?_)
    intro w2 hown hgrow
    have hz2' := hgrow.size
    have hB2 : Below w1.heap.size w1 w2 := ⟨hgrow.os, hgrow.tape, hgrow.output, hgrow.size, fun k hk => hgrow.block k hk (by simp)⟩
    have t2 : Two w2 w.heap.size (.int .i64 N) (.int .i64 S) 29 := Two.below t1 hB2 hlt1
    have hBw : Below w.heap.size w w2 := (by repeat (first | exact Below.refl _ _ | assumption | (refine Below.trans ?_ (Below.mono (by assumption) (by first | omega | (simp <;> omega)))) | (refine Below.alloc ?_ (by first | omega | (simp <;> omega)) _) | (refine below_drewN ?_ _) | (refine Below.drew ?_) | (refine Below.setCell ?_ (by first | omega | (simp <;> omega)) _)))
    obtain ⟨cur0, hr0, hs0, _⟩ := RowAt.of_own hown
    clear hown hgrow hb1 hB2
    have hg1 : w.heap.size < w1.heap.size := hlt1
    generalize hG : w1.heap.size = g at *
    clear hG
    have e0 : ((oneAt N S 0 : Nat) : Int) - 1 = -1 := by rw [oneAt_zero (by omega)]; rfl
    go_wp2_with fail
    go_loopw [4, 15] (fun y x wr => ∃ (k : Nat) (cur : Array Value), x = .int .i64 k ∧ y = .int .i64 (((oneAt N S k : Nat) : Int) - 1) ∧ k ≤ S ∧ RowAt wr g cur ∧ cur.size = S ∧ Hid (∀ i, i < k → cur[i]? = some (.int .i64 ((spaceN N S i : Nat) : Int))) ∧ Two wr w.heap.size (.int .i64 N) (.int .i64 S) 29 ∧ Below w.heap.size w wr) (fun _ x _ => S - (intOf x).toNat)
    case atStart => exact ⟨0, cur0, rfl, by rw [e0], by omega, hr0, hs0, fun i hi => by omega, t2, hBw⟩
    case round =>
      obtain ⟨k, cur, rfl, rfl, hk, hr, hs, hd, t3, hB3⟩ := hrel
      clear hr0 hs0 t2 hBw e0
      have hl3 := t3.lt
      have t3c := t3.cell0
      have t3d := t3.cell1
      have hg3 := hr.lt
      by_cases hkm : k < S
      · have hkm' : (k : Int) < S := by omega
        have hone : oneF N S ((k : Int) + 1) = ((oneAt N S (k + 1) : Nat) : Int) - 1 := by
          rw [oneF_yes HT.out (by omega) (by omega)]
          rfl
        have hle : oneAt N S (k + 1) ≤ N := oneAt_le (by omega) (by omega)
        have hle0 : oneAt N S k ≤ N := oneAt_le (by omega) (by omega)
        have hsp := space_int (N := N) (S := S) (k := k) (by omega) (by omega)
        have HO := Lib.hid hone
        clear hone
        go_wp2_with fail
        refine (placeOfOne_any _ _ _ _).mono ?_; rintro e w4 ⟨rfl, hb4⟩
        rw [HO.out]
        have t4 := t3.below hb4 hl3
        have r4 := hr.below hb4 hg3
        have hB4 := hB3.trans (hb4.mono (by omega))
        have c4 := r4.cell k
        obtain ⟨z4, e4⟩ : ∃ z, cur[k]? = some z := ⟨_, Array.getElem?_eq_getElem (by omega)⟩
        rw [e4] at c4
        have f4 := r4.free k
        have r5 := r4.set k (.int .i64 ((spaceN N S k : Nat) : Int))
        generalize hX : ((oneAt N S (k + 1) : Nat) : Int) - 1 = X at *
        generalize hY : ((oneAt N S k : Nat) : Int) - 1 = Y at *
        have HX := Lib.hid hX
        have bX : -1 ≤ X ∧ X ≤ 60 := by omega
        have bY : -1 ≤ Y ∧ Y ≤ 60 := by omega
        rw [← hsp] at r5
        have HSP := Lib.hid hsp
        have HS := Lib.hid hs
        clear r4 hr t3 hB3 hb4 t3c t3d e4 hX hY hle hle0 hsp hs
        go_wp2_with fail
        go_roundw
        case rel =>
          refine ⟨k + 1, cur.setIfInBounds k (.int .i64 (X - Y)), by go_num, by rw [HX.out], by omega, r5, by simp [HS.out], fun i hi => ?_, t4.set (by omega) _ _, hB4.setCell (by simp; omega) _⟩
          by_cases hik : i = k
          · subst hik
            rw [HSP.out]
            simp [HS.out, hkm]
          · rw [Array.getElem?_setIfInBounds, if_neg (by omega)]
            exact hd.out i (by omega)
        case measure => simp only [intOf]; omega
      · have hkm' : decide ((k : Int) < S) = false := by simp; omega
        obtain rfl : k = S := by omega
        have ho : OwnL wr w.heap.size (.slice (some ⟨g, 0, none⟩) k k) (spL N k k) := by
          have h := RowAt.own (b := w.heap.size) (xs := spL N k k) hr (by omega) (by rw [spL_len]; omega) (by rw [spL_len]; exact hs) (fun i hi => by
            rw [spL_len] at hi
            rw [spL_getD _ _ _ _ hi]
            exact hd.out i (by omega))
          rwa [spL_len] at h
        clear hr hs hd
        go_wp2
        go_ret
        exact ⟨_, rfl, ho, hB3⟩
  · 
    have ht' : tok n s = false := by simpa using ht
    rw [spacesF_no ht]
    go_enter Try.func54, Try.ntmps54
    go_wp2_with fail
    refine (turnOk_any _ _ _).mono ?_; rintro e w1 ⟨rfl, hb1⟩
    have hz1 := hb1.size
    try simp at hz1
    have t1 : Two w1 (w.heap.size) (.int .i64 n) (.int .i64 s) 29 := Two.below (by repeat (first | assumption | exact Two.new' _ _ _ _ _ (by simp) | refine Two.alloc ?_ _ | refine Two.drewN ?_ _)) hb1 (by first | omega | (simp <;> omega))
    have hlt1 : (w.heap.size) < w1.heap.size := t1.lt
    have hnt1 : ¬ (w.heap.size) = w1.heap.size := Nat.ne_of_lt hlt1
    have t1c := t1.cell0
    have t1d := t1.cell1
    rw [ht']
    go_wp2
    go_ret
    exact ⟨_, rfl, World.ownsRow_nil _ _ _ _, (by repeat (first | exact Below.refl _ _ | assumption | (refine Below.trans ?_ (Below.mono (by assumption) (by first | omega | (simp <;> omega)))) | (refine Below.alloc ?_ (by first | omega | (simp <;> omega)) _) | (refine below_drewN ?_ _) | (refine Below.drew ?_) | (refine Below.setCell ?_ (by first | omega | (simp <;> omega)) _)))⟩
end Go.Proofs.Ytdkcodinlegheaa
