/- Contracts of the program's CodeOf, countOnes and OnesUpTo. Contracts of the program's CodeOf, countOnes and OnesUpTo, continued. -/
import Derived.Test.YtdkcodinlegheaaGWord
import Derived.Laws.BytesArg
import Derived.Lib.Bytealg
import Derived.Lib.Strings
import Derived.Lib.Slices
import Derived.Lib.Walk
set_option linter.unusedVariables false
namespace Go.Proofs.Ytdkcodinlegheaa
open Go.ChangeShapes Go.WideShapes Go.ChangeAt Go.RowKit Go.Joins

theorem infoByte : (Try.prog.info? 5).map (fun i => (i.zero, i.size, i.bytes)) = some (some (.int .u8 0), 1, 1) := by kernel_rfl

/-- block g holds the cells cur of bytes -/
def RowB (w : World) (g : Nat) (cur : Array Value) : Prop := w.heap[g]? = some (.cells cur 5 (0, 0))

theorem RowB.cell {w : World} {g : Nat} {cur : Array Value} (h : RowB w g cur) (i : Nat) : w.cell? ⟨g, i, none⟩ = cur[i]? := by unfold RowB at h; simp [World.cell?, h]

theorem RowB.free {w : World} {g : Nat} {cur : Array Value} (h : RowB w g cur) (i : Nat) : w.frozen? ⟨g, i, none⟩ = false := by unfold RowB at h; simp [World.frozen?, h]

theorem RowB.lt {w : World} {g : Nat} {cur : Array Value} (h : RowB w g cur) : g < w.heap.size := by unfold RowB at h; exact (Array.getElem?_eq_some_iff.1 h).1

theorem RowB.below {w w' : World} {g B : Nat} {cur : Array Value} (h : RowB w g cur) (hb : Below B w w') (hg : g < B) : RowB w' g cur := by unfold RowB at *; rw [hb.block g hg]; exact h

theorem RowB.set {w : World} {g : Nat} {cur : Array Value} (h : RowB w g cur) (i : Nat) (v : Value) : RowB (w.setCell ⟨g, i, none⟩ v) g (cur.setIfInBounds i v) := by
  unfold RowB at *
  simp [World.setCell, Array.getElem?_modify, h]

theorem RowB.of_own {w : World} {g b n cap : Nat} {xs : List Value} (h : w.ownsRow b 5 1 (.slice (some ⟨g, 0, none⟩) n cap) n xs) : ∃ cur, RowB w g cur ∧ cur.size = cap ∧ n ≤ cap := by
  obtain ⟨_, h⟩ := h
  rcases h with ⟨h, _⟩ | ⟨g', cap', cur, hv, hb, hg, hn, hm, hs, ht⟩
  · cases h
  · injection hv with h1 h2 h3
    injection h1 with h1
    injection h1 with h1
    subst h1 h3
    exact ⟨cur, hg, by omega, hn⟩

def bI (b : Bool) : Int := if b then 49 else 48

theorem str_bits (u : List Bool) : strOfNums (u.map bI) = txtB u := by
  unfold strOfNums txtB
  congr 2
  rw [List.map_map]
  refine List.map_congr_left fun b _ => ?_
  cases b <;> rfl

theorem conv_bits (w : World) (g m : Nat) (u : List Bool) (cur : Array Value) (hu : u.length = m) (hr : RowB w g cur) (hc : ∀ i, i < m → cur[i]? = some (.int .u8 (bI (u.getD i false)))) :
    (convert 22 9 (.slice (some ⟨g, 0, none⟩) m m)).run Try.prog w = .ok (.string (txtB u)) w := by
  rw [run_convert_bytes_arg w 22 5 Try.underlying22 Try.underlying5 g 0 m m (u.map bI) (by simp [hu]) (fun i hi => by
    rw [Nat.zero_add, hr.cell, hc i hi]
    simp [List.getD_eq_getElem?_getD, List.getElem?_map, List.getElem?_eq_getElem (show i < u.length by omega)]) _ Try.underlying9, str_bits]

def ptN (n s a : Nat) : Nat := a * s % n

theorem pt_next {n s a : Nat} (h0 : 0 < n) (hs : s ≤ n) : ptN n s (a + 1) = if n ≤ ptN n s a + s then ptN n s a + s - n else ptN n s a + s := mod_next h0 hs

theorem let_pt (n s a : Nat) : letN n s a = decide (n ≤ ptN n s a + s) := rfl

set_option maxRecDepth 4000 in

set_option maxHeartbeats 2000000 in
theorem codeOf_yes (n s : Int) (a m : Nat) (w : World) (ht : tok n s = true) (h1 : (a : Int) < n) (h3 : m ≤ 60) :
    Calls Try.prog 65 #[(.agg #[.int .i64 (n), .int .i64 (s)]), .int .i64 a, .int .i64 m] w (StrPost (wordL n.toNat s.toNat a m) w) := by
  
  have hb := tok_bd ht
  have hp : pointF n s a = ((ptN n.toNat s.toNat a : Nat) : Int) := by
    rw [pointF_yes ht (by omega) h1]
    obtain ⟨N, rfl⟩ := Int.eq_ofNat_of_zero_le (by omega : 0 ≤ n)
    obtain ⟨S, rfl⟩ := Int.eq_ofNat_of_zero_le (by omega : 0 ≤ s)
    unfold ptN
    simp
  have hlt : ∀ k, ptN n.toNat s.toNat k < n.toNat := fun k => Nat.mod_lt _ (by omega)
  have HT := Lib.hid ht
  have HL := Lib.hid hlt
  have HP := Lib.hid hp
  clear hlt hp
  obtain ⟨i0, hi, iz0, iz1, iz2⟩ := info_parts infoByte
  have Hi := Lib.hid hi
  have g0 : ¬ (m : Int) < 0 := by omega
  have g1 : ¬ (60 : Int) < m := by omega
  have g2 : ¬ n ≤ (a : Int) := by omega
  have g3 : ¬ (a : Int) < 0 := by omega
  have hm0 : ((m : Nat) : Int).toNat = m := by omega
  go_enter Try.func65, Try.ntmps65
  go_wp2_with fail
  refine (turnOk_any _ _ _).mono ?_; rintro e w1 ⟨rfl, hb1⟩
  have hz1 := hb1.size
  try simp at hz1
  have t1 : Two w1 (w.heap.size) (.int .i64 n) (.int .i64 s) 29 := Two.below (by repeat (first | assumption | exact Two.new' _ _ _ _ _ (by simp) | refine Two.alloc ?_ _ | refine Two.drewN ?_ _)) hb1 (by first | omega | (simp <;> omega))
  have hlt1 : (w.heap.size) < w1.heap.size := t1.lt
  have hnt1 : ¬ (w.heap.size) = w1.heap.size := Nat.ne_of_lt hlt1
  have t1c := t1.cell0
  have t1d := t1.cell1
  rw [ht]
  clear ht hi
  go_wp2_with (at_make; refine wpList_make_full _ rfl _ _ 22 rfl w.heap.size 5 i0 (.int .u8 0) 1 Try.underlying22 Hi.out iz0 iz1 .i64 .i64 _ _ m rfl rfl rfl rfl (by rw [iz2]; omega) (by unfold maxLen; omega) (by omega) ?_)
  intro w2 hown hgrow
  have hB2 : Below w1.heap.size w1 w2 := ⟨hgrow.os, hgrow.tape, hgrow.output, hgrow.size, fun k hk => hgrow.block k hk (by simp)⟩
  have t2 : Two w2 w.heap.size (.int .i64 n) (.int .i64 s) 29 := Two.below t1 hB2 hlt1
  have hBw : Below w.heap.size w w2 := (by repeat (first | exact Below.refl _ _ | assumption | (refine Below.trans ?_ (Below.mono (by assumption) (by first | omega | (simp <;> omega)))) | (refine Below.alloc ?_ (by first | omega | (simp <;> omega)) _) | (refine below_drewN ?_ _) | (refine Below.drew ?_) | (refine Below.setCell ?_ (by first | omega | (simp <;> omega)) _)))
  obtain ⟨cur0, hr0, hs0, _⟩ := RowB.of_own hown
  clear hown hgrow hb1 hB2
  have hg1 : w.heap.size < w1.heap.size := hlt1
  generalize hG : w1.heap.size = g at *
  clear hG
  have t2c := t2.cell0
  have t2d := t2.cell1
  go_wp2_with fail
  refine (pointOf_any _ _ _ _).mono ?_; rintro e w3 ⟨rfl, hb3⟩
  rw [HP.out]
  have t3 := t2.below hb3 t2.lt
  have r3 := hr0.below hb3 hr0.lt
  have hB3 := hBw.trans (hb3.mono hBw.size)
  clear hb3 hBw hr0 t2 t2c t2d
  go_wp2_with fail
  go_loopw [8, 38] (fun y x wr => ∃ (k : Nat) (cur : Array Value), x = .int .i64 k ∧ y = .int .i64 (ptN n.toNat s.toNat (a + k) : Nat) ∧ k ≤ m ∧ RowB wr g cur ∧ cur.size = m ∧ Hid (∀ i, i < k → cur[i]? = some (.int .u8 (bI (letN n.toNat s.toNat (a + i))))) ∧ Two wr w.heap.size (.int .i64 n) (.int .i64 s) 29 ∧ Below w.heap.size w wr) (fun _ x _ => m - (intOf x).toNat)
  case atStart => exact ⟨0, cur0, rfl, rfl, by omega, r3, hs0, fun i hi => by omega, t3, hB3⟩
  case round =>
    obtain ⟨k, cur, rfl, rfl, hk, hr, hs, hd, t, hB⟩ := hrel
    clear r3 hs0 t3 hB3
    have hl3 := t.lt
    have hg3 := hr.lt
    have hle := HL.out (a + k)
    have hnx := pt_next (n := n.toNat) (s := s.toNat) (a := a + k) (by omega) (by omega)
    have hlp := let_pt n.toNat s.toNat (a + k)
    by_cases hkm : k < m
    · have hkm' : (k : Int) < m := by omega
      have c4 := hr.cell k
      have e4 : cur[k]? = some (cur[k]'(by omega)) := Array.getElem?_eq_getElem (by omega)
      rw [e4] at c4
      have f4 := hr.free k
      have r5 := hr.set k (.int .u8 48)
      have t5 := t.set (b := g) (by omega) k (.int .u8 48)
      have hB5 := hB.setCell (p := ⟨g, k, none⟩) (by simp; omega) (.int .u8 48)
      have c5 := t5.cell0
      have d5 := t5.cell1
      have c6 := r5.cell k
      have f6 := r5.free k
      rw [Array.getElem?_setIfInBounds, if_pos rfl, if_pos (by omega)] at c6
      by_cases c : n.toNat ≤ ptN n.toNat s.toNat (a + k) + s.toNat
      · have c' : n ≤ (ptN n.toNat s.toNat (a + k) : Nat) + s := by omega
        rw [if_pos c] at hnx
        rw [decide_eq_true c] at hlp
        have r7 := r5.set k (.int .u8 49)
        have t7 := t5.set (b := g) (by omega) k (.int .u8 49)
        have hB7 := hB5.setCell (p := ⟨g, k, none⟩) (by simp; omega) (.int .u8 49)
        have c7 := t7.cell0
        have d7 := t7.cell1
        clear hr t hB e4
        go_wp2_with fail
        go_roundw
        case rel =>
          refine ⟨k + 1, _, by go_num, by rw [← Nat.add_assoc, hnx]; go_num, by omega, r7, by simp [hs], fun i hi => ?_, t7, hB7⟩
          by_cases hik : i = k
          · subst hik
            rw [Array.getElem?_setIfInBounds, if_pos rfl, if_pos (by simp; omega), hlp]; rfl
          · rw [Array.getElem?_setIfInBounds, if_neg (by omega), Array.getElem?_setIfInBounds, if_neg (by omega)]
            exact hd.out i (by omega)
        case measure => simp only [intOf]; omega
      · have c' : ¬ n ≤ (ptN n.toNat s.toNat (a + k) : Nat) + s := by omega
        rw [if_neg c] at hnx
        rw [decide_eq_false c] at hlp
        clear hr t hB e4
        go_wp2_with fail
        go_roundw
        case rel =>
          refine ⟨k + 1, _, by go_num, by rw [← Nat.add_assoc, hnx]; go_num, by omega, r5, by simp [hs], fun i hi => ?_, t5, hB5⟩
          by_cases hik : i = k
          · subst hik
            rw [Array.getElem?_setIfInBounds, if_pos rfl, if_pos (by omega), hlp]; rfl
          · rw [Array.getElem?_setIfInBounds, if_neg (by omega)]
            exact hd.out i (by omega)
        case measure => simp only [intOf]; omega
    · obtain rfl : k = m := by omega
      have hkm' : decide ((k : Int) < k) = false := by simp
      have hconv := conv_bits wr g k (wordL n.toNat s.toNat a k) cur (wordL_length _ _ _ _) hr (fun i hi => by rw [hd.out i hi, wordL_getD _ _ _ _ _ hi])
      go_wp2
      go_ret
      exact ⟨rfl, hB⟩
end Go.Proofs.Ytdkcodinlegheaa

set_option linter.unusedVariables false
namespace Go.Proofs.Ytdkcodinlegheaa
open Go.ChangeShapes Go.WideShapes Go.ChangeAt Go.RowKit Go.Joins

set_option maxHeartbeats 2000000 in
theorem codeOf_any (n s a m : Int) (w : World) :
    Calls Try.prog 65 #[(.agg #[.int .i64 (n), .int .i64 (s)]), .int .i64 a, .int .i64 m] w (StrPost (codeF n s a m) w) := by
  
  by_cases h : tok n s = true ∧ (0 ≤ a ∧ a < n) ∧ (0 ≤ m ∧ m ≤ 60)
  · obtain ⟨ht, ⟨h0, h1⟩, h2, h3⟩ := h
    rw [codeF_yes ht h0 h1 h2 h3]
    obtain ⟨m, rfl⟩ := Int.eq_ofNat_of_zero_le h2
    obtain ⟨a, rfl⟩ := Int.eq_ofNat_of_zero_le h0
    rw [Int.toNat_natCast, Int.toNat_natCast]
    exact codeOf_yes n s a m w ht h1 (by omega)
  · rw [codeF_no h]
    by_cases ht : tok n s = true
    · by_cases h0 : a < 0
      · go_enter Try.func65, Try.ntmps65
        go_wp2_with fail
        refine (turnOk_any _ _ _).mono ?_; rintro e w1 ⟨rfl, hb1⟩
        have hz1 := hb1.size
        try simp at hz1
        have t1 : Two w1 (w.heap.size) (.int .i64 n) (.int .i64 s) 29 := Two.below (by repeat (first | assumption | exact Two.new' _ _ _ _ _ (by simp) | refine Two.alloc ?_ _ | refine Two.drewN ?_ _)) hb1 (by first | omega | (simp <;> omega))
        have hlt1 : (w.heap.size) < w1.heap.size := t1.lt
        have hnt1 : ¬ (w.heap.size) = w1.heap.size := Nat.ne_of_lt hlt1
        have t1c := t1.cell0
        have t1d := t1.cell1
        rw [ht]
        go_wp2
        go_ret
        exact ⟨rfl, (by repeat (first | exact Below.refl _ _ | assumption | (refine Below.trans ?_ (Below.mono (by assumption) (by first | omega | (simp <;> omega)))) | (refine Below.alloc ?_ (by first | omega | (simp <;> omega)) _) | (refine below_drewN ?_ _) | (refine Below.drew ?_) | (refine Below.setCell ?_ (by first | omega | (simp <;> omega)) _)))⟩
      by_cases h1 : n ≤ a
      · go_enter Try.func65, Try.ntmps65
        go_wp2_with fail
        refine (turnOk_any _ _ _).mono ?_; rintro e w1 ⟨rfl, hb1⟩
        have hz1 := hb1.size
        try simp at hz1
        have t1 : Two w1 (w.heap.size) (.int .i64 n) (.int .i64 s) 29 := Two.below (by repeat (first | assumption | exact Two.new' _ _ _ _ _ (by simp) | refine Two.alloc ?_ _ | refine Two.drewN ?_ _)) hb1 (by first | omega | (simp <;> omega))
        have hlt1 : (w.heap.size) < w1.heap.size := t1.lt
        have hnt1 : ¬ (w.heap.size) = w1.heap.size := Nat.ne_of_lt hlt1
        have t1c := t1.cell0
        have t1d := t1.cell1
        rw [ht]
        go_wp2
        go_ret
        exact ⟨rfl, (by repeat (first | exact Below.refl _ _ | assumption | (refine Below.trans ?_ (Below.mono (by assumption) (by first | omega | (simp <;> omega)))) | (refine Below.alloc ?_ (by first | omega | (simp <;> omega)) _) | (refine below_drewN ?_ _) | (refine Below.drew ?_) | (refine Below.setCell ?_ (by first | omega | (simp <;> omega)) _)))⟩
      by_cases h2 : m < 0
      · go_enter Try.func65, Try.ntmps65
        go_wp2_with fail
        refine (turnOk_any _ _ _).mono ?_; rintro e w1 ⟨rfl, hb1⟩
        have hz1 := hb1.size
        try simp at hz1
        have t1 : Two w1 (w.heap.size) (.int .i64 n) (.int .i64 s) 29 := Two.below (by repeat (first | assumption | exact Two.new' _ _ _ _ _ (by simp) | refine Two.alloc ?_ _ | refine Two.drewN ?_ _)) hb1 (by first | omega | (simp <;> omega))
        have hlt1 : (w.heap.size) < w1.heap.size := t1.lt
        have hnt1 : ¬ (w.heap.size) = w1.heap.size := Nat.ne_of_lt hlt1
        have t1c := t1.cell0
        have t1d := t1.cell1
        rw [ht]
        go_wp2
        go_ret
        exact ⟨rfl, (by repeat (first | exact Below.refl _ _ | assumption | (refine Below.trans ?_ (Below.mono (by assumption) (by first | omega | (simp <;> omega)))) | (refine Below.alloc ?_ (by first | omega | (simp <;> omega)) _) | (refine below_drewN ?_ _) | (refine Below.drew ?_) | (refine Below.setCell ?_ (by first | omega | (simp <;> omega)) _)))⟩
      have h3 : 60 < m := by
        by_cases c : 60 < m
        · exact c
        · exact absurd ⟨ht, ⟨by omega, by omega⟩, by omega, by omega⟩ h
      go_enter Try.func65, Try.ntmps65
      go_wp2_with fail
      refine (turnOk_any _ _ _).mono ?_; rintro e w1 ⟨rfl, hb1⟩
      have hz1 := hb1.size
      try simp at hz1
      have t1 : Two w1 (w.heap.size) (.int .i64 n) (.int .i64 s) 29 := Two.below (by repeat (first | assumption | exact Two.new' _ _ _ _ _ (by simp) | refine Two.alloc ?_ _ | refine Two.drewN ?_ _)) hb1 (by first | omega | (simp <;> omega))
      have hlt1 : (w.heap.size) < w1.heap.size := t1.lt
      have hnt1 : ¬ (w.heap.size) = w1.heap.size := Nat.ne_of_lt hlt1
      have t1c := t1.cell0
      have t1d := t1.cell1
      rw [ht]
      go_wp2
      go_ret
      exact ⟨rfl, (by repeat (first | exact Below.refl _ _ | assumption | (refine Below.trans ?_ (Below.mono (by assumption) (by first | omega | (simp <;> omega)))) | (refine Below.alloc ?_ (by first | omega | (simp <;> omega)) _) | (refine below_drewN ?_ _) | (refine Below.drew ?_) | (refine Below.setCell ?_ (by first | omega | (simp <;> omega)) _)))⟩
    · have ht' : tok n s = false := by simpa using ht
      go_enter Try.func65, Try.ntmps65
      go_wp2_with fail
      refine (turnOk_any _ _ _).mono ?_; rintro e w1 ⟨rfl, hb1⟩
      have hz1 := hb1.size
      try simp at hz1
      have t1 : Two w1 (w.heap.size) (.int .i64 n) (.int .i64 s) 29 := Two.below (by repeat (first | assumption | exact Two.new' _ _ _ _ _ (by simp) | refine Two.alloc ?_ _ | refine Two.drewN ?_ _)) hb1 (by first | omega | (simp <;> omega))
      have hlt1 : (w.heap.size) < w1.heap.size := t1.lt
      have hnt1 : ¬ (w.heap.size) = w1.heap.size := Nat.ne_of_lt hlt1
      have t1c := t1.cell0
      have t1d := t1.cell1
      rw [ht']
      go_wp2
      go_ret
      exact ⟨rfl, (by repeat (first | exact Below.refl _ _ | assumption | (refine Below.trans ?_ (Below.mono (by assumption) (by first | omega | (simp <;> omega)))) | (refine Below.alloc ?_ (by first | omega | (simp <;> omega)) _) | (refine below_drewN ?_ _) | (refine Below.drew ?_) | (refine Below.setCell ?_ (by first | omega | (simp <;> omega)) _)))⟩

theorem tokN_nat {n s : Int} (h : tok n s = true) : tokN n.toNat s.toNat = true := by
  obtain ⟨N, S, rfl, rfl, h'⟩ := tokN_of h
  exact h'

theorem count_txt (u : List Bool) : Lib.countByte (txtB u).data.toList 49 = u.count true := by
  have e : (txtB u).data.toList = u.map byteB := by simp [txtB]
  rw [e]
  clear e
  unfold Lib.countByte
  induction u with
  | nil => rfl
  | cons b r ih =>
    rw [List.map_cons, List.count_cons, List.count_cons, ih]
    cases b <;> rfl

set_option maxHeartbeats 1000000 in

set_option maxRecDepth 100000 in
theorem countOnes_any (s : ByteArray) (w : World) :
    Calls Try.prog 64 #[.string s] w fun e w' => e = .returned (.int .i64 (Lib.countByte s.data.toList 49)) ∧ w = w' := by
  have hc : Calls Try.prog 71 #[.string s, .string ⟨#[49]⟩] w fun e w' => e = .returned (.int .i64 (Lib.countByte s.data.toList 49)) ∧ w = w' := by
    go_enter Try.func71, Try.ntmps71
    go_wp2
    rw [run_callFunc_extern Try.func75 (by kernel_rfl) (by kernel_rfl) (by kernel_rfl) (e := Extern.BytealgCount.count) (by kernel_rfl), Lib.run_countString]
    simp only [Result.andThen]
    rw [Oper.upon_value]
    go_wp2
    go_ret
    exact ⟨rfl, rfl⟩
  go_enter Try.func64, Try.ntmps64
  go_wp2_with fail
  refine hc.mono ?_; rintro e w1 ⟨rfl, rfl⟩
  go_wp2
  go_ret
  exact ⟨rfl, rfl⟩

set_option maxHeartbeats 1000000 in
theorem onesUpTo_any (n s m : Int) (w : World) :
    Calls Try.prog 39 #[(.agg #[.int .i64 (n), .int .i64 (s)]), .int .i64 m] w fun e w' => e = .returned (.int .i64 (onesF n s m)) ∧ Below w.heap.size w w' := by
  
  by_cases ht : tok n s = true
  · have hb := tok_bd ht
    by_cases h0 : m < 0
    · have e := onesF_no (n := n) (s := s) (m := m) (by omega)
      have EU := upF_no (n := n) (s := s) (k := m) (by omega)
      rw [e]
      go_enter Try.func39, Try.ntmps39
      go_wp2_with fail
      refine (upToSize_any _ _ _ _).mono ?_; rintro e w1 ⟨rfl, hb1⟩
      have hz1 := hb1.size
      try simp at hz1
      have t1 : Two w1 (w.heap.size) (.int .i64 n) (.int .i64 s) 29 := Two.below (by repeat (first | assumption | exact Two.new' _ _ _ _ _ (by simp) | refine Two.alloc ?_ _ | refine Two.drewN ?_ _)) hb1 (by first | omega | (simp <;> omega))
      have hlt1 : (w.heap.size) < w1.heap.size := t1.lt
      have hnt1 : ¬ (w.heap.size) = w1.heap.size := Nat.ne_of_lt hlt1
      have t1c := t1.cell0
      have t1d := t1.cell1
      rw [EU]
      go_wp2
      go_ret
      exact ⟨rfl, (by repeat (first | exact Below.refl _ _ | assumption | (refine Below.trans ?_ (Below.mono (by assumption) (by first | omega | (simp <;> omega)))) | (refine Below.alloc ?_ (by first | omega | (simp <;> omega)) _) | (refine below_drewN ?_ _) | (refine Below.drew ?_) | (refine Below.setCell ?_ (by first | omega | (simp <;> omega)) _)))⟩
    by_cases h1 : n < m
    · have e := onesF_no (n := n) (s := s) (m := m) (by omega)
      have EU := upF_no (n := n) (s := s) (k := m) (by omega)
      rw [e]
      go_enter Try.func39, Try.ntmps39
      go_wp2_with fail
      refine (upToSize_any _ _ _ _).mono ?_; rintro e w1 ⟨rfl, hb1⟩
      have hz1 := hb1.size
      try simp at hz1
      have t1 : Two w1 (w.heap.size) (.int .i64 n) (.int .i64 s) 29 := Two.below (by repeat (first | assumption | exact Two.new' _ _ _ _ _ (by simp) | refine Two.alloc ?_ _ | refine Two.drewN ?_ _)) hb1 (by first | omega | (simp <;> omega))
      have hlt1 : (w.heap.size) < w1.heap.size := t1.lt
      have hnt1 : ¬ (w.heap.size) = w1.heap.size := Nat.ne_of_lt hlt1
      have t1c := t1.cell0
      have t1d := t1.cell1
      rw [EU]
      go_wp2
      go_ret
      exact ⟨rfl, (by repeat (first | exact Below.refl _ _ | assumption | (refine Below.trans ?_ (Below.mono (by assumption) (by first | omega | (simp <;> omega)))) | (refine Below.alloc ?_ (by first | omega | (simp <;> omega)) _) | (refine below_drewN ?_ _) | (refine Below.drew ?_) | (refine Below.setCell ?_ (by first | omega | (simp <;> omega)) _)))⟩
    · obtain ⟨m, rfl⟩ := Int.eq_ofNat_of_zero_le (by omega : 0 ≤ m)
      have hn2 : tokN n.toNat s.toNat = true := tokN_nat ht
      have e2 : onesF n s m = ((wordL n.toNat s.toNat 0 m).count true : Nat) := by
        rw [onesF_fl ht (by omega), ones_upto hn2]; rfl
      have e3 := Lib.hid (codeF_yes ht (Int.le_refl 0) (by omega) (by omega : (0 : Int) ≤ m) (by omega))
      have EU := upF_yes ht (by omega : (0 : Int) ≤ m) (by omega)
      rw [e2]
      go_enter Try.func39, Try.ntmps39
      go_wp2_with fail
      refine (upToSize_any _ _ _ _).mono ?_; rintro e w1 ⟨rfl, hb1⟩
      have hz1 := hb1.size
      try simp at hz1
      have t1 : Two w1 (w.heap.size) (.int .i64 n) (.int .i64 s) 29 := Two.below (by repeat (first | assumption | exact Two.new' _ _ _ _ _ (by simp) | refine Two.alloc ?_ _ | refine Two.drewN ?_ _)) hb1 (by first | omega | (simp <;> omega))
      have hlt1 : (w.heap.size) < w1.heap.size := t1.lt
      have hnt1 : ¬ (w.heap.size) = w1.heap.size := Nat.ne_of_lt hlt1
      have t1c := t1.cell0
      have t1d := t1.cell1
      rw [EU]
      go_wp2_with fail
      refine (codeOf_any _ _ _ _ _).mono ?_; rintro e w2 ⟨rfl, hb2⟩
      rw [e3.out, Int.toNat_natCast]
      go_wp2_with fail
      refine (countOnes_any _ _).mono ?_; rintro e w3 ⟨rfl, rfl⟩
      rw [count_txt]
      go_wp2
      go_ret
      exact ⟨rfl, (by repeat (first | exact Below.refl _ _ | assumption | (refine Below.trans ?_ (Below.mono (by assumption) (by first | omega | (simp <;> omega)))) | (refine Below.alloc ?_ (by first | omega | (simp <;> omega)) _) | (refine below_drewN ?_ _) | (refine Below.drew ?_) | (refine Below.setCell ?_ (by first | omega | (simp <;> omega)) _)))⟩
  · have e := onesF_no (n := n) (s := s) (m := m) (by simp [ht])
    have ht' : tok n s = false := by simpa using ht
    have EU := upF_no (n := n) (s := s) (k := m) (by simp [ht])
    rw [e]
    go_enter Try.func39, Try.ntmps39
    go_wp2_with fail
    refine (upToSize_any _ _ _ _).mono ?_; rintro e w1 ⟨rfl, hb1⟩
    have hz1 := hb1.size
    try simp at hz1
    have t1 : Two w1 (w.heap.size) (.int .i64 n) (.int .i64 s) 29 := Two.below (by repeat (first | assumption | exact Two.new' _ _ _ _ _ (by simp) | refine Two.alloc ?_ _ | refine Two.drewN ?_ _)) hb1 (by first | omega | (simp <;> omega))
    have hlt1 : (w.heap.size) < w1.heap.size := t1.lt
    have hnt1 : ¬ (w.heap.size) = w1.heap.size := Nat.ne_of_lt hlt1
    have t1c := t1.cell0
    have t1d := t1.cell1
    rw [EU]
    go_wp2
    go_ret
    exact ⟨rfl, (by repeat (first | exact Below.refl _ _ | assumption | (refine Below.trans ?_ (Below.mono (by assumption) (by first | omega | (simp <;> omega)))) | (refine Below.alloc ?_ (by first | omega | (simp <;> omega)) _) | (refine below_drewN ?_ _) | (refine Below.drew ?_) | (refine Below.setCell ?_ (by first | omega | (simp <;> omega)) _)))⟩
end Go.Proofs.Ytdkcodinlegheaa
