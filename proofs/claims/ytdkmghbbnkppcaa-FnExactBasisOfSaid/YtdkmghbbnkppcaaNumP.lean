/- Contracts of chapter 9's functions of the model: NumberOf, NextDigits. -/
import Derived.Test.YtdkmghbbnkppcaaNumO
set_option linter.unusedVariables false
namespace Go.Proofs.Ytdkmghbbnkppcaa

set_option maxRecDepth 4000
open Go.ChangeShapes Go.WideShapes Go.ChangeAt Go.RowKit Go.Joins

theorem num_step {N S : Nat} {D : List Int} (h : tokN N S = true) (ho : okF N S D = true) {k : Nat} (hk : k < bmN N S) :
    ((valD (basAt N S) (dAt D) (k + 1) : Nat) : Int) = ((valD (basAt N S) (dAt D) k : Nat) : Int) + ((basAt N S k : Nat) : Int) * D.getD k 0 ∧ valD (basAt N S) (dAt D) (k + 1) ≤ 60 ∧ 0 ≤ ((basAt N S k : Nat) : Int) * D.getD k 0 := by
  obtain ⟨_, hp, hd⟩ := (okF_iff h).1 ho
  have hs := bas_scale h
  obtain ⟨_, b2, _⟩ := tokN_bd h
  have e : ((dAt D k : Nat) : Int) = D.getD k 0 := by have := hp k hk; unfold dAt; omega
  have hl := valD_lt hs (k + 1) (by omega) ⟨fun i hi => hd.1 i (by omega), fun i a b => hd.2 i a (by omega)⟩
  have hb : basAt N S (k + 1) ≤ N := by
    by_cases c : k + 1 = bmN N S
    · rw [c, bas_end h]; exact Nat.le_refl _
    · exact Nat.le_of_lt (bas_lt h (by omega))
  refine ⟨?_, by omega, ?_⟩
  · show ((valD (basAt N S) (dAt D) k + dAt D k * basAt N S k : Nat) : Int) = _
    rw [Int.natCast_add, Int.natCast_mul, e, Int.mul_comm]
  · exact Int.mul_nonneg (by omega) (hp k hk)

set_option maxHeartbeats 2000000 in
theorem specNumberOf_any (n s : Int) (v : Value) (D : List Int) (w : World) (hv : Reads w v D) (hD : D.length ≤ 2000000) :
    Calls Try.prog 40 #[(.agg #[.int .i64 (n), .int .i64 (s)]), v] w fun e w' => e = .returned (.int .i64 (numF n s D)) ∧ Below w.heap.size w w' := by
  have hv0 : Reads (w.alloc (.cells #[.int .i64 n, .int .i64 s] 24)) v D := hv.below ((Below.refl _ _).alloc (Nat.le_refl _) _)
  have hok := fun w hv => specDigitsOk_any n s v D w hv hD
  cases ho : okF n s D with
  | false =>
    rw [numF_no ho]
    rw [ho] at hok
    
    have h1 := Lib.hid (hok _ hv0)
    clear hok hv0 hv
    go_enter Try.func40, Try.ntmps40
    go_wp2_with fail
    refine (h1.out).mono ?_; rintro e w1 ⟨rfl, hb1⟩
    have hz1 := hb1.size
    try simp at hz1
    have t1 : Two w1 (w.heap.size) (.int .i64 n) (.int .i64 s) 24 := Two.below (by repeat (first | assumption | exact Two.new' _ _ _ _ _ (by simp) | refine Two.alloc ?_ _ | refine Two.drewN ?_ _)) hb1 (by first | omega | (simp <;> omega))
    have hlt1 : (w.heap.size) < w1.heap.size := t1.lt
    have hnt1 : ¬ (w.heap.size) = w1.heap.size := Nat.ne_of_lt hlt1
    have t1c := t1.cell0
    have t1d := t1.cell1
    go_wp2
    go_ret
    exact ⟨rfl, (by repeat (first | exact Below.refl _ _ | assumption | (refine Below.trans ?_ (Below.mono (by assumption) (by first | omega | (simp <;> omega)))) | (refine Below.alloc ?_ (by first | omega | (simp <;> omega)) _) | (refine below_drewN ?_ _) | (refine Below.drew ?_) | (refine Below.setCell ?_ (by first | omega | (simp <;> omega)) _)))⟩
  | true =>
    rw [ho] at hok
    have ht := ok_tok ho
    obtain ⟨N, S, rfl, rfl, hN⟩ := tokN_of ht
    rw [numF_yes ho]
    
    obtain ⟨r1, r2, r3, r4⟩ := bas_read hN
    have hlD := ((okF_iff hN).1 ho).1
    have HST := Lib.hid (fun k (hk : k < bmN N S) => num_step hN ho hk)
    have hbs := fun w => specBasisOf_any (N : Int) (S : Int) w
    rw [basisF_yes hN] at hbs
    have HBs := Lib.hid hbs
    have HBG : Hid (∀ i, i < bmN N S → (castL (basN N S)).getD i 0 = ((basAt N S i : Nat) : Int)) := fun i hi => by rw [castL_getD, (r4 i hi).1]
    have HBL : Hid ((castL (basN N S)).length = bmN N S) := by show _ = _; rw [castL_len, r1]
    have h1 := Lib.hid (hok _ hv0)
    obtain ⟨a, cap, rfl, hcells⟩ := hv.cells hlD
    obtain ⟨g, off, rfl, HD⟩ := hcells (by omega)
    have lgD := World.block_lt_of_cell? w _ (HD.out 0 (by omega))
    generalize basN N S = BN at *
    generalize hm : bmN N S = m at *
    generalize hV : valD (basAt N S) (dAt D) = V at *
    have HV0 : Hid (V 0 = 0) := by show _ = _; rw [← hV]; rfl
    generalize basAt N S = B at *
    clear hok hv0 hv hcells r1 r4 hm hV hbs ht hN hlD
    go_enter Try.func40, Try.ntmps40
    go_wp2_with fail
    refine (h1.out).mono ?_; rintro e w1 ⟨rfl, hb1⟩
    have hz1 := hb1.size
    try simp at hz1
    have t1 : Two w1 (w.heap.size) (.int .i64 N) (.int .i64 S) 24 := Two.below (by repeat (first | assumption | exact Two.new' _ _ _ _ _ (by simp) | refine Two.alloc ?_ _ | refine Two.drewN ?_ _)) hb1 (by first | omega | (simp <;> omega))
    have hlt1 : (w.heap.size) < w1.heap.size := t1.lt
    have hnt1 : ¬ (w.heap.size) = w1.heap.size := Nat.ne_of_lt hlt1
    have t1c := t1.cell0
    have t1d := t1.cell1
    go_wp2_with fail
    refine (HBs.out _).mono ?_; rintro e w2 ⟨v3, rfl, ho3, hb2⟩
    have hz2 := hb2.size
    try simp at hz2
    have t2 : Two w2 (w.heap.size) (.int .i64 N) (.int .i64 S) 24 := Two.below (by repeat (first | assumption | exact Two.new' _ _ _ _ _ (by simp) | refine Two.alloc ?_ _ | refine Two.drewN ?_ _)) hb2 (by first | omega | (simp <;> omega))
    have hlt2 : (w.heap.size) < w2.heap.size := t2.lt
    have hnt2 : ¬ (w.heap.size) = w2.heap.size := Nat.ne_of_lt hlt2
    have t2c := t2.cell0
    have t2d := t2.cell1
    obtain ⟨gB, capB, cur, rfl, hbg, hr, _, hnc, _, hc⟩ := ho3.rowI (N := m) HBL.out (by omega)
    have HC : Hid (∀ i, i < m → w2.cell? ⟨gB, i, none⟩ = some (.int .i64 ((B i : Nat) : Int))) := fun i hi => by rw [hr.cell, hc i hi, HBG.out i hi]
    have hB2 : Below w.heap.size w w2 := (by repeat (first | exact Below.refl _ _ | assumption | (refine Below.trans ?_ (Below.mono (by assumption) (by first | omega | (simp <;> omega)))) | (refine Below.alloc ?_ (by first | omega | (simp <;> omega)) _) | (refine below_drewN ?_ _) | (refine Below.drew ?_) | (refine Below.setCell ?_ (by first | omega | (simp <;> omega)) _)))
    have HDD : Hid (∀ i, i < m → w2.cell? ⟨g, off + i, none⟩ = some (.int .i64 (D.getD i 0))) := fun i hi => (Below.cell (p := ⟨g, off + i, none⟩) hB2 lgD).trans (HD.out i hi)
    clear ho3 hr hc hb1 hb2 t1 t1c t1d t2 t2c t2d HD
    go_wp2_with fail
    go_loopw [6, 7] (fun x y wr => ∃ k : Nat, x = .int .i64 ((V k : Nat) : Int) ∧ y = .int .i64 k ∧ k ≤ m ∧ V k ≤ 60 ∧ ∃ q, wr = w2.drewN q) (fun _ y _ => m - (intOf y).toNat)
    case atStart => exact ⟨0, by rw [HV0.out]; rfl, rfl, by omega, by rw [HV0.out]; omega, 0, rfl⟩
    case round =>
      obtain ⟨k, rfl, rfl, hk, hV60, q, rfl⟩ := hrel
      by_cases hkm : k < m
      · have hkm' : (k : Int) < m := by omega
        have cb := HC.out k hkm
        have cd := HDD.out k hkm
        obtain ⟨s1, s2, s3⟩ := HST.out k hkm
        have HS1 := Lib.hid s1
        obtain ⟨V0, hV0⟩ : ∃ V0, V k = V0 := ⟨_, rfl⟩
        rw [hV0] at hV60 s1 HS1
        rw [hV0]
        have s4 : V (k + 1) ≤ 60 := s2
        generalize ((B k : Nat) : Int) = X at *
        generalize D.getD k 0 = Y at *
        have hw1 : IntKind.i64.wrap (X * Y) = X * Y := IntWalk.i64_in _ (by omega)
        have hw2 : IntKind.i64.wrap ((V0 : Int) + X * Y) = (V0 : Int) + X * Y := IntWalk.i64_in _ (by omega)
        have HS2 := Lib.hid s2
        clear s1 s2 s3 s4 hV0
        go_wp2_with fail
        go_quiet (fail)
        go_wp2_with fail
        go_roundw
        case rel => exact ⟨k + 1, by rw [HS1.out], by go_num, by omega, HS2.out, q + nq, by simp⟩
        case measure => simp only [intOf]; omega
      · have hkm' : decide ((k : Int) < m) = false := by simp; omega
        obtain rfl : k = m := by omega
        have hBq := below_drewN hB2 q
        go_wp2
        go_ret
        exact ⟨rfl, hBq⟩

/-- the next digits come back, and whether there are some -/
def NextPost (n s : Int) (D : List Int) (w : World) (e : Ending) (w' : World) : Prop := ∃ v, e = .returned (.tuple #[v, .bool (nextP n s D)]) ∧ OwnL w' w.heap.size v (nextF n s D) ∧ Below w.heap.size w w'

set_option maxHeartbeats 2000000 in
theorem specNextDigits_any (n s : Int) (v : Value) (D : List Int) (w : World) (hv : Reads w v D) (hD : D.length ≤ 2000000) :
    Calls Try.prog 44 #[(.agg #[.int .i64 (n), .int .i64 (s)]), v] w (NextPost n s D w) := by
  have hv0 : Reads (w.alloc (.cells #[.int .i64 n, .int .i64 s] 24)) v D := hv.below ((Below.refl _ _).alloc (Nat.le_refl _) _)
  have h1 := Lib.hid (specNumberOf_any n s v D _ hv0 hD)
  have hc := num_cases n s D
  
  unfold NextPost
  clear hv0 hv
  rcases hc with ⟨ho, hn⟩ | ⟨ho, h0, hlt, h60⟩
  · have hp : nextP n s D = false := by unfold nextP; rw [hn]; rfl
    have hf : nextF n s D = [] := by unfold nextF; rw [hp]; rfl
    rw [hp, hf]
    rw [hn] at h1
    go_enter Try.func44, Try.ntmps44
    go_wp2_with fail
    refine (h1.out).mono ?_; rintro e w1 ⟨rfl, hb1⟩
    have hz1 := hb1.size
    try simp at hz1
    have t1 : Two w1 (w.heap.size) (.int .i64 n) (.int .i64 s) 24 := Two.below (by repeat (first | assumption | exact Two.new' _ _ _ _ _ (by simp) | refine Two.alloc ?_ _ | refine Two.drewN ?_ _)) hb1 (by first | omega | (simp <;> omega))
    have hlt1 : (w.heap.size) < w1.heap.size := t1.lt
    have hnt1 : ¬ (w.heap.size) = w1.heap.size := Nat.ne_of_lt hlt1
    have t1c := t1.cell0
    have t1d := t1.cell1
    have hn1 := made_nil w1
    go_wp2
    refine bodyPost_ret (v := .tuple #[_, .bool false]) (by simp [results, Try.results44, go_sem]; rfl) rfl ?_
    exact ⟨_, rfl, hn1.mono (b' := w.heap.size) (by omega), (by repeat (first | exact Below.refl _ _ | assumption | (refine Below.trans ?_ (Below.mono (by assumption) (by first | omega | (simp <;> omega)))) | (refine Below.alloc ?_ (by first | omega | (simp <;> omega)) _) | (refine below_drewN ?_ _) | (refine Below.drew ?_) | (refine Below.setCell ?_ (by first | omega | (simp <;> omega)) _)))⟩
  · have hd := Lib.hid (fun w => specDigitsOf_any n s (numF n s D + 1) w)
    unfold nextP nextF nextP
    generalize numF n s D = K at *
    have hwk : IntKind.i64.wrap (K + 1) = K + 1 := IntWalk.i64_in _ (by omega)
    by_cases c : n ≤ K + 1
    · rw [decide_eq_false (by omega : ¬ (0 ≤ K ∧ K + 1 < n))]
      have c0 : ¬ K < 0 := by omega
      go_enter Try.func44, Try.ntmps44
      go_wp2_with fail
      refine (h1.out).mono ?_; rintro e w1 ⟨rfl, hb1⟩
      have hz1 := hb1.size
      try simp at hz1
      have t1 : Two w1 (w.heap.size) (.int .i64 n) (.int .i64 s) 24 := Two.below (by repeat (first | assumption | exact Two.new' _ _ _ _ _ (by simp) | refine Two.alloc ?_ _ | refine Two.drewN ?_ _)) hb1 (by first | omega | (simp <;> omega))
      have hlt1 : (w.heap.size) < w1.heap.size := t1.lt
      have hnt1 : ¬ (w.heap.size) = w1.heap.size := Nat.ne_of_lt hlt1
      have t1c := t1.cell0
      have t1d := t1.cell1
      have hn1 := made_nil w1
      go_wp2
      refine bodyPost_ret (v := .tuple #[_, .bool false]) (by simp [results, Try.results44, go_sem]; rfl) rfl ?_
      exact ⟨_, rfl, hn1.mono (b' := w.heap.size) (by omega), (by repeat (first | exact Below.refl _ _ | assumption | (refine Below.trans ?_ (Below.mono (by assumption) (by first | omega | (simp <;> omega)))) | (refine Below.alloc ?_ (by first | omega | (simp <;> omega)) _) | (refine below_drewN ?_ _) | (refine Below.drew ?_) | (refine Below.setCell ?_ (by first | omega | (simp <;> omega)) _)))⟩
    · rw [decide_eq_true (⟨h0, by omega⟩ : 0 ≤ K ∧ K + 1 < n)]
      have c0 : ¬ K < 0 := by omega
      go_enter Try.func44, Try.ntmps44
      go_wp2_with fail
      refine (h1.out).mono ?_; rintro e w1 ⟨rfl, hb1⟩
      have hz1 := hb1.size
      try simp at hz1
      have t1 : Two w1 (w.heap.size) (.int .i64 n) (.int .i64 s) 24 := Two.below (by repeat (first | assumption | exact Two.new' _ _ _ _ _ (by simp) | refine Two.alloc ?_ _ | refine Two.drewN ?_ _)) hb1 (by first | omega | (simp <;> omega))
      have hlt1 : (w.heap.size) < w1.heap.size := t1.lt
      have hnt1 : ¬ (w.heap.size) = w1.heap.size := Nat.ne_of_lt hlt1
      have t1c := t1.cell0
      have t1d := t1.cell1
      go_wp2_with fail
      refine (hd.out _).mono ?_; rintro e w2 ⟨v2, rfl, ho2, hb2⟩
      have hz2 := hb2.size
      try simp at hz2
      have t2 : Two w2 (w.heap.size) (.int .i64 n) (.int .i64 s) 24 := Two.below (by repeat (first | assumption | exact Two.new' _ _ _ _ _ (by simp) | refine Two.alloc ?_ _ | refine Two.drewN ?_ _)) hb2 (by first | omega | (simp <;> omega))
      have hlt2 : (w.heap.size) < w2.heap.size := t2.lt
      have hnt2 : ¬ (w.heap.size) = w2.heap.size := Nat.ne_of_lt hlt2
      have t2c := t2.cell0
      have t2d := t2.cell1
      have ho2' := ho2.mono (b' := w.heap.size) (by omega)
      clear ho2
      go_wp2
      refine bodyPost_ret (v := .tuple #[v2, .bool true]) (by simp [results, Try.results44, go_sem]) rfl ?_
      exact ⟨v2, rfl, ho2', (by repeat (first | exact Below.refl _ _ | assumption | (refine Below.trans ?_ (Below.mono (by assumption) (by first | omega | (simp <;> omega)))) | (refine Below.alloc ?_ (by first | omega | (simp <;> omega)) _) | (refine below_drewN ?_ _) | (refine Below.drew ?_) | (refine Below.setCell ?_ (by first | omega | (simp <;> omega)) _)))⟩
end Go.Proofs.Ytdkmghbbnkppcaa
