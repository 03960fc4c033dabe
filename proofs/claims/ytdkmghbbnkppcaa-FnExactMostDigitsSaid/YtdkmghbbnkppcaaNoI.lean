/- Contract of NumberOf of the program: a sum over a closure of two lists. -/
import Derived.Test.YtdkmghbbnkppcaaOkI
import Derived.Test.YtdkmghbbnkppcaaOne
import Derived.BigQuiet
set_option linter.unusedVariables false
namespace Go.Proofs.Ytdkmghbbnkppcaa

set_option maxRecDepth 4000
open Go.ChangeShapes Go.WideShapes Go.ChangeAt Go.RowKit Go.Joins

theorem num1_any (X Y : Int) (m : Nat) (k : Nat) (w : World) (a b g off cap g' off' cap' : Nat) (hm : m ≤ 8) (hk : k < m) (h0 : 0 ≤ X * Y) (h1 : X * Y ≤ 60)
    (ha : One w a (.slice (some ⟨g, off, none⟩) m cap) 26) (hb : One w b (.slice (some ⟨g', off', none⟩) m cap') 26)
    (hc : w.cell? ⟨g, off + k, none⟩ = some (.int .i64 X)) (hd : w.cell? ⟨g', off' + k, none⟩ = some (.int .i64 Y)) :
    Calls Try.prog 68 #[.int .i64 k, .pointer (some ⟨a, 0, none⟩), .pointer (some ⟨b, 0, none⟩)] w fun e w' => e = .returned (.int .i64 (X * Y)) ∧ Below w.heap.size w w' := by
  have c0 := ha.cell
  have c1 := hb.cell
  have hk' : (k : Int) < m := by omega
  have hw : IntKind.i64.wrap (X * Y) = X * Y := IntWalk.i64_in _ (by omega)
  have hB := Below.refl w.heap.size w
  clear ha hb
  go_enter Try.func68, Try.ntmps68
  go_wp2_with fail
  go_quiet (fail)
  have hBq := below_drewN hB nq
  go_wp2
  go_ret
  exact ⟨rfl, hBq⟩

set_option maxHeartbeats 1000000 in
theorem sumNum_any (V : Nat → Nat) (X Y : Nat → Int) (m : Nat) (w : World) (a b g off cap g' off' cap' : Nat) (hm : m ≤ 8)
    (hV0 : V 0 = 0) (hV : ∀ k, k < m → ((V (k + 1) : Nat) : Int) = ((V k : Nat) : Int) + X k * Y k ∧ V (k + 1) ≤ 60 ∧ 0 ≤ X k * Y k)
    (ha : One w a (.slice (some ⟨g, off, none⟩) m cap) 26) (hb : One w b (.slice (some ⟨g', off', none⟩) m cap') 26)
    (hc : ∀ i, i < m → w.cell? ⟨g, off + i, none⟩ = some (.int .i64 (X i))) (hd : ∀ i, i < m → w.cell? ⟨g', off' + i, none⟩ = some (.int .i64 (Y i))) :
    Calls Try.prog 67 #[.int .i64 m, .func (.func 68) #[] #[.pointer (some ⟨a, 0, none⟩), .pointer (some ⟨b, 0, none⟩)]] w fun e w' => e = .returned (.int .i64 ((V m : Nat) : Int)) ∧ Below w.heap.size w w' := by
  have HC := Lib.hid (fun (k : Nat) (wr : World) (hk : k < m) (h0 : 0 ≤ X k * Y k) (h1 : X k * Y k ≤ 60) (hB : Below w.heap.size w wr) => num1_any (X k) (Y k) m k wr a b g off cap g' off' cap' hm hk h0 h1 (ha.below hB ha.lt) (hb.below hB hb.lt)
    ((hB.cell (p := ⟨g, off + k, none⟩) (World.block_lt_of_cell? w _ (hc k hk))).trans (hc k hk)) ((hB.cell (p := ⟨g', off' + k, none⟩) (World.block_lt_of_cell? w _ (hd k hk))).trans (hd k hk)))
  have HV := Lib.hid hV
  have H0 := Lib.hid hV0
  have hB0 := Below.refl w.heap.size w
  clear ha hb hc hd hV hV0
  go_enter Try.func67, Try.ntmps67
  go_wp2_with fail
  go_loopw [5, 8] (fun x y wr => ∃ k : Nat, x = .int .i64 ((V k : Nat) : Int) ∧ y = .int .i64 k ∧ k ≤ m ∧ V k ≤ 60 ∧ Below w.heap.size w wr) (fun _ y _ => m - (intOf y).toNat)
  case atStart => exact ⟨0, by rw [H0.out]; rfl, rfl, by omega, by rw [H0.out]; omega, hB0⟩
  case round =>
    obtain ⟨k, rfl, rfl, hk, hV60, hB⟩ := hrel
    by_cases hkm : k < m
    · have hkm' : (k : Int) < m := by omega
      obtain ⟨s1, s2, s3⟩ := HV.out k hkm
      have HS1 := Lib.hid s1
      have HS2 := Lib.hid s2
      have hcall := HC.out k wr hkm s3 (by omega) hB
      generalize X k * Y k = P at *
      generalize V k = V0 at *
      have s4 : (V0 : Int) + P ≤ 60 := by omega
      clear s1 s2
      go_wp2_with fail
      refine hcall.mono ?_; rintro e w2 ⟨rfl, hb2⟩
      have hB2 := hB.trans (hb2.mono hB.size)
      clear hb2 hcall hB
      go_wp2_with fail
      go_roundw
      case rel => exact ⟨k + 1, by rw [HS1.out], by go_num, by omega, HS2.out, hB2⟩
      case measure => simp only [intOf]; omega
    · have hkm' : decide ((k : Int) < m) = false := by simp; omega
      obtain rfl : k = m := by omega
      go_wp2
      go_ret
      exact ⟨rfl, hB⟩

/-- two blocks: a turn and a list -/
theorem two_boxesL (n s : Int) (v : Value) (w : World) : ∃ W, W = (w.alloc (.cells #[.int .i64 n, .int .i64 s] 24)).alloc (.cells #[v] 26) ∧
    Two W w.heap.size (.int .i64 n) (.int .i64 s) 24 ∧ One W (w.heap.size + 1) v 26 ∧ Below w.heap.size w W := by
  refine ⟨_, rfl, ?_, ?_, ?_⟩
  · exact (Two.new _ _ _ _).alloc _
  · have h := One.new (w.alloc (.cells #[.int .i64 n, .int .i64 s] 24)) v 26
    have e : (w.alloc (.cells #[.int .i64 n, .int .i64 s] 24)).heap.size = w.heap.size + 1 := by simp
    rwa [e] at h
  · exact (by repeat (first | exact Below.refl _ _ | assumption | (refine Below.trans ?_ (Below.mono (by assumption) (by first | omega | (simp <;> omega)))) | (refine Below.alloc ?_ (by first | omega | (simp <;> omega)) _) | (refine below_drewN ?_ _) | (refine Below.drew ?_) | (refine Below.setCell ?_ (by first | omega | (simp <;> omega)) _)))

set_option maxHeartbeats 2000000 in
theorem numberOf_any (n s : Int) (v : Value) (D : List Int) (w : World) (hv : Reads w v D) (hD : D.length ≤ 2000000) :
    Calls Try.prog 35 #[(.agg #[.int .i64 (n), .int .i64 (s)]), v] w fun e w' => e = .returned (.int .i64 (numF n s D)) ∧ Below w.heap.size w w' := by
  obtain ⟨LD, hLD⟩ : ∃ L, D.length = L := ⟨_, rfl⟩
  obtain ⟨a, cap, rfl, hcells⟩ := hv.cells hLD
  obtain ⟨W, hW, ta, tb, hB⟩ := two_boxesL n s (.slice a LD cap) w
  have hv0 := hv.below hB
  have hok := Lib.hid (digitsOk_any n s _ D W hv0 hD)
  have c0 := ta.cell0
  have c1 := ta.cell1
  have c2 := tb.cell
  have hz := hB.size
  cases ho : okF n s D with
  | false =>
    rw [numF_no ho]
    rw [ho] at hok
    clear hv0 hv
    go_enter Try.func35, Try.ntmps35
    go_wp2_with fail
    rw [← hW]
    clear hW
    refine hok.out.mono ?_; rintro e w1 ⟨rfl, hb1⟩
    have hB1 := hB.trans (hb1.mono hB.size)
    clear hok
    go_wp2
    go_ret
    exact ⟨rfl, hB1⟩
  | true =>
    rw [ho] at hok
    have ht := ok_tok ho
    obtain ⟨N, S, rfl, rfl, hN⟩ := tokN_of ht
    rw [numF_yes ho]
    obtain ⟨r1, r2, r3, r4⟩ := bas_read hN
    have hlD := ((okF_iff hN).1 ho).1
    have HST := Lib.hid (fun k (hk : k < bmN N S) => num_step hN ho hk)
    have hbs := fun w => basisOf_any (N : Int) (S : Int) w
    rw [basisF_yes hN] at hbs
    have HBs := Lib.hid hbs
    have HBG : Hid (∀ i, i < bmN N S → (castL (basN N S)).getD i 0 = ((basAt N S i : Nat) : Int)) := fun i hi => by rw [castL_getD, (r4 i hi).1]
    have HBL : Hid ((castL (basN N S)).length = bmN N S) := by show _ = _; rw [castL_len, r1]
    have hLm : LD = bmN N S := by omega
    obtain ⟨g, off, rfl, HD0⟩ := hcells (by omega)
    have lgD0 := World.block_lt_of_cell? w _ (HD0.out 0 (by omega))
    have HD : Hid (∀ i, i < bmN N S → W.cell? ⟨g, off + i, none⟩ = some (.int .i64 (D.getD i 0))) := fun i hi => (hB.cell (p := ⟨g, off + i, none⟩) lgD0).trans (HD0.out i (by omega))
    have lgD : g < W.heap.size := Nat.lt_of_lt_of_le lgD0 hB.size
    subst hLm
    clear HD0 lgD0 hLD
    generalize basN N S = BN at *
    generalize hm : bmN N S = m at *
    generalize hV : valD (basAt N S) (dAt D) = V at *
    have HV0 : Hid (V 0 = 0) := by show _ = _; rw [← hV]; rfl
    generalize basAt N S = B at *
    clear hv0 hv hcells r1 r4 hm hV hbs ht hN hlD
    go_enter Try.func35, Try.ntmps35
    go_wp2_with fail
    rw [← hW]
    clear hW
    refine hok.out.mono ?_; rintro e w1 ⟨rfl, hb1⟩
    have hB1 := hB.trans (hb1.mono hB.size)
    have ta1 := ta.below hb1 ta.lt
    have tb1 := tb.below hb1 tb.lt
    have c01 := ta1.cell0
    have c11 := ta1.cell1
    have c21 := tb1.cell
    have HD1 : Hid (∀ i, i < m → w1.cell? ⟨g, off + i, none⟩ = some (.int .i64 (D.getD i 0))) := fun i hi => (hb1.cell (p := ⟨g, off + i, none⟩) lgD).trans (HD.out i hi)
    have lg1 : g < w1.heap.size := Nat.lt_of_lt_of_le lgD hb1.size
    clear hok hb1 hB ta tb c0 c1 c2 HD lgD
    go_wp2_with fail
    refine (HBs.out _).mono ?_; rintro e w2 ⟨v2, rfl, ho2, hb2⟩
    obtain ⟨gB, oB, capB, rfl, hbg, lgB, hnc, hc⟩ := ho2.cells (N := m) HBL.out (by omega)
    have hB2 := hB1.trans (hb2.mono hB1.size)
    have tb2 := tb1.below hb2 tb1.lt
    have HD2 : Hid (∀ i, i < m → w2.cell? ⟨g, off + i, none⟩ = some (.int .i64 (D.getD i 0))) := fun i hi => (hb2.cell (p := ⟨g, off + i, none⟩) lg1).trans (HD1.out i hi)
    have HC : Hid (∀ i, i < m → w2.cell? ⟨gB, oB + i, none⟩ = some (.int .i64 ((B i : Nat) : Int))) := fun i hi => by rw [hc i hi, HBG.out i hi]
    have lg2 : g < w2.heap.size := Nat.lt_of_lt_of_le lg1 hb2.size
    clear ho2 hc hb2 ta1 tb1 c01 c11 c21 HD1 lg1 hB1
    obtain ⟨W2, hW2⟩ : ∃ W2, w2.alloc (.cells #[.slice (some ⟨gB, oB, none⟩) m capB] 26) = W2 := ⟨_, rfl⟩
    have o2 : One W2 w2.heap.size (.slice (some ⟨gB, oB, none⟩) m capB) 26 := by
      rw [← hW2]; exact One.new _ _ _
    have hb2 : Below w2.heap.size w2 W2 := by
      rw [← hW2]; exact (Below.refl _ _).alloc (Nat.le_refl _) _
    have tb3 := tb2.below hb2 tb2.lt
    have hB3 := hB2.trans (hb2.mono hB2.size)
    have c2 := o2.cell
    have HCall := Lib.hid (sumNum_any V (fun i => ((B i : Nat) : Int)) (fun i => D.getD i 0) m W2 w2.heap.size (w.heap.size + 1) gB oB capB g off cap r3 HV0.out HST.out o2 tb3 (fun i hi => (hb2.cell (p := ⟨gB, oB + i, none⟩) lgB).trans (HC.out i hi)) (fun i hi => (hb2.cell (p := ⟨g, off + i, none⟩) lg2).trans (HD2.out i hi)))
    clear hb2 tb3 o2
    go_wp2_with fail
    refine (HCall.out).mono ?_; rintro e w3 ⟨rfl, hb3⟩
    have hB4 := hB3.trans (hb3.mono hB3.size)
    go_wp2
    go_ret
    exact ⟨rfl, hB4⟩
end Go.Proofs.Ytdkmghbbnkppcaa
