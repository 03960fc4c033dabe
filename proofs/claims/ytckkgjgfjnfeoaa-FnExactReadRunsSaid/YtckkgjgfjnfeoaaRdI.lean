/- The program's reader of runs, sign by sign. -/
import Derived.Test.YtckkgjgfjnfeoaaRdM
import Derived.Test.YtckkgjgfjnfeoaaRep
import Derived.Test.YtckkgjgfjnfeoaaQuad
import Derived.Test.YtckkgjgfjnfeoaaMovS
import Derived.BigQuiet
import Derived.Deep.RegionHeld3
set_option linter.unusedVariables false
namespace Go.Proofs.Ytckkgjgfjnfeoaa
set_option maxRecDepth 4000

set_option maxRecDepth 4000
open Go.ChangeShapes Go.WideShapes Go.ChangeAt Go.RowKit Go.Joins

theorem conv_letter (c : UInt8) (h : c = 0 ∨ c = 76 ∨ c = 82) (w : World) :
    (convert 5 9 (.int .u8 (c.toNat : Int))).run Try.prog w = .ok (.string (txtL [c])) w := by
  rcases h with rfl | rfl | rfl <;> kernel_rfl

/-- a reader in its box -/
def RdAt (w : World) (b : Nat) (r : RS) : Prop := Quad w b (.string (txtM r.before)) (.int .u8 (r.lt.toNat : Int)) (.int .i64 (r.many : Int)) (.bool r.beh) 36

def RS.ok (r : RS) : Prop := r.before.length + r.many ≤ 58 ∧ (r.lt = 0 ∨ r.lt = 76 ∨ r.lt = 82) ∧ (r.lt = 0 → r.many = 0)

theorem word_txt (r : RS) (h : r.ok) : txtM r.before ++ txtL (List.replicate r.many r.lt) = txtM r.word := by
  unfold RS.word
  rw [← txtM_append]
  congr 1
  unfold txtM
  rw [List.map_replicate]
  rcases h.2.1 with e | e | e
  · rw [h.2.2 e]; rfl
  · rw [e]; rfl
  · rw [e]; rfl

set_option maxHeartbeats 2000000 in
theorem soFar_any (b : Nat) (r : RS) (w : World) (hr : r.ok) (hq : RdAt w b r) :
    Calls Try.prog 15 #[.pointer (some ⟨b, 0, none⟩)] w fun e w' => e = .returned (.string (txtM r.word)) ∧ Below w.heap.size w w' := by
  have hw := Lib.hid (word_txt r hr)
  have hcv := conv_letter r.lt hr.2.1
  have hz1 : (txtM r.before).size + (txtL (List.replicate r.many r.lt)).size ≤ 58 := by rw [txtM_size, txtL_size, List.length_replicate]; exact hr.1
  have hrp := Lib.hid (fun w => repeat_any r.lt r.many w (by have := hr.1; omega))
  unfold RdAt at hq
  generalize txtM r.word = R at *
  generalize txtM r.before = B at *
  generalize txtL (List.replicate r.many r.lt) = E at *
  generalize txtL [r.lt] = C at *
  generalize (r.lt.toNat : Int) = lt at *
  generalize (r.many : Int) = m at *
  generalize r.beh = bh at *
  have c0 := hq.cell0
  have c1 := hq.cell1
  have c2 := hq.cell2
  have hlt := hq.lt
  have hz2 : ¬ 9223372036854775807 < B.size + E.size := by omega
  clear hr
  go_enter Try.func15, Try.ntmps15
  go_wp2_with fail
  go_region_held3 (fun w' => w'.cell? ⟨b, 0, none⟩ = some (.string B) ∧ w'.cell? ⟨b, 1, none⟩ = some (.int .u8 lt) ∧ w'.cell? ⟨b, 2, none⟩ = some (.int .i64 m))
    (first | go_keep | exact ⟨c0', c1', c2'⟩)
    (first | (go_at_call 23; refine (hrp.out _).mono ?_; rintro e w' ⟨rfl, hb'⟩; have q' := Quad.below (w := w.drew) hq hb' hlt; have c0' := q'.cell0; have c1' := q'.cell1; have c2' := q'.cell2))
  go_wp2
  go_ret
  exact ⟨by rw [← hw.out]; rfl, (below_drewN (Below.refl _ w) 1).trans hb'⟩

def TakePost (b : Nat) (o : Option RS) (w : World) (e : Ending) (w' : World) : Prop := Below b w w' ∧ e = .returned (.bool o.isSome) ∧ ∀ q, o = some q → RdAt w' b q

set_option maxHeartbeats 2000000 in
theorem takeDigit_any (b : Nat) (r : RS) (c : UInt8) (w : World) (hr : r.ok) (hq : RdAt w b r) :
    Calls Try.prog 21 #[.pointer (some ⟨b, 0, none⟩), .int .u8 (c.toNat : Int)] w (TakePost b (r.digit c) w) := by
  have hB0 := Below.refl b w
  by_cases hd : isDig c = true
  · have hbd := isDig_bd hd
    have hm := hr.1
    obtain ⟨M, hM⟩ : ∃ M : Nat, 10 * r.many + (c.toNat - 48) = M := ⟨_, rfl⟩
    have hM1 : IntKind.i64.wrap (10 * (r.many : Int)) = 10 * (r.many : Int) := IntWalk.i64_in _ (by omega)
    have hM2 : IntKind.u8.wrap ((c.toNat : Int) - 48) = (c.toNat : Int) - 48 := IntWalk.u8_in _ (by omega)
    have hM3 : IntKind.i64.wrap (10 * (r.many : Int) + ((c.toNat : Int) - 48)) = (M : Int) := by rw [show 10 * (r.many : Int) + ((c.toNat : Int) - 48) = (M : Int) by omega]; exact IntWalk.i64_in _ (by omega)
    have hM4 : IntKind.i64.wrap ((c.toNat : Int) - 48) = (c.toNat : Int) - 48 := IntWalk.i64_in _ (by omega)
    have d0 : ¬ (c.toNat : Int) < 48 := by omega
    have d1 : ¬ (57 : Int) < (c.toNat : Int) := by omega
    have hdig : r.digit c = if r.before.length + M ≤ 58 then some ⟨r.before, r.lt, M, false⟩ else none := by unfold RS.digit; rw [if_pos hd, hM]
    have hz := txtM_size r.before
    have hM60 : M ≤ 600 := by omega
    have hsm : IntKind.i64.wrap (((txtM r.before).size : Int) + (M : Int)) = ((txtM r.before).size : Int) + (M : Int) := IntWalk.i64_in _ (by omega)
    rw [hdig]
    have hq1 : Quad _ b (.string (txtM r.before)) (.int .u8 (r.lt.toNat : Int)) (.int .i64 (r.many : Int)) (.bool r.beh) 36 := hq
    have q2 := (hq1.set2 (.int .i64 (M : Int))).set3 (.bool false)
    have hB2 := (hB0.setCell (p := ⟨b, 2, none⟩) (Nat.le_refl _) (.int .i64 (M : Int))).setCell (p := ⟨b, 3, none⟩) (Nat.le_refl _) (.bool false)
    have hP : Hid (∀ p, RdAt p b ⟨r.before, r.lt, M, false⟩ ↔ Quad p b (.string (txtM r.before)) (.int .u8 (r.lt.toNat : Int)) (.int .i64 (M : Int)) (.bool false) 36) := fun p => Iff.rfl
    have c2 := hq1.cell2
    have c3 := hq1.cell3
    have f2 := hq1.free 2
    have f3 := hq1.free 3
    have e0 := q2.cell0
    have e2 := q2.cell2
    have hlt := hq1.lt
    have HQ := Lib.hid q2
    have HB := Lib.hid hB2
    by_cases h58 : r.before.length + M ≤ 58
    · rw [if_pos h58]
      have h58' : decide (((txtM r.before).size : Int) + (M : Int) ≤ 58) = true := decide_eq_true (by omega)
      clear hdig hq hq1 hr hm hbd hM hd q2 hB2 hz
      generalize txtM r.before = B at *
      generalize (r.many : Int) = m at *
      generalize (c.toNat : Int) = C at *
      go_enter Try.func21, Try.ntmps21
      go_wp2_with fail
      go_region
      go_wp2
      go_ret
      refine ⟨Below.drew HB.out, rfl, fun q e => ?_⟩
      obtain rfl := Option.some.inj e
      exact (hP.out _).2 HQ.out
    · rw [if_neg h58]
      have h58' : decide (((txtM r.before).size : Int) + (M : Int) ≤ 58) = false := decide_eq_false (by omega)
      clear hdig hq hq1 hr hm hbd hM hd q2 hB2 hz
      generalize txtM r.before = B at *
      generalize (r.many : Int) = m at *
      generalize (c.toNat : Int) = C at *
      go_enter Try.func21, Try.ntmps21
      go_wp2_with fail
      go_region
      go_wp2
      go_ret
      exact ⟨Below.drew HB.out, rfl, fun q e => by cases e⟩
  · have hdig : r.digit c = none := by unfold RS.digit; rw [if_neg hd]
    rw [hdig]
    have hnd : (c.toNat : Int) < 48 ∨ (¬ (c.toNat : Int) < 48 ∧ (57 : Int) < (c.toNat : Int)) := by
      unfold isDig at hd
      simp at hd
      omega
    rcases hnd with d0 | ⟨d0, d1⟩
    · go_enter Try.func21, Try.ntmps21
      go_wp2
      go_ret
      exact ⟨hB0, rfl, fun q e => by cases e⟩
    · go_enter Try.func21, Try.ntmps21
      go_wp2
      go_ret
      exact ⟨hB0, rfl, fun q e => by cases e⟩

set_option maxHeartbeats 2000000 in
theorem beginRun_any (b : Nat) (r : RS) (c : UInt8) (w : World) (hr : r.ok) (hq : RdAt w b r) :
    Calls Try.prog 22 #[.pointer (some ⟨b, 0, none⟩), .int .u8 (c.toNat : Int)] w (TakePost b (r.begin c) w) := by
  have hB0 := Below.refl b w
  have hq1 : Quad _ b (.string (txtM r.before)) (.int .u8 (r.lt.toNat : Int)) (.int .i64 (r.many : Int)) (.bool r.beh) 36 := hq
  have c1 := hq1.cell1
  by_cases e : c = r.lt
  · have hbeg : r.begin c = none := by unfold RS.begin; rw [if_pos e]
    rw [hbeg]
    have h1 : (c.toNat : Int) = (r.lt.toNat : Int) := by rw [e]
    clear hbeg hq hq1 hr
    go_enter Try.func22, Try.ntmps22
    go_wp2
    go_ret
    exact ⟨hB0, rfl, fun q e => by cases e⟩
  · have hbeg : r.begin c = some ⟨r.word, c, 0, true⟩ := by unfold RS.begin; rw [if_neg e]
    rw [hbeg]
    have h1 : ¬ (c.toNat : Int) = (r.lt.toNat : Int) := fun h => e (UInt8.toNat_inj.1 (by omega))
    have hsf := Lib.hid (fun w hq => soFar_any b r w hr hq)
    have hP : Hid (∀ p, RdAt p b ⟨r.word, c, 0, true⟩ ↔ Quad p b (.string (txtM r.word)) (.int .u8 (c.toNat : Int)) (.int .i64 (0 : Int)) (.bool true) 36) := fun p => Iff.rfl
    have hlt := hq1.lt
    have HQ := Lib.hid hq
    clear hbeg hq hr hq1
    go_enter Try.func22, Try.ntmps22
    go_wp2_with fail
    refine (hsf.out _ HQ.out).mono ?_; rintro e w2 ⟨rfl, hb2⟩
    have q2 : Quad _ b (.string (txtM r.before)) (.int .u8 (r.lt.toNat : Int)) (.int .i64 (r.many : Int)) (.bool r.beh) 36 := Quad.below HQ.out hb2 hlt
    have q3 := (((q2.set0 (.string (txtM r.word))).set1 (.int .u8 (c.toNat : Int))).set2 (.int .i64 0)).set3 (.bool true)
    have hB2 := hB0.trans (hb2.mono (by omega))
    have hB3 := (((hB2.setCell (p := ⟨b, 0, none⟩) (Nat.le_refl _) (.string (txtM r.word))).setCell (p := ⟨b, 1, none⟩) (Nat.le_refl _) (.int .u8 (c.toNat : Int))).setCell (p := ⟨b, 2, none⟩) (Nat.le_refl _) (.int .i64 0)).setCell (p := ⟨b, 3, none⟩) (Nat.le_refl _) (.bool true)
    have d0 := q2.cell0
    have d1 := q2.cell1
    have d2 := q2.cell2
    have d3 := q2.cell3
    have f0 := q2.free 0
    have f1 := q2.free 1
    have f2 := q2.free 2
    have f3 := q2.free 3
    have HQ3 := Lib.hid q3
    have HB3 := Lib.hid hB3
    clear q2 q3 hB2 hB3 hb2 hsf c1
    go_wp2
    go_ret
    refine ⟨HB3.out, rfl, fun q e => ?_⟩
    obtain rfl := Option.some.inj e
    exact (hP.out _).2 HQ3.out

set_option maxHeartbeats 2000000 in
theorem take_any (b : Nat) (r : RS) (c : UInt8) (w : World) (hr : r.ok) (hq : RdAt w b r) :
    Calls Try.prog 14 #[.pointer (some ⟨b, 0, none⟩), .int .u8 (c.toNat : Int)] w (TakePost b (r.take c) w) := by
  have hB0 := Below.refl b w
  have hq1 : Quad _ b (.string (txtM r.before)) (.int .u8 (r.lt.toNat : Int)) (.int .i64 (r.many : Int)) (.bool r.beh) 36 := hq
  have c2 := hq1.cell2
  have c3 := hq1.cell3
  have hdg := Lib.hid (takeDigit_any b r c w hr hq)
  have hbg := Lib.hid (beginRun_any b r c w hr hq)
  clear hq1
  obtain ⟨C, hC⟩ : ∃ C : Int, (c.toNat : Int) = C := ⟨_, rfl⟩
  rw [hC] at hdg hbg ⊢
  have HC := Lib.hid hC
  clear hC
  cases hbe : r.beh with
  | true =>
    rw [hbe] at c3
    by_cases h48 : c = 48
    · have ht : r.take c = none := by unfold RS.take; rw [if_pos hbe, if_pos h48]
      rw [ht]
      obtain rfl : C = 48 := by rw [← HC.out, h48]; rfl
      clear ht hq hr
      go_enter Try.func14, Try.ntmps14
      go_wp2
      go_ret
      exact ⟨hB0, rfl, fun q e => by cases e⟩
    · have ht : r.take c = r.digit c := by unfold RS.take; rw [if_pos hbe, if_neg h48]
      rw [ht]
      have h1 : (C != 48) = true := by
        rw [bne_iff_ne, ← HC.out]
        exact fun h => h48 (u8_is (n := 48) h (by omega))
      clear ht hq hr
      go_enter Try.func14, Try.ntmps14
      go_wp2_with fail
      refine hdg.out.mono ?_; rintro e w2 ⟨hb2, rfl, hq2⟩
      go_wp2
      go_ret
      exact ⟨hb2, rfl, hq2⟩
  | false =>
    rw [hbe] at c3
    by_cases hc : c = 76 ∨ c = 82
    · have ht : r.take c = r.begin c := by unfold RS.take; rw [if_neg (by rw [hbe]; simp), if_pos hc]
      rw [ht]
      clear ht hq hr
      by_cases h76 : c = 76
      · obtain rfl : C = 76 := by rw [← HC.out, h76]; rfl
        clear h76 hc
        go_enter Try.func14, Try.ntmps14
        go_wp2_with fail
        refine hbg.out.mono ?_; rintro e w2 ⟨hb2, rfl, hq2⟩
        go_wp2
        go_ret
        exact ⟨hb2, rfl, hq2⟩
      · have h82 : c = 82 := hc.resolve_left h76
        obtain rfl : C = 82 := by rw [← HC.out, h82]; rfl
        clear h82 h76 hc
        go_enter Try.func14, Try.ntmps14
        go_wp2_with fail
        refine hbg.out.mono ?_; rintro e w2 ⟨hb2, rfl, hq2⟩
        go_wp2
        go_ret
        exact ⟨hb2, rfl, hq2⟩
    · have h1 : ¬ C = 76 := fun h => hc (.inl (u8_is (n := 76) (by rw [HC.out]; exact h) (by omega)))
      have h2 : ¬ C = 82 := fun h => hc (.inr (u8_is (n := 82) (by rw [HC.out]; exact h) (by omega)))
      have h3 : (C == 76) = false := by simpa using h1
      have h4 : (C == 82) = false := by simpa using h2
      by_cases h0 : 0 < r.many
      · have ht : r.take c = r.digit c := by unfold RS.take; rw [if_neg (by rw [hbe]; simp), if_neg hc, if_pos h0]
        rw [ht]
        have h0' : (0 : Int) < (r.many : Int) := by omega
        clear ht hq hr hc
        go_enter Try.func14, Try.ntmps14
        go_wp2_with fail
        refine hdg.out.mono ?_; rintro e w2 ⟨hb2, rfl, hq2⟩
        go_wp2
        go_ret
        exact ⟨hb2, rfl, hq2⟩
      · have ht : r.take c = none := by unfold RS.take; rw [if_neg (by rw [hbe]; simp), if_neg hc, if_neg h0]
        rw [ht]
        have h0' : ¬ (0 : Int) < (r.many : Int) := by omega
        clear ht hq hr hc
        go_enter Try.func14, Try.ntmps14
        go_wp2
        go_ret
        exact ⟨hB0, rfl, fun q e => by cases e⟩

theorem toList_emptyR {r : ByteArray} (h : ¬ r.size = 0) : r.toList.isEmpty = false := by
  cases e : r.toList with
  | nil =>
    have : r.toList.length = r.size := by rw [ByteArray.toList_eq, Array.length_toList]; rfl
    rw [e] at this; simp at this; omega
  | cons _ _ => rfl

theorem empty_of_sizeR {r : ByteArray} (h : r.size = 0) : r = ⟨#[]⟩ := by
  apply ByteArray.ext
  have : r.data.size = 0 := h
  exact Array.eq_empty_of_size_eq_zero this

set_option maxHeartbeats 4000000 in
theorem readRuns_any (l : List UInt8) (w : World) (hu : l.length ≤ 2000000) :
    Calls Try.prog 9 #[.string (txtL l)] w fun e w' => e = .returned (.tuple #[.string (rrF (txtL l)).1, .bool (rrF (txtL l)).2]) ∧ Below w.heap.size w w' := by
  by_cases h46 : l = [46]
  · subst h46
    rw [rd_dot]
    rw [show txtL [46] = ⟨#[46]⟩ from rfl]
    go_enter Try.func9, Try.ntmps9
    go_wp2
    refine bodyPost_ret (v := .tuple #[.string ⟨#[]⟩, .bool true]) (by simp [results, Try.results9, go_sem]) rfl ?_
    exact ⟨rfl, (by repeat (first | exact Below.refl _ _ | assumption | (refine Below.trans ?_ (Below.mono (by assumption) (by first | omega | (simp <;> omega)))) | (refine Below.alloc ?_ (by first | omega | (simp <;> omega)) _) | (refine below_drewN ?_ _) | (refine Below.drew ?_) | (refine Below.setCell ?_ (by first | omega | (simp <;> omega)) _)))⟩
  · have hne : ((txtL l).toList == [46]) = false := by rw [txtL_toList, beq_eq_false_iff_ne]; exact h46
    obtain ⟨R1, hR1⟩ : ∃ R1, (rrF (txtL l)).1 = R1 := ⟨_, rfl⟩
    obtain ⟨R2, hR2⟩ : ∃ R2, (rrF (txtL l)).2 = R2 := ⟨_, rfl⟩
    have HF : Hid (∀ k, runR .first (l.take k) = none → R1 = ⟨#[]⟩ ∧ R2 = false) := fun k h => by rw [← hR1, ← hR2, rd_fail h46 k h]; exact ⟨rfl, rfl⟩
    have HNo : Hid (∀ q, runR .first l = some q → (l = [] ∨ q.beh = true) → R1 = ⟨#[]⟩ ∧ R2 = false) := fun q h h2 => by
      rw [← hR1, ← hR2, rd_no h46 (fun q' h' => by rw [h] at h'; obtain rfl := Option.some.inj h'; exact h2)]; exact ⟨rfl, rfl⟩
    have HY : Hid (∀ q, runR .first l = some q → l ≠ [] → q.beh = false → R1 = txtM q.word ∧ R2 = true) := fun q h h0 hb => by
      rw [← hR1, ← hR2, rd_yes h h0 hb]; exact ⟨rfl, rfl⟩
    rw [hR1, hR2]
    obtain ⟨L, hL⟩ : ∃ L, l.length = L := ⟨_, rfl⟩
    have hsz : (txtL l).size = L := by rw [txtL_size]; exact hL
    have HG : Hid (∀ k (h : k < (txtL l).size), (txtL l)[k] = l.getD k 0) := fun k h => txtL_get h
    have HTk : Hid (∀ k, k < L → l.take (k + 1) = l.take k ++ [l.getD k 0]) := fun k h => by
      rw [List.take_add_one, List.getElem?_eq_getElem (by omega), List.getD_eq_getElem?_getD, List.getElem?_eq_getElem (by omega)]; rfl
    have HLn : Hid (l.take L = l) := by show _ = _; rw [← hL]; exact List.take_length
    have HL0 : Hid (l = [] ↔ L = 0) := by show _ ↔ _; rw [← hL]; exact List.length_eq_zero_iff.symm
    generalize txtL l = U at *
    rw [hL] at hu
    clear hR1 hR2 hL h46
    have q0 : Quad (w.alloc (.cells #[.string ⟨#[]⟩, .int .u8 0, .int .i64 0, .bool false] 36)) w.heap.size (.string ⟨#[]⟩) (.int .u8 0) (.int .i64 0) (.bool false) 36 := Quad.new _ _ _ _ _ _
    have hr0 : RdAt (w.alloc (.cells #[.string ⟨#[]⟩, .int .u8 0, .int .i64 0, .bool false] 36)) w.heap.size .first := q0
    have hB0 : Below w.heap.size w (w.alloc (.cells #[.string ⟨#[]⟩, .int .u8 0, .int .i64 0, .bool false] 36)) := (by repeat (first | exact Below.refl _ _ | assumption | (refine Below.trans ?_ (Below.mono (by assumption) (by first | omega | (simp <;> omega)))) | (refine Below.alloc ?_ (by first | omega | (simp <;> omega)) _) | (refine below_drewN ?_ _) | (refine Below.drew ?_) | (refine Below.setCell ?_ (by first | omega | (simp <;> omega)) _)))
    go_enter Try.func9, Try.ntmps9
    go_wp2_with fail
    generalize w.alloc (.cells #[.string ⟨#[]⟩, .int .u8 0, .int .i64 0, .bool false] 36) = W at *
    have hEm : Hid (∀ h : ¬ L = 0, U.toList.isEmpty = false) := fun h => toList_emptyR (by omega)
    have hE0 : Hid (L = 0 → U = ⟨#[]⟩) := fun h => empty_of_sizeR (by omega)
    go_loopw [10] (fun x wr => ∃ (k : Nat) (q : RS), x = .int .i64 k ∧ k ≤ L ∧ Hid (runR .first (l.take k) = some q) ∧ RdAt wr w.heap.size q ∧ Below w.heap.size w wr) (fun x _ => L - (intOf x).toNat)
    case atStart => exact ⟨0, .first, rfl, by omega, rfl, hr0, hB0⟩
    case round =>
      obtain ⟨k, q, rfl, hk, HR, hq, hB⟩ := hrel
      clear q0 hr0 hB0
      by_cases hkL : k < L
      · have hkL' : (k : Int) < (L : Int) := by omega
        have hku : k < U.size := by omega
        have hb : ((U[k].toNat : Nat) : Int) = ((l.getD k 0).toNat : Int) := by rw [HG.out k hku]
        have hta := Lib.hid (take_any w.heap.size q (l.getD k 0) wr (run_bd HR.out) hq)
        have hwj : IntKind.i64.wrap ((k : Int) + 1) = (k : Int) + 1 := IntWalk.i64_in _ (by omega)
        have hstep := runR_snoc (l.take k) (l.getD k 0) .first q HR.out
        rw [← HTk.out k hkL] at hstep
        cases ht : q.take (l.getD k 0) with
        | none =>
          rw [ht] at hta hstep
          have hF := Lib.hid (HF.out (k + 1) hstep)
          clear ht hstep hq HR
          generalize ((l.getD k 0).toNat : Int) = C at *
          go_wp2_with fail
          refine hta.out.mono ?_; rintro e w2 ⟨hb2, rfl, _⟩
          go_wp2
          refine bodyPost_ret (v := .tuple #[.string ⟨#[]⟩, .bool false]) (by simp [results, Try.results9, go_sem]) rfl ?_
          exact ⟨by rw [hF.out.1, hF.out.2], hB.trans hb2⟩
        | some p =>
          rw [ht] at hta hstep
          have HS := Lib.hid hstep
          clear ht hstep hq HR
          generalize ((l.getD k 0).toNat : Int) = C at *
          go_wp2_with fail
          refine hta.out.mono ?_; rintro e w2 ⟨hb2, rfl, hq2⟩
          have hq3 := hq2 p rfl
          have hB3 := hB.trans hb2
          clear hq2 hb2 hB hta
          go_wp2_with fail
          go_roundw
          case rel => exact ⟨k + 1, p, by go_num, by omega, HS.out, hq3, hB3⟩
          case measure => simp only [intOf]; omega
      · obtain rfl : k = L := by omega
        have hkL' : decide ((k : Int) < k) = false := by simp
        have HR2 := HR.out
        rw [HLn.out] at HR2
        have hbd := run_bd HR2
        have hsf := Lib.hid (soFar_any w.heap.size q wr hbd hq)
        have hN := Lib.hid (HNo.out q HR2)
        have hYs := Lib.hid (HY.out q HR2)
        have hq1 : Quad wr w.heap.size (.string (txtM q.before)) (.int .u8 (q.lt.toNat : Int)) (.int .i64 (q.many : Int)) (.bool q.beh) 36 := hq
        have c3 := hq1.cell3
        clear HR2 HR hq hq1 hbd
        by_cases h0 : k = 0
        · have hU := hE0.out h0
          have hF := Lib.hid (hN.out (.inl (HL0.out.2 h0)))
          subst hU
          clear h0 c3
          go_wp2
          refine bodyPost_ret (v := .tuple #[.string ⟨#[]⟩, .bool false]) (by simp [results, Try.results9, go_sem]) rfl ?_
          exact ⟨by rw [hF.out.1, hF.out.2], hB⟩
        · have hU := hEm.out h0
          have hl0 := Lib.hid (fun h => h0 (HL0.out.1 h))
          cases hbe : q.beh with
          | true =>
            rw [hbe] at c3
            have hF := Lib.hid (hN.out (.inr hbe))
            clear hbe
            go_wp2
            refine bodyPost_ret (v := .tuple #[.string ⟨#[]⟩, .bool false]) (by simp [results, Try.results9, go_sem]) rfl ?_
            exact ⟨by rw [hF.out.1, hF.out.2], hB⟩
          | false =>
            rw [hbe] at c3
            have hF := Lib.hid (hYs.out hl0.out hbe)
            clear hbe
            go_wp2_with fail
            refine hsf.out.mono ?_; rintro e w2 ⟨rfl, hb2⟩
            go_wp2
            refine bodyPost_ret (v := .tuple #[.string (txtM q.word), .bool true]) (by simp [results, Try.results9, go_sem]) rfl ?_
            exact ⟨by rw [hF.out.1, hF.out.2], hB.trans (hb2.mono hB.size)⟩
end Go.Proofs.Ytckkgjgfjnfeoaa
