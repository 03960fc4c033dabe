/- Contract of the model's ReadRuns. -/
import Derived.Test.YtckkgjgfjnfeoaaRunT
import Derived.Test.YtckkgjgfjnfeoaaReadF
set_option linter.unusedVariables false
namespace Go.Proofs.Ytckkgjgfjnfeoaa
set_option maxRecDepth 4000

set_option maxRecDepth 4000
open Go.ChangeShapes Go.WideShapes Go.ChangeAt Go.RowKit Go.Joins

set_option maxHeartbeats 8000000 in
theorem specReadRuns_any (l : List UInt8) (w : World) (hu : l.length ≤ 2000000) :
    Calls Try.prog 8 #[.string (txtL l)] w fun e w' => e = .returned (.tuple #[.string (rrF (txtL l)).1, .bool (rrF (txtL l)).2]) ∧ Below w.heap.size w w' := by
  have hB0 := Below.refl w.heap.size w
  by_cases h0 : l = []
  · subst h0
    rw [rrF_no (t := txtL []) (fun u hu e => by have := (runsTxt_size hu).1; rw [e] at this; exact absurd this (by decide))]
    rw [show txtL [] = ⟨#[]⟩ from rfl]
    go_enter Try.func8, Try.ntmps8
    go_wp2_with fail
    go_loopw [4, 5] (fun xo xk wr => xo = .string ⟨#[]⟩ ∧ xk = .int .i64 0 ∧ Below w.heap.size w wr) (fun _ _ _ => 0)
    case atStart => exact ⟨rfl, rfl, hB0⟩
    case round =>
      obtain ⟨rfl, rfl, hBr⟩ := hrel
      go_wp2
      refine bodyPost_ret (v := .tuple #[.string ⟨#[]⟩, .bool false]) (by simp [results, Try.results8, go_sem]) rfl ?_
      exact ⟨rfl, hBr⟩
  by_cases hd : l = [46]
  · subst hd
    have e1 : rrF (txtL [46]) = (⟨#[]⟩, true) := rrF_yes (u := []) (by decide)
    rw [e1]
    rw [show txtL [46] = ⟨#[46]⟩ from rfl]
    have e2 : rtF ⟨#[]⟩ = ⟨#[46]⟩ := onM_yes (u := []) (by decide)
    have hT := Lib.hid (fun w => specRunsText_any ⟨#[]⟩ w (by decide))
    rw [e2] at hT
    go_enter Try.func8, Try.ntmps8
    go_wp2_with fail
    go_loopw [4, 5] (fun xo xk wr => xo = .string ⟨#[]⟩ ∧ xk = .int .i64 0 ∧ Below w.heap.size w wr) (fun _ _ _ => 0)
    case atStart => exact ⟨rfl, rfl, hB0⟩
    case round =>
      obtain ⟨rfl, rfl, hBr⟩ := hrel
      go_wp2_with fail
      refine (hT.out _).mono ?_; rintro e w1 ⟨rfl, hb1⟩
      go_wp2
      refine bodyPost_ret (v := .tuple #[.string ⟨#[]⟩, .bool true]) (by simp [results, Try.results8, go_sem]) rfl ?_
      exact ⟨rfl, hBr.trans (hb1.mono hBr.size)⟩
  have hsz := txtL_size l
  have hL0 : 0 < l.length := List.length_pos_iff.2 h0
  have HG : Hid (∀ i (h : i < (txtL l).size), (txtL l)[i] = l.getD i 0) := fun i h => txtL_get h
  have HEx := Lib.hid (fun a b => txtL_extract l a b)
  have HMore := Lib.hid (fun k e A c (h : ReadTo l k A) hk he hel hdd hx hc => read_more (l := l) (k := k) (e := e) (A := A) h hk he hel hdd hx (c := c) hc)
  have HFail := Lib.hid (fun k e A (h : ReadTo l k A) hk he hel hdd hx hc => read_fail (l := l) (k := k) (e := e) (A := A) h hk he hel hdd hx hd hc)
  have HEnd := Lib.hid (fun A (h : ReadTo l l.length A) => read_end h hL0 hd)
  have HFirst := Lib.hid (ReadTo.first l)
  have HD := Lib.hid (fun a b w (h : b ≤ l.length) => specDigits_any ((l.drop a).take (b - a)) w (by rw [List.length_take, List.length_drop]; omega))
  have hemp : (txtL l).toList.isEmpty = false := by
    rw [txtL_toList]
    cases l with
    | nil => exact absurd rfl h0
    | cons => rfl
  have hdot : ((txtL l).toList == [46]) = false := by
    rw [txtL_toList, beq_eq_false_iff_ne]; exact hd
  have hdot2 : ¬ (txtL l).toList = [46] := by rw [txtL_toList]; exact hd
  obtain ⟨⟨R1, R2⟩, hR⟩ : ∃ R, rrF (txtL l) = R := ⟨_, rfl⟩
  rw [hR] at HFail HEnd ⊢
  obtain ⟨U, hU⟩ : ∃ U, txtL l = U := ⟨_, rfl⟩
  rw [hU] at hsz HG HEx HEnd hemp hdot hdot2 ⊢
  obtain ⟨L, hL⟩ : ∃ L, l.length = L := ⟨_, rfl⟩
  rw [hL] at hu hsz hL0 HMore HFail HEnd HD
  have HLen := Lib.hid hL
  clear hR hU hL h0 hd
  go_enter Try.func8, Try.ntmps8
  go_wp2_with fail
  go_loopw [4, 5] (fun xo xk wr => ∃ (k : Nat) (A : ByteArray), xo = .string A ∧ xk = .int .i64 k ∧ k ≤ L ∧ A.size ≤ 58 ∧ Hid (ReadTo l k A) ∧ Below w.heap.size w wr) (fun _ xk _ => L - (intOf xk).toNat)
  case atStart => exact ⟨0, ⟨#[]⟩, rfl, rfl, by omega, by decide, HFirst.out, hB0⟩
  case round =>
    obtain ⟨k, A, rfl, rfl, hk, hA, HR, hBr⟩ := hrel
    clear HFirst hB0
    by_cases hkL : k < L
    · have hkL' : (k : Int) < (L : Int) := by omega
      clear HEnd
      obtain ⟨k1, hk1⟩ : ∃ k1, k + 1 = k1 := ⟨_, rfl⟩
      have wk1 : IntKind.i64.wrap ((k : Int) + 1) = (k1 : Int) := by rw [show (k : Int) + 1 = (k1 : Int) by omega]; exact IntWalk.i64_in _ (by omega)
      go_wp2_with fail
      go_loopw [6] (fun xe wq => ∃ e : Nat, xe = .int .i64 e ∧ k1 ≤ e ∧ e ≤ L ∧ Hid (∀ i, k + 1 ≤ i → i < e → isDig (l.getD i 0) = true) ∧ Below w.heap.size w wq) (fun xe _ => L - (intOf xe).toNat)
      case atStart => exact ⟨k1, rfl, by omega, by omega, fun i a b => absurd b (by omega), hBr⟩
      case round =>
        obtain ⟨e, rfl, he, heL, HDG, hBq⟩ := hrel
        clear hBr
        by_cases heL' : e < L
        · have heI : (e : Int) < (L : Int) := by omega
          have heU : e < U.size := by omega
          obtain ⟨c, hc⟩ : ∃ c : Nat, U[e].toNat = c := ⟨_, rfl⟩
          have b0 : (U[e].toNat : Int) = (c : Int) := by omega
          have hlc : Hid ((l.getD e 0).toNat = c) := by show _ = _; rw [← HG.out e heU]; exact hc
          clear hc
          by_cases c1 : 48 ≤ c
          · have c1' : (48 : Int) ≤ (c : Int) := by omega
            by_cases c2 : c ≤ 57
            · have c2' : (c : Int) ≤ 57 := by omega
              have we : IntKind.i64.wrap ((e : Int) + 1) = (e : Int) + 1 := IntWalk.i64_in _ (by omega)
              have HDG2 : Hid (∀ i, k + 1 ≤ i → i < e + 1 → isDig (l.getD i 0) = true) := fun i a b => by
                by_cases q : i = e
                · subst q; unfold isDig; rw [hlc.out]; simp; exact ⟨c1, c2⟩
                · exact HDG.out i a (by omega)
              clear HDG hlc
              go_wp2_with fail
              go_roundw
              case rel => exact ⟨e + 1, by go_num, by omega, by omega, HDG2.out, hBq⟩
              case measure => simp only [intOf]; omega
            · have c2' : ¬ (c : Int) ≤ 57 := by omega
              have c2d : decide ((c : Int) ≤ 57) = false := decide_eq_false c2'
              have HX : Hid (e = L ∨ isDig (l.getD e 0) = false) := .inr (by unfold isDig; rw [hlc.out]; simp; omega)
              clear hlc
              have hex := HEx.out k1 e
              have HDe := Lib.hid (fun w => HD.out k1 e w heL)
              rw [← hex] at HDe
              have q1 : (k1 : Int) ≤ (e : Int) := by omega
              have q2 : (e : Int) ≤ (L : Int) := by omega
              obtain ⟨g, hg⟩ : ∃ g, dgF ((l.drop k1).take (e - k1)) = g := ⟨_, rfl⟩
              have hgb := dg_bd ((l.drop k1).take (e - k1))
              rw [hg] at HDe hgb
              have HF := Lib.hid (HFail.out k e A HR.out hkL (by omega) heL HDG.out HX.out)
              rw [hk1, hg] at HF
              have HMo := Lib.hid (fun c => HMore.out k e A c HR.out hkL (by omega) heL HDG.out HX.out)
              rw [hk1, hg] at HMo
              clear hex HDG HX hg
              go_wp2_with fail
              refine (HDe.out _).mono ?_; rintro e1 w1 ⟨rfl, rfl⟩
              by_cases g1 : g < 1
              · have hE := Lib.hid (HF.out (.inl g1))
                clear HF HMo
                go_wp2
                refine bodyPost_ret (v := .tuple #[.string ⟨#[]⟩, .bool false]) (by simp [results, Try.results8, go_sem]) rfl ?_
                have h9 := hE.out
                injection h9 with h91 h92
                exact ⟨by rw [h91, h92], hBq⟩
              · have wg : IntKind.i64.wrap ((A.size : Int) + g) = (A.size : Int) + g := IntWalk.i64_in _ (by omega)
                have g1' : ¬ g < 1 := g1
                have g1d : decide (g < 1) = false := decide_eq_false g1
                by_cases g2 : 58 < (A.size : Int) + g
                · have hE := Lib.hid (HF.out (.inr g2))
                  clear HF HMo
                  go_wp2
                  refine bodyPost_ret (v := .tuple #[.string ⟨#[]⟩, .bool false]) (by simp [results, Try.results8, go_sem]) rfl ?_
                  have h9 := hE.out
                  injection h9 with h91 h92
                  exact ⟨by rw [h91, h92], hBq⟩
                · have g2d : decide (58 < (A.size : Int) + g) = false := decide_eq_false g2
                  obtain ⟨G, rfl⟩ := Int.eq_ofNat_of_zero_le (by omega : 0 ≤ g)
                  have hG : A.size + G ≤ 58 := by omega
                  have HMo2 := Lib.hid (HMo.out G rfl)
                  obtain ⟨x, hx⟩ : ∃ x, l.getD k 0 = x := ⟨_, rfl⟩
                  rw [hx] at HMo2
                  have hex := HEx.out k k1
                  have hone : (l.drop k).take (k1 - k) = [x] := by
                    rw [← hx, ← hk1, show k + 1 - k = 1 by omega, List.take_one, List.head?_drop, List.getD_eq_getElem?_getD]
                    have : k < l.length := by
                      have := HG.out k (by omega)
                      by_cases q : k < l.length
                      · exact q
                      · exfalso
                        have z := txtL_size l
                        have z2 := HLen.out
                        omega
                    rw [List.getElem?_eq_getElem this]; rfl
                  rw [hone] at hex
                  have hes : (U.extract k k1).size = 1 := by rw [hex]; rfl
                  have q3 : (k : Int) ≤ (k1 : Int) := by omega
                  have q4 : (k1 : Int) ≤ (L : Int) := by omega
                  have HB : Hid (∀ i, A ++ txtL (List.replicate i x) ++ U.extract k k1 = A ++ txtL (List.replicate (i + 1) x)) := fun i => by
                    show _ = _
                    rw [hex, ByteArray.append_assoc, txtL_append, List.replicate_succ']
                  have HZ : Hid (∀ i, (A ++ txtL (List.replicate i x)).size = A.size + i) := fun i => by
                    show _ = _
                    rw [ByteArray.size_append, txtL_size, List.length_replicate]
                  have HA0 : Hid (A = A ++ txtL (List.replicate 0 x)) := by
                    show _ = _
                    rw [show txtL (List.replicate 0 x) = ⟨#[]⟩ from rfl]
                    exact (ByteArray.append_empty).symm
                  clear hex hone HF HMo hx g1 g1d wg
                  go_wp2_with fail
                  go_loopw [4, 8] (fun xo xi wq2 => ∃ (i : Nat) (B : ByteArray), xo = .string B ∧ xi = .int .i64 i ∧ i ≤ G ∧ B.size = A.size + i ∧ Hid (B = A ++ txtL (List.replicate i x)) ∧ Below w.heap.size w wq2) (fun _ xi _ => G - (intOf xi).toNat)
                  case atStart => exact ⟨0, A, rfl, rfl, by omega, by omega, HA0.out, hBq⟩
                  case round =>
                    obtain ⟨i, B, rfl, rfl, hi, hBs, HB1, hBz⟩ := hrel
                    clear hBq HA0
                    by_cases hiG : i < G
                    · have hiG' : (i : Int) < (G : Int) := by omega
                      have wi : IntKind.i64.wrap ((i : Int) + 1) = (i : Int) + 1 := IntWalk.i64_in _ (by omega)
                      have HB2 : Hid (B ++ U.extract k k1 = A ++ txtL (List.replicate (i + 1) x)) := by show _ = _; rw [HB1.out]; exact HB.out i
                      have hBs2 : (B ++ U.extract k k1).size = A.size + (i + 1) := by rw [HB2.out]; exact HZ.out _
                      clear HB1
                      go_wp2_with fail
                      go_roundw
                      case rel => exact ⟨i + 1, _, rfl, by go_num, by omega, hBs2, HB2.out, hBz⟩
                      case measure => simp only [intOf]; omega
                    · obtain rfl : i = G := by omega
                      have hiG' : ¬ (i : Int) < (i : Int) := by omega
                      rw [← HB1.out] at HMo2
                      clear HB1 HB HZ
                      go_wp2_with fail
                      go_roundw
                      case rel => exact ⟨e, B, rfl, rfl, by omega, by omega, HMo2.out, hBz⟩
                      case measure => simp only [intOf]; omega
          · have c1' : ¬ (48 : Int) ≤ (c : Int) := by omega
            have c1d : decide ((48 : Int) ≤ (c : Int)) = false := decide_eq_false c1'
            have HX : Hid (e = L ∨ isDig (l.getD e 0) = false) := .inr (by unfold isDig; rw [hlc.out]; simp; omega)
            clear hlc
            have hex := HEx.out k1 e
            have HDe := Lib.hid (fun w => HD.out k1 e w heL)
            rw [← hex] at HDe
            have q1 : (k1 : Int) ≤ (e : Int) := by omega
            have q2 : (e : Int) ≤ (L : Int) := by omega
            obtain ⟨g, hg⟩ : ∃ g, dgF ((l.drop k1).take (e - k1)) = g := ⟨_, rfl⟩
            have hgb := dg_bd ((l.drop k1).take (e - k1))
            rw [hg] at HDe hgb
            have HF := Lib.hid (HFail.out k e A HR.out hkL (by omega) heL HDG.out HX.out)
            rw [hk1, hg] at HF
            have HMo := Lib.hid (fun c => HMore.out k e A c HR.out hkL (by omega) heL HDG.out HX.out)
            rw [hk1, hg] at HMo
            clear hex HDG HX hg
            go_wp2_with fail
            refine (HDe.out _).mono ?_; rintro e1 w1 ⟨rfl, rfl⟩
            by_cases g1 : g < 1
            · have hE := Lib.hid (HF.out (.inl g1))
              clear HF HMo
              go_wp2
              refine bodyPost_ret (v := .tuple #[.string ⟨#[]⟩, .bool false]) (by simp [results, Try.results8, go_sem]) rfl ?_
              have h9 := hE.out
              injection h9 with h91 h92
              exact ⟨by rw [h91, h92], hBq⟩
            · have wg : IntKind.i64.wrap ((A.size : Int) + g) = (A.size : Int) + g := IntWalk.i64_in _ (by omega)
              have g1' : ¬ g < 1 := g1
              have g1d : decide (g < 1) = false := decide_eq_false g1
              by_cases g2 : 58 < (A.size : Int) + g
              · have hE := Lib.hid (HF.out (.inr g2))
                clear HF HMo
                go_wp2
                refine bodyPost_ret (v := .tuple #[.string ⟨#[]⟩, .bool false]) (by simp [results, Try.results8, go_sem]) rfl ?_
                have h9 := hE.out
                injection h9 with h91 h92
                exact ⟨by rw [h91, h92], hBq⟩
              · have g2d : decide (58 < (A.size : Int) + g) = false := decide_eq_false g2
                obtain ⟨G, rfl⟩ := Int.eq_ofNat_of_zero_le (by omega : 0 ≤ g)
                have hG : A.size + G ≤ 58 := by omega
                have HMo2 := Lib.hid (HMo.out G rfl)
                obtain ⟨x, hx⟩ : ∃ x, l.getD k 0 = x := ⟨_, rfl⟩
                rw [hx] at HMo2
                have hex := HEx.out k k1
                have hone : (l.drop k).take (k1 - k) = [x] := by
                  rw [← hx, ← hk1, show k + 1 - k = 1 by omega, List.take_one, List.head?_drop, List.getD_eq_getElem?_getD]
                  have : k < l.length := by
                    have := HG.out k (by omega)
                    by_cases q : k < l.length
                    · exact q
                    · exfalso
                      have z := txtL_size l
                      have z2 := HLen.out
                      omega
                  rw [List.getElem?_eq_getElem this]; rfl
                rw [hone] at hex
                have hes : (U.extract k k1).size = 1 := by rw [hex]; rfl
                have q3 : (k : Int) ≤ (k1 : Int) := by omega
                have q4 : (k1 : Int) ≤ (L : Int) := by omega
                have HB : Hid (∀ i, A ++ txtL (List.replicate i x) ++ U.extract k k1 = A ++ txtL (List.replicate (i + 1) x)) := fun i => by
                  show _ = _
                  rw [hex, ByteArray.append_assoc, txtL_append, List.replicate_succ']
                have HZ : Hid (∀ i, (A ++ txtL (List.replicate i x)).size = A.size + i) := fun i => by
                  show _ = _
                  rw [ByteArray.size_append, txtL_size, List.length_replicate]
                have HA0 : Hid (A = A ++ txtL (List.replicate 0 x)) := by
                  show _ = _
                  rw [show txtL (List.replicate 0 x) = ⟨#[]⟩ from rfl]
                  exact (ByteArray.append_empty).symm
                clear hex hone HF HMo hx g1 g1d wg
                go_wp2_with fail
                go_loopw [4, 8] (fun xo xi wq2 => ∃ (i : Nat) (B : ByteArray), xo = .string B ∧ xi = .int .i64 i ∧ i ≤ G ∧ B.size = A.size + i ∧ Hid (B = A ++ txtL (List.replicate i x)) ∧ Below w.heap.size w wq2) (fun _ xi _ => G - (intOf xi).toNat)
                case atStart => exact ⟨0, A, rfl, rfl, by omega, by omega, HA0.out, hBq⟩
                case round =>
                  obtain ⟨i, B, rfl, rfl, hi, hBs, HB1, hBz⟩ := hrel
                  clear hBq HA0
                  by_cases hiG : i < G
                  · have hiG' : (i : Int) < (G : Int) := by omega
                    have wi : IntKind.i64.wrap ((i : Int) + 1) = (i : Int) + 1 := IntWalk.i64_in _ (by omega)
                    have HB2 : Hid (B ++ U.extract k k1 = A ++ txtL (List.replicate (i + 1) x)) := by show _ = _; rw [HB1.out]; exact HB.out i
                    have hBs2 : (B ++ U.extract k k1).size = A.size + (i + 1) := by rw [HB2.out]; exact HZ.out _
                    clear HB1
                    go_wp2_with fail
                    go_roundw
                    case rel => exact ⟨i + 1, _, rfl, by go_num, by omega, hBs2, HB2.out, hBz⟩
                    case measure => simp only [intOf]; omega
                  · obtain rfl : i = G := by omega
                    have hiG' : ¬ (i : Int) < (i : Int) := by omega
                    rw [← HB1.out] at HMo2
                    clear HB1 HB HZ
                    go_wp2_with fail
                    go_roundw
                    case rel => exact ⟨e, B, rfl, rfl, by omega, by omega, HMo2.out, hBz⟩
                    case measure => simp only [intOf]; omega
        · have heI : ¬ (e : Int) < (L : Int) := by omega
          have HX : Hid (e = L ∨ isDig (l.getD e 0) = false) := .inl (by omega)
          have hex := HEx.out k1 e
          have HDe := Lib.hid (fun w => HD.out k1 e w heL)
          rw [← hex] at HDe
          have q1 : (k1 : Int) ≤ (e : Int) := by omega
          have q2 : (e : Int) ≤ (L : Int) := by omega
          obtain ⟨g, hg⟩ : ∃ g, dgF ((l.drop k1).take (e - k1)) = g := ⟨_, rfl⟩
          have hgb := dg_bd ((l.drop k1).take (e - k1))
          rw [hg] at HDe hgb
          have HF := Lib.hid (HFail.out k e A HR.out hkL (by omega) heL HDG.out HX.out)
          rw [hk1, hg] at HF
          have HMo := Lib.hid (fun c => HMore.out k e A c HR.out hkL (by omega) heL HDG.out HX.out)
          rw [hk1, hg] at HMo
          clear hex HDG HX hg
          go_wp2_with fail
          refine (HDe.out _).mono ?_; rintro e1 w1 ⟨rfl, rfl⟩
          by_cases g1 : g < 1
          · have hE := Lib.hid (HF.out (.inl g1))
            clear HF HMo
            go_wp2
            refine bodyPost_ret (v := .tuple #[.string ⟨#[]⟩, .bool false]) (by simp [results, Try.results8, go_sem]) rfl ?_
            have h9 := hE.out
            injection h9 with h91 h92
            exact ⟨by rw [h91, h92], hBq⟩
          · have wg : IntKind.i64.wrap ((A.size : Int) + g) = (A.size : Int) + g := IntWalk.i64_in _ (by omega)
            have g1' : ¬ g < 1 := g1
            have g1d : decide (g < 1) = false := decide_eq_false g1
            by_cases g2 : 58 < (A.size : Int) + g
            · have hE := Lib.hid (HF.out (.inr g2))
              clear HF HMo
              go_wp2
              refine bodyPost_ret (v := .tuple #[.string ⟨#[]⟩, .bool false]) (by simp [results, Try.results8, go_sem]) rfl ?_
              have h9 := hE.out
              injection h9 with h91 h92
              exact ⟨by rw [h91, h92], hBq⟩
            · have g2d : decide (58 < (A.size : Int) + g) = false := decide_eq_false g2
              obtain ⟨G, rfl⟩ := Int.eq_ofNat_of_zero_le (by omega : 0 ≤ g)
              have hG : A.size + G ≤ 58 := by omega
              have HMo2 := Lib.hid (HMo.out G rfl)
              obtain ⟨x, hx⟩ : ∃ x, l.getD k 0 = x := ⟨_, rfl⟩
              rw [hx] at HMo2
              have hex := HEx.out k k1
              have hone : (l.drop k).take (k1 - k) = [x] := by
                rw [← hx, ← hk1, show k + 1 - k = 1 by omega, List.take_one, List.head?_drop, List.getD_eq_getElem?_getD]
                have : k < l.length := by
                  have := HG.out k (by omega)
                  by_cases q : k < l.length
                  · exact q
                  · exfalso
                    have z := txtL_size l
                    have z2 := HLen.out
                    omega
                rw [List.getElem?_eq_getElem this]; rfl
              rw [hone] at hex
              have hes : (U.extract k k1).size = 1 := by rw [hex]; rfl
              have q3 : (k : Int) ≤ (k1 : Int) := by omega
              have q4 : (k1 : Int) ≤ (L : Int) := by omega
              have HB : Hid (∀ i, A ++ txtL (List.replicate i x) ++ U.extract k k1 = A ++ txtL (List.replicate (i + 1) x)) := fun i => by
                show _ = _
                rw [hex, ByteArray.append_assoc, txtL_append, List.replicate_succ']
              have HZ : Hid (∀ i, (A ++ txtL (List.replicate i x)).size = A.size + i) := fun i => by
                show _ = _
                rw [ByteArray.size_append, txtL_size, List.length_replicate]
              have HA0 : Hid (A = A ++ txtL (List.replicate 0 x)) := by
                show _ = _
                rw [show txtL (List.replicate 0 x) = ⟨#[]⟩ from rfl]
                exact (ByteArray.append_empty).symm
              clear hex hone HF HMo hx g1 g1d wg
              go_wp2_with fail
              go_loopw [4, 8] (fun xo xi wq2 => ∃ (i : Nat) (B : ByteArray), xo = .string B ∧ xi = .int .i64 i ∧ i ≤ G ∧ B.size = A.size + i ∧ Hid (B = A ++ txtL (List.replicate i x)) ∧ Below w.heap.size w wq2) (fun _ xi _ => G - (intOf xi).toNat)
              case atStart => exact ⟨0, A, rfl, rfl, by omega, by omega, HA0.out, hBq⟩
              case round =>
                obtain ⟨i, B, rfl, rfl, hi, hBs, HB1, hBz⟩ := hrel
                clear hBq HA0
                by_cases hiG : i < G
                · have hiG' : (i : Int) < (G : Int) := by omega
                  have wi : IntKind.i64.wrap ((i : Int) + 1) = (i : Int) + 1 := IntWalk.i64_in _ (by omega)
                  have HB2 : Hid (B ++ U.extract k k1 = A ++ txtL (List.replicate (i + 1) x)) := by show _ = _; rw [HB1.out]; exact HB.out i
                  have hBs2 : (B ++ U.extract k k1).size = A.size + (i + 1) := by rw [HB2.out]; exact HZ.out _
                  clear HB1
                  go_wp2_with fail
                  go_roundw
                  case rel => exact ⟨i + 1, _, rfl, by go_num, by omega, hBs2, HB2.out, hBz⟩
                  case measure => simp only [intOf]; omega
                · obtain rfl : i = G := by omega
                  have hiG' : ¬ (i : Int) < (i : Int) := by omega
                  rw [← HB1.out] at HMo2
                  clear HB1 HB HZ
                  go_wp2_with fail
                  go_roundw
                  case rel => exact ⟨e, B, rfl, rfl, by omega, by omega, HMo2.out, hBz⟩
                  case measure => simp only [intOf]; omega
    · obtain rfl : k = L := by omega
      have hkl' : ¬ (k : Int) < (k : Int) := by omega
      obtain ⟨E1, E2⟩ := HEnd.out A HR.out
      have hT := Lib.hid (fun w => specRunsText_any A w (by omega))
      generalize rtF A = T at *
      by_cases hTU : T = U
      · have hE := Lib.hid (E1 hTU)
        have hb : (T.toList == U.toList) = true := by rw [hTU]; simp
        have hbn : (T.toList != U.toList) = false := by rw [hTU]; simp
        have hTl : T.toList = U.toList := by rw [hTU]
        clear E1 E2 hTU
        go_wp2_with fail
        refine (hT.out _).mono ?_; rintro e w1 ⟨rfl, hb1⟩
        go_wp2
        refine bodyPost_ret (v := .tuple #[.string A, .bool true]) (by simp [results, Try.results8, go_sem]) rfl ?_
        have h9 := hE.out
        injection h9 with h91 h92
        exact ⟨by rw [h91, h92], hBr.trans (hb1.mono hBr.size)⟩
      · have hE := Lib.hid (E2 hTU)
        have hTl : ¬ T.toList = U.toList := fun e => hTU (by rw [← txtL_of T, ← txtL_of U, e])
        have hb : (T.toList == U.toList) = false := by rw [beq_eq_false_iff_ne]; exact hTl
        have hbn : (T.toList != U.toList) = true := by rw [bne, hb]; rfl
        clear E1 E2 hTU
        go_wp2_with fail
        refine (hT.out _).mono ?_; rintro e w1 ⟨rfl, hb1⟩
        go_wp2
        refine bodyPost_ret (v := .tuple #[.string ⟨#[]⟩, .bool false]) (by simp [results, Try.results8, go_sem]) rfl ?_
        have h9 := hE.out
        injection h9 with h91 h92
        exact ⟨by rw [h91, h92], hBr.trans (hb1.mono hBr.size)⟩
end Go.Proofs.Ytckkgjgfjnfeoaa
