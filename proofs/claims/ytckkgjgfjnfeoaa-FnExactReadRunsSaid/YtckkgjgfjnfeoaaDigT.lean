/- Contract of the model's l1Digits. -/
import Derived.Test.YtckkgjgfjnfeoaaGMov
import Derived.Test.YtckkgjgfjnfeoaaGKit
import Derived.BigQuiet
import Derived.Test.YtckkgjgfjnfeoaaOne
import Derived.Laws.Concat
set_option linter.unusedVariables false
namespace Go.Proofs.Ytckkgjgfjnfeoaa
set_option maxRecDepth 4000

set_option maxRecDepth 4000
open Go.ChangeShapes Go.WideShapes Go.ChangeAt Go.RowKit Go.Joins

open Classical in

/-- the number of a list of one to six digits without a leading 0; -1 of others -/
noncomputable def dgF (l : List UInt8) : Int := if canD l ∧ l.length ≤ 6 then (valN l : Int) else -1

theorem dgF_yes {l : List UInt8} (h : canD l) (h2 : l.length ≤ 6) : dgF l = (valN l : Int) := if_pos ⟨h, h2⟩

theorem dgF_no {l : List UInt8} (h : ¬ (canD l ∧ l.length ≤ 6)) : dgF l = -1 := if_neg h

def DigTo (l : List UInt8) (k : Nat) : Prop := ∀ i, i < k → isDig (l.getD i 0) = true

theorem DigTo.next {l : List UInt8} {k c : Nat} (h : DigTo l k) (e : (l.getD k 0).toNat = c) (h1 : 48 ≤ c) (h2 : c ≤ 57) : DigTo l (k + 1) := by
  intro i hi
  by_cases g : i = k
  · subst g; unfold isDig; rw [e]; simp; exact ⟨h1, h2⟩
  · exact h i (by omega)

theorem DigTo.not {l : List UInt8} {k c : Nat} (hk : k < l.length) (e : (l.getD k 0).toNat = c) (h : c < 48 ∨ 57 < c) : ¬ canD l := by
  intro g
  have := g.2.1 (l.getD k 0) (by rw [List.getD_eq_getElem?_getD, List.getElem?_eq_getElem hk]; exact List.getElem_mem hk)
  unfold isDig at this
  rw [e] at this
  simp at this
  omega

theorem DigTo.can {l : List UInt8} (h : DigTo l l.length) (h0 : 0 < l.length) (h1 : 1 < l.length → l.getD 0 0 ≠ 48) : canD l := by
  refine ⟨fun e => by rw [e] at h0; exact absurd h0 (Nat.lt_irrefl _), fun c hc => ?_, fun g => ?_⟩
  · obtain ⟨i, hi, rfl⟩ := List.getElem_of_mem hc
    have := h i hi
    rwa [List.getD_eq_getElem?_getD, List.getElem?_eq_getElem hi] at this
  · intro e
    apply h1 g
    rw [List.getD_eq_getElem?_getD, ← List.head?_eq_getElem?, e]; rfl

theorem val_take {l : List UInt8} {k : Nat} (h : k < l.length) : valN (l.take (k + 1)) = 10 * valN (l.take k) + ((l.getD k 0).toNat - 48) := by
  rw [List.take_add_one, List.getElem?_eq_getElem h, List.getD_eq_getElem?_getD, List.getElem?_eq_getElem h]
  exact valN_snoc _ _

set_option maxHeartbeats 4000000 in
theorem specDigits_any (l : List UInt8) (w : World) (hu : l.length ≤ 2000000) :
    Calls Try.prog 12 #[.string (txtL l)] w fun e w' => e = .returned (.int .i64 (dgF l)) ∧ w = w' := by
  have hsz := txtL_size l
  have HG : Hid (∀ i (h : i < (txtL l).size), (txtL l)[i] = l.getD i 0) := fun i h => txtL_get h
  obtain ⟨U, hU⟩ : ∃ U, txtL l = U := ⟨_, rfl⟩
  rw [hU] at hsz HG ⊢
  clear hU
  by_cases h6 : 1 ≤ l.length ∧ l.length ≤ 6
  · obtain ⟨h1, h6⟩ := h6
    have i1 : (1 : Int) ≤ (l.length : Int) := by omega
    have i6 : (l.length : Int) ≤ 6 := by omega
    have HV := Lib.hid (fun k (h : k < l.length) => val_take h)
    have HNo := Lib.hid (fun (h : ¬ canD l) => dgF_no (l := l) (fun g => h g.1))
    have HYes := Lib.hid (fun (h : canD l) => dgF_yes h h6)
    have HTL : Hid (valN l = valN (l.take l.length)) := by show _ = _; rw [List.take_length]
    have HNot := Lib.hid (fun k c (hk : k < l.length) e => DigTo.not (l := l) (k := k) (c := c) hk e)
    have HCan := Lib.hid (fun (h : DigTo l l.length) => DigTo.can h (by omega))
    have hc0 : Hid (∀ h : 0 < U.size, 1 < l.length → U[0] = 48 → ¬ canD l) := fun h h1 e g => by
      have := g.2.2 h1
      rw [HG.out 0 h] at e
      apply this
      rw [List.head?_eq_getElem?, List.getElem?_eq_getElem (by omega)]
      rw [List.getD_eq_getElem?_getD, List.getElem?_eq_getElem (by omega)] at e
      exact congrArg some e
    obtain ⟨R, hR⟩ : ∃ R, dgF l = R := ⟨_, rfl⟩
    rw [hR] at HNo HYes ⊢
    obtain ⟨L, hL⟩ : ∃ L, l.length = L := ⟨_, rfl⟩
    rw [hL] at hsz h1 h6 i1 i6 HV HTL HNot HCan hc0 hu
    clear hR hL
    have h0U : 0 < U.size := by omega
    obtain ⟨c0, hc00⟩ : ∃ c : Nat, U[0].toNat = c := ⟨_, rfl⟩
    have b0 : (U[0].toNat : Int) = (c0 : Int) := by omega
    have hc48 : Hid (c0 = 48 → U[0] = 48) := fun e => by apply UInt8.toNat_inj.1; rw [hc00, e]; rfl
    have hn48 : Hid (c0 ≠ 48 → l.getD 0 0 ≠ 48) := fun e g => by rw [← HG.out 0 h0U] at g; rw [g] at hc00; exact e hc00.symm
    go_enter Try.func12, Try.ntmps12
    go_wp2_with fail
    refine (l1In_any _ _ _ _).mono ?_; rintro e w2 ⟨rfl, rfl⟩
    rw [decide_eq_true i1, decide_eq_true i6]
    by_cases hz : 1 < L ∧ c0 = 48
    · obtain ⟨z1, rfl⟩ := hz
      have z1' : (1 : Int) < (L : Int) := by omega
      have hE := Lib.hid (HNo.out (hc0.out h0U z1 (hc48.out rfl)))
      have b0' : (U[0].toNat : Int) = 48 := b0
      clear hc00 b0
      go_wp2
      go_ret
      exact ⟨by rw [hE.out]; rfl, rfl⟩
    · have hlead : Hid (1 < L → l.getD 0 0 ≠ 48) := fun h => hn48.out (fun e => hz ⟨h, e⟩)
      have hpre : (L = 1) ∨ (1 < L ∧ c0 ≠ 48) := by
        by_cases g : 1 < L
        · exact .inr ⟨g, fun e => hz ⟨g, e⟩⟩
        · exact .inl (by omega)
      clear hz hc00 hc48 hn48 hc0
      have hkey : ∀ P : Prop, ((L = 1 → P) ∧ (1 < L ∧ c0 ≠ 48 → P)) → P := fun P ⟨a, b⟩ => hpre.elim a b
      apply hkey
      refine ⟨fun q1 => ?_, fun q2 => ?_⟩
      · have q1' : ¬ (1 : Int) < (L : Int) := by omega
        clear hkey hpre q1
        go_wp2_with fail
        go_loopw [3, 4] (fun xn xk wr => ∃ k m : Nat, xn = .int .i64 m ∧ xk = .int .i64 k ∧ k ≤ L ∧ m < 10 ^ k ∧ Hid (DigTo l k) ∧ Hid (m = valN (l.take k)) ∧ w = wr) (fun _ xk _ => L - (intOf xk).toNat)
        case atStart => exact ⟨0, 0, rfl, rfl, by omega, by decide, fun i hi => absurd hi (Nat.not_lt_zero _), rfl, rfl⟩
        case round =>
          obtain ⟨k, m, rfl, rfl, hk, hm, HD, HM, rfl⟩ := hrel
          clear b0
          by_cases hkL : k < L
          · have hkL' : (k : Int) < (L : Int) := by omega
            have hkU : k < U.size := by omega
            have h10 : 10 ^ k ≤ 100000 := Nat.le_trans (Nat.pow_le_pow_right (by omega) (show k ≤ 5 by omega)) (by decide)
            obtain ⟨c, hc⟩ : ∃ c : Nat, U[k].toNat = c := ⟨_, rfl⟩
            have hb0 : (U[k].toNat : Int) = (c : Int) := by omega
            have hc255 : c ≤ 255 := by rw [← hc]; have := UInt8.toNat_lt U[k]; omega
            have hlc : Hid ((l.getD k 0).toNat = c) := by show _ = _; rw [← HG.out k hkU]; exact hc
            clear hc
            by_cases c1 : c < 48
            · have c1' : (c : Int) < 48 := by omega
              have hE := Lib.hid (HNo.out (HNot.out k c hkL hlc.out (.inl c1)))
              go_wp2
              go_ret
              exact ⟨by rw [hE.out]; rfl, rfl⟩
            · by_cases c2 : 57 < c
              · have c1' : ¬ (c : Int) < 48 := by omega
                have c2' : (57 : Int) < (c : Int) := by omega
                have hE := Lib.hid (HNo.out (HNot.out k c hkL hlc.out (.inr c2)))
                go_wp2
                go_ret
                exact ⟨by rw [hE.out]; rfl, rfl⟩
              · have c1' : ¬ (c : Int) < 48 := by omega
                have c2' : ¬ (57 : Int) < (c : Int) := by omega
                obtain ⟨d, hd⟩ : ∃ d, c - 48 = d := ⟨_, rfl⟩
                have w1 : IntKind.u8.wrap ((c : Int) - 48) = (d : Int) := by rw [show (c : Int) - 48 = (d : Int) by omega]; exact IntWalk.u8_in _ (by omega)
                have w2' : IntKind.i64.wrap (10 * (m : Int)) = 10 * (m : Int) := IntWalk.i64_in _ (by omega)
                have w3 : IntKind.i64.wrap (d : Int) = (d : Int) := IntWalk.i64_in _ (by omega)
                have w4 : IntKind.i64.wrap (10 * (m : Int) + (d : Int)) = ((10 * m + d : Nat) : Int) := by rw [show 10 * (m : Int) + (d : Int) = ((10 * m + d : Nat) : Int) by omega]; exact IntWalk.i64_in _ (by omega)
                have w5 : IntKind.i64.wrap ((k : Int) + 1) = (k : Int) + 1 := IntWalk.i64_in _ (by omega)
                have HM2 : Hid (10 * m + d = valN (l.take (k + 1))) := by show _ = _; rw [HV.out k hkL, ← HM.out, hlc.out, hd]
                have HD2 := Lib.hid (HD.out.next hlc.out (by omega) (by omega))
                have hm2 : 10 * m + d < 10 ^ (k + 1) := by rw [Nat.pow_succ]; omega
                generalize 10 * m + d = m2 at *
                clear HM HD hlc
                go_wp2_with fail
                go_roundw
                case rel => exact ⟨k + 1, m2, rfl, by go_num, by omega, hm2, HD2.out, HM2.out, trivial⟩
                case measure => simp only [intOf]; omega
          · obtain rfl : k = L := by omega
            have hkl' : ¬ (k : Int) < (k : Int) := by omega
            have hE := Lib.hid (HYes.out (HCan.out HD.out hlead.out))
            rw [HTL.out, ← HM.out] at hE
            go_wp2
            go_ret
            exact ⟨by rw [hE.out]; rfl, rfl⟩
      · obtain ⟨q2, q3⟩ := q2
        have q2' : (1 : Int) < (L : Int) := by omega
        have q3' : ¬ (c0 : Int) = 48 := by omega
        clear hkey hpre
        go_wp2_with fail
        go_loopw [3, 4] (fun xn xk wr => ∃ k m : Nat, xn = .int .i64 m ∧ xk = .int .i64 k ∧ k ≤ L ∧ m < 10 ^ k ∧ Hid (DigTo l k) ∧ Hid (m = valN (l.take k)) ∧ w = wr) (fun _ xk _ => L - (intOf xk).toNat)
        case atStart => exact ⟨0, 0, rfl, rfl, by omega, by decide, fun i hi => absurd hi (Nat.not_lt_zero _), rfl, rfl⟩
        case round =>
          obtain ⟨k, m, rfl, rfl, hk, hm, HD, HM, rfl⟩ := hrel
          clear b0
          by_cases hkL : k < L
          · have hkL' : (k : Int) < (L : Int) := by omega
            have hkU : k < U.size := by omega
            have h10 : 10 ^ k ≤ 100000 := Nat.le_trans (Nat.pow_le_pow_right (by omega) (show k ≤ 5 by omega)) (by decide)
            obtain ⟨c, hc⟩ : ∃ c : Nat, U[k].toNat = c := ⟨_, rfl⟩
            have hb0 : (U[k].toNat : Int) = (c : Int) := by omega
            have hc255 : c ≤ 255 := by rw [← hc]; have := UInt8.toNat_lt U[k]; omega
            have hlc : Hid ((l.getD k 0).toNat = c) := by show _ = _; rw [← HG.out k hkU]; exact hc
            clear hc
            by_cases c1 : c < 48
            · have c1' : (c : Int) < 48 := by omega
              have hE := Lib.hid (HNo.out (HNot.out k c hkL hlc.out (.inl c1)))
              go_wp2
              go_ret
              exact ⟨by rw [hE.out]; rfl, rfl⟩
            · by_cases c2 : 57 < c
              · have c1' : ¬ (c : Int) < 48 := by omega
                have c2' : (57 : Int) < (c : Int) := by omega
                have hE := Lib.hid (HNo.out (HNot.out k c hkL hlc.out (.inr c2)))
                go_wp2
                go_ret
                exact ⟨by rw [hE.out]; rfl, rfl⟩
              · have c1' : ¬ (c : Int) < 48 := by omega
                have c2' : ¬ (57 : Int) < (c : Int) := by omega
                obtain ⟨d, hd⟩ : ∃ d, c - 48 = d := ⟨_, rfl⟩
                have w1 : IntKind.u8.wrap ((c : Int) - 48) = (d : Int) := by rw [show (c : Int) - 48 = (d : Int) by omega]; exact IntWalk.u8_in _ (by omega)
                have w2' : IntKind.i64.wrap (10 * (m : Int)) = 10 * (m : Int) := IntWalk.i64_in _ (by omega)
                have w3 : IntKind.i64.wrap (d : Int) = (d : Int) := IntWalk.i64_in _ (by omega)
                have w4 : IntKind.i64.wrap (10 * (m : Int) + (d : Int)) = ((10 * m + d : Nat) : Int) := by rw [show 10 * (m : Int) + (d : Int) = ((10 * m + d : Nat) : Int) by omega]; exact IntWalk.i64_in _ (by omega)
                have w5 : IntKind.i64.wrap ((k : Int) + 1) = (k : Int) + 1 := IntWalk.i64_in _ (by omega)
                have HM2 : Hid (10 * m + d = valN (l.take (k + 1))) := by show _ = _; rw [HV.out k hkL, ← HM.out, hlc.out, hd]
                have HD2 := Lib.hid (HD.out.next hlc.out (by omega) (by omega))
                have hm2 : 10 * m + d < 10 ^ (k + 1) := by rw [Nat.pow_succ]; omega
                generalize 10 * m + d = m2 at *
                clear HM HD hlc
                go_wp2_with fail
                go_roundw
                case rel => exact ⟨k + 1, m2, rfl, by go_num, by omega, hm2, HD2.out, HM2.out, trivial⟩
                case measure => simp only [intOf]; omega
          · obtain rfl : k = L := by omega
            have hkl' : ¬ (k : Int) < (k : Int) := by omega
            have hE := Lib.hid (HYes.out (HCan.out HD.out hlead.out))
            rw [HTL.out, ← HM.out] at hE
            go_wp2
            go_ret
            exact ⟨by rw [hE.out]; rfl, rfl⟩
  · have hE := Lib.hid (dgF_no (l := l) (fun g => h6 ⟨by have := g.1.1; cases l with
      | nil => exact absurd rfl this
      | cons => simp, g.2⟩))
    obtain ⟨R, hR⟩ : ∃ R, dgF l = R := ⟨_, rfl⟩
    rw [hR] at hE ⊢
    obtain ⟨L, hL⟩ : ∃ L, l.length = L := ⟨_, rfl⟩
    rw [hL] at hsz h6
    clear hR hL HG
    have hd : (decide ((1 : Int) ≤ (L : Int)) && decide ((L : Int) ≤ 6)) = false := by
      rw [Bool.and_eq_false_iff, decide_eq_false_iff_not, decide_eq_false_iff_not]; omega
    go_enter Try.func12, Try.ntmps12
    go_wp2_with fail
    refine (l1In_any _ _ _ _).mono ?_; rintro e w2 ⟨rfl, rfl⟩
    rw [hd]
    go_wp2
    go_ret
    exact ⟨by rw [hE.out]; rfl, rfl⟩
end Go.Proofs.Ytckkgjgfjnfeoaa
