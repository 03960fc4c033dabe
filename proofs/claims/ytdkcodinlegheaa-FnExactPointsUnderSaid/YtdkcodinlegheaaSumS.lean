/- Contracts of chapter 10's functions of the model: sums of divisions. -/
import Derived.Test.YtdkcodinlegheaaSumF
import Derived.Test.YtdkcodinlegheaaGKit
import Derived.BigQuiet
set_option linter.unusedVariables false
namespace Go.Proofs.Ytdkcodinlegheaa

set_option maxRecDepth 4000
open Go.ChangeShapes Go.WideShapes Go.ChangeAt Go.RowKit Go.Joins

set_option maxHeartbeats 1000000 in
theorem l10Ok_any (m b t a : Int) (w : World) :
    Calls Try.prog 46 #[.int .i64 m, .int .i64 b, .int .i64 t, .int .i64 a] w fun e w' => e = .returned (.bool (sokF m b t a)) ∧ w = w' := by
  unfold sokF
  cases h1 : (decide (0 ≤ m) && decide (m ≤ 200)) with
  | false =>
    go_enter Try.func46, Try.ntmps46
    go_wp2_with fail
    refine (l1In_any _ _ _ _).mono ?_; rintro e w1 ⟨rfl, rfl⟩
    rw [h1]
    go_wp2
    go_ret
    exact ⟨rfl, rfl⟩
  | true =>
    cases h2 : (decide (1 ≤ b) && decide (b ≤ 200)) with
    | false =>
      go_enter Try.func46, Try.ntmps46
      go_wp2_with fail
      refine (l1In_any _ _ _ _).mono ?_; rintro e w1 ⟨rfl, rfl⟩
      rw [h1]
      go_wp2_with fail
      refine (l1In_any _ _ _ _).mono ?_; rintro e w1 ⟨rfl, rfl⟩
      rw [h2]
      go_wp2
      go_ret
      exact ⟨rfl, rfl⟩
    | true =>
      cases h3 : (decide (0 ≤ t) && decide (t ≤ 200)) with
      | false =>
        go_enter Try.func46, Try.ntmps46
        go_wp2_with fail
        refine (l1In_any _ _ _ _).mono ?_; rintro e w1 ⟨rfl, rfl⟩
        rw [h1]
        go_wp2_with fail
        refine (l1In_any _ _ _ _).mono ?_; rintro e w1 ⟨rfl, rfl⟩
        rw [h2]
        go_wp2_with fail
        refine (l1In_any _ _ _ _).mono ?_; rintro e w1 ⟨rfl, rfl⟩
        rw [h3]
        go_wp2
        go_ret
        exact ⟨rfl, rfl⟩
      | true =>
        go_enter Try.func46, Try.ntmps46
        go_wp2_with fail
        refine (l1In_any _ _ _ _).mono ?_; rintro e w1 ⟨rfl, rfl⟩
        rw [h1]
        go_wp2_with fail
        refine (l1In_any _ _ _ _).mono ?_; rintro e w1 ⟨rfl, rfl⟩
        rw [h2]
        go_wp2_with fail
        refine (l1In_any _ _ _ _).mono ?_; rintro e w1 ⟨rfl, rfl⟩
        rw [h3]
        go_wp2_with fail
        refine (l1In_any _ _ _ _).mono ?_; rintro e w1 ⟨rfl, rfl⟩
        go_wp2
        go_ret
        exact ⟨ret_bool (by simp), rfl⟩

theorem div_castN (a b : Nat) : (a : Int).tdiv (b : Int) = ((a / b : Nat) : Int) := by rw [Int.tdiv_eq_ediv_of_nonneg (by omega)]; simp

theorem mod_castN (a b : Nat) : (a : Int).tmod (b : Int) = ((a % b : Nat) : Int) := by rw [Int.tmod_eq_emod_of_nonneg (by omega)]; simp

set_option maxHeartbeats 2000000 in
theorem specSumOneByOne_any (m b t a : Int) (w : World) :
    Calls Try.prog 17 #[.int .i64 m, .int .i64 b, .int .i64 t, .int .i64 a] w fun e w' => e = .returned (.int .i64 (sumG m b t a)) ∧ Below w.heap.size w w' := by
  cases ho : sokF m b t a with
  | false =>
    rw [sumG_no ho]
    go_enter Try.func17, Try.ntmps17
    go_wp2_with fail
    refine (l10Ok_any _ _ _ _ _).mono ?_; rintro e w1 ⟨rfl, rfl⟩
    rw [ho]
    go_wp2
    go_ret
    exact ⟨rfl, Below.refl _ _⟩
  | true =>
    obtain ⟨M, B, T, A, rfl, rfl, rfl, rfl, h1, h2, h3, h4, h5, hs⟩ := sok_nat ho
    rw [hs]
    have HL : Hid (∀ k, k ≤ M → fsum k B T A ≤ 8080000) := fun k hk => by have := fsum_le (B := B) h4 h5 k (by omega); omega
    have HSu : Hid (∀ k, ((fsum (k + 1) B T A : Nat) : Int) = ((fsum k B T A : Nat) : Int) + (((T * k + A) / B : Nat) : Int)) := fun k => by rw [fsum_succ]; omega
    have H0 : Hid (((fsum 0 B T A : Nat) : Int) = 0) := rfl
    have hB0 : ¬ (B : Int) = 0 := by omega
    clear hs
    go_enter Try.func17, Try.ntmps17
    go_wp2_with fail
    refine (l10Ok_any _ _ _ _ _).mono ?_; rintro e w1 ⟨rfl, rfl⟩
    rw [ho]
    clear ho
    go_wp2_with fail
    go_loopw [9, 10] (fun x y wr => ∃ k q : Nat, x = .int .i64 ((fsum k B T A : Nat) : Int) ∧ y = .int .i64 k ∧ k ≤ M ∧ wr = w.drewN q) (fun _ y _ => M - (intOf y).toNat)
    case atStart => exact ⟨0, 0, by rw [H0.out], rfl, by omega, rfl⟩
    case round =>
      obtain ⟨k, q, rfl, rfl, hk, rfl⟩ := hrel
      by_cases hkm : k < M
      · have hkm' : (k : Int) < M := by omega
        have hl := HL.out k hk
        have hS := Lib.hid (HSu.out k)
        have p0 : T * k ≤ 200 * 200 := Nat.mul_le_mul h4 (by omega)
        have hw1 : IntKind.i64.wrap ((T : Int) * (k : Int)) = ((T * k : Nat) : Int) := by rw [Int.natCast_mul]; exact IntWalk.i64_in _ (by rw [← Int.natCast_mul]; omega)
        have e1 : (T : Int) * (k : Int) = ((T * k : Nat) : Int) := (Int.natCast_mul _ _).symm
        have hd : (T * k + A) / B ≤ 40200 := Nat.le_trans (Nat.div_le_self _ _) (by omega)
        have e3 := div_castN (T * k + A) B
        have e4 : ((T * k + A : Nat) : Int) / (B : Int) = (((T * k + A) / B : Nat) : Int) := by simp
        generalize hP : T * k = P at *
        have e2 : (P : Int) + (A : Int) = ((P + A : Nat) : Int) := by omega
        have hw2 : IntKind.i64.wrap ((P : Int) + (A : Int)) = ((P + A : Nat) : Int) := by rw [e2]; exact IntWalk.i64_in _ (by omega)
        generalize P + A = P2 at *
        generalize P2 / B = D at *
        generalize fsum k B T A = F at *
        have hw3 : IntKind.i64.wrap ((F : Int) + (D : Int)) = (F : Int) + (D : Int) := IntWalk.i64_in _ (by omega)
        clear hP
        go_wp2_with fail
        try go_quiet (fail)
        go_wp2_with fail
        go_roundw
        case rel => first | exact ⟨k + 1, q + nq, by rw [hS.out], by go_num, by omega, by simp⟩ | exact ⟨k + 1, q, by rw [hS.out], by go_num, by omega, rfl⟩
        case measure => simp only [intOf]; omega
      · have hkm' : decide ((k : Int) < M) = false := by simp; omega
        obtain rfl : k = M := by omega
        go_wp2
        go_ret
        exact ⟨rfl, below_drewN (Below.refl _ _) q⟩

/-- one round of the rule -/
theorem rule_round {M B T A S X : Nat} (hB : 1 ≤ B) (hM : M ≤ 200) (hB2 : B ≤ 200) (hT : T ≤ 200) (hA : A ≤ 200) (hX : S + fsum M B T A = X) :
    T / B ≤ 200 ∧ A / B ≤ 200 ∧ M * (M - 1) / 2 ≤ 20000 ∧ T / B * (M * (M - 1) / 2) ≤ 4000000 ∧ A / B * M ≤ 40000 ∧ T % B < B ∧ A % B < B ∧ T % B * M ≤ 40000 ∧
    (T % B * M + A % B) / B ≤ M ∧ (T % B * M + A % B) % B < B ∧ S + T / B * (M * (M - 1) / 2) + A / B * M ≤ X ∧
    (T % B = 0 → S + T / B * (M * (M - 1) / 2) + A / B * M = X) ∧
    (T % B ≠ 0 → S + T / B * (M * (M - 1) / 2) + A / B * M + fsum ((T % B * M + A % B) / B) (T % B) B ((T % B * M + A % B) % B) = X) := by
  have hst := fsum_step hB M T A
  have q1 : T / B ≤ 200 := Nat.le_trans (Nat.div_le_self _ _) hT
  have q2 : A / B ≤ 200 := Nat.le_trans (Nat.div_le_self _ _) hA
  have t1 : M * (M - 1) ≤ 200 * 200 := Nat.mul_le_mul hM (by omega)
  have t2 : M * (M - 1) / 2 ≤ 20000 := by omega
  have m1 := Nat.mod_lt T hB
  have m2 := Nat.mod_lt A hB
  have m3 := Nat.mod_lt (T % B * M + A % B) hB
  have u1 : T / B * (M * (M - 1) / 2) ≤ 200 * 20000 := Nat.mul_le_mul q1 t2
  have u2 : A / B * M ≤ 200 * 200 := Nat.mul_le_mul q2 hM
  have u3 : T % B * M ≤ 200 * 200 := Nat.mul_le_mul (by omega) hM
  have v : (T % B * M + A % B) / B ≤ M := by
    have : T % B * M ≤ (B - 1) * M := Nat.mul_le_mul_right M (by omega)
    have e : (B - 1) * M + M = B * M := by rw [Nat.sub_mul, Nat.one_mul]; exact Nat.sub_add_cancel (Nat.le_mul_of_pos_left M hB)
    have : (T % B * M + A % B) / B < M + 1 := by
      rw [Nat.div_lt_iff_lt_mul hB, Nat.add_mul, Nat.one_mul, Nat.mul_comm M B]
      omega
    omega
  refine ⟨q1, q2, t2, by omega, by omega, m1, m2, by omega, v, m3, ?_, fun h => ?_, fun h => ?_⟩
  · by_cases c : T % B = 0
    · rw [if_pos c] at hst; omega
    · rw [if_neg c] at hst; omega
  · rw [if_pos h] at hst; omega
  · rw [if_neg h] at hst; omega

set_option maxHeartbeats 4000000 in
theorem specSumByRule_any (m b t a : Int) (w : World) :
    Calls Try.prog 22 #[.int .i64 m, .int .i64 b, .int .i64 t, .int .i64 a] w fun e w' => e = .returned (.int .i64 (sumG m b t a)) ∧ Below w.heap.size w w' := by
  cases ho : sokF m b t a with
  | false =>
    rw [sumG_no ho]
    go_enter Try.func22, Try.ntmps22
    go_wp2_with fail
    refine (l10Ok_any _ _ _ _ _).mono ?_; rintro e w1 ⟨rfl, rfl⟩
    rw [ho]
    go_wp2
    go_ret
    exact ⟨rfl, Below.refl _ _⟩
  | true =>
    obtain ⟨M, B, T, A, rfl, rfl, rfl, rfl, h1, h2, h3, h4, h5, hs⟩ := sok_nat ho
    rw [hs]
    have hX : fsum M B T A ≤ 8080000 := by have := fsum_le (B := B) h4 h5 M (by omega); omega
    obtain ⟨X, hXe⟩ : ∃ X, fsum M B T A = X := ⟨_, rfl⟩
    rw [hXe] at hX ⊢
    have HX0 : Hid (0 + fsum M B T A = X) := by show _ = _; omega
    clear hs hXe
    go_enter Try.func22, Try.ntmps22
    go_wp2_with fail
    refine (l10Ok_any _ _ _ _ _).mono ?_; rintro e w1 ⟨rfl, rfl⟩
    rw [ho]
    clear ho
    go_wp2_with fail
    go_loopw [0, 1, 2, 3, 9] (fun x0 x1 x2 x3 x4 wr => ∃ M B T A S q : Nat, x0 = .int .i64 M ∧ x1 = .int .i64 B ∧ x2 = .int .i64 T ∧ x3 = .int .i64 A ∧ x4 = .int .i64 S ∧ M ≤ 200 ∧ 1 ≤ B ∧ B ≤ 200 ∧ T ≤ 200 ∧ A ≤ 200 ∧ Hid (S + fsum M B T A = X) ∧ wr = w.drewN q) (fun _ x1 _ _ _ _ => (intOf x1).toNat)
    case atStart => exact ⟨M, B, T, A, 0, 0, rfl, rfl, rfl, rfl, rfl, h1, h2, h3, h4, h5, HX0, rfl⟩
    case round =>
      clear HX0 h1 h2 h3 h4 h5
      obtain ⟨M, B, T, A, S, q, rfl, rfl, rfl, rfl, rfl, h1, h2, h3, h4, h5, hS, rfl⟩ := hrel
      by_cases hM : 0 < M
      · have hM' : (0 : Int) < M := by omega
        obtain ⟨r1, r2, r3, r4, r5, r6, r7, r8, r9, r10, r11, r12, r13⟩ := rule_round h2 h1 h3 h4 h5 hS.out
        have H12 := Lib.hid r12
        have H13 := Lib.hid r13
        have hB0 : ¬ (B : Int) = 0 := by omega
        have d1 := div_castN T B
        have d1' : (T : Int) / (B : Int) = ((T / B : Nat) : Int) := by simp
        have d2 := div_castN A B
        have d2' : (A : Int) / (B : Int) = ((A / B : Nat) : Int) := by simp
        have d3 := mod_castN T B
        have d3' : (T : Int) % (B : Int) = ((T % B : Nat) : Int) := by simp
        have d4 := mod_castN A B
        have d4' : (A : Int) % (B : Int) = ((A % B : Nat) : Int) := by simp
        have w0 : IntKind.i64.wrap ((M : Int) - 1) = ((M - 1 : Nat) : Int) := by rw [show (M : Int) - 1 = ((M - 1 : Nat) : Int) by omega]; exact IntWalk.i64_in _ (by omega)
        have e0 : (M : Int) * ((M - 1 : Nat) : Int) = ((M * (M - 1) : Nat) : Int) := (Int.natCast_mul _ _).symm
        have t0 : M * (M - 1) ≤ 200 * 200 := Nat.mul_le_mul h1 (by omega)
        have w1 : IntKind.i64.wrap ((M : Int) * ((M - 1 : Nat) : Int)) = ((M * (M - 1) : Nat) : Int) := by rw [e0]; exact IntWalk.i64_in _ (by omega)
        have d5 : ((M * (M - 1) : Nat) : Int).tdiv 2 = ((M * (M - 1) / 2 : Nat) : Int) := div_castN (M * (M - 1)) 2
        have d5' : ((M * (M - 1) : Nat) : Int) / 2 = ((M * (M - 1) / 2 : Nat) : Int) := by simp
        have w2 : IntKind.i64.wrap (((T / B : Nat) : Int) * ((M * (M - 1) / 2 : Nat) : Int)) = ((T / B * (M * (M - 1) / 2) : Nat) : Int) := by rw [← Int.natCast_mul]; exact IntWalk.i64_in _ (by omega)
        have w3 : IntKind.i64.wrap (((A / B : Nat) : Int) * (M : Int)) = ((A / B * M : Nat) : Int) := by rw [← Int.natCast_mul]; exact IntWalk.i64_in _ (by omega)
        have w4 : IntKind.i64.wrap (((T % B : Nat) : Int) * (M : Int)) = ((T % B * M : Nat) : Int) := by rw [← Int.natCast_mul]; exact IntWalk.i64_in _ (by omega)
        have w5 : IntKind.i64.wrap (((T % B * M : Nat) : Int) + ((A % B : Nat) : Int)) = ((T % B * M + A % B : Nat) : Int) := by rw [← Int.natCast_add]; exact IntWalk.i64_in _ (by omega)
        have d6 := div_castN (T % B * M + A % B) B
        have d6' : ((T % B * M + A % B : Nat) : Int) / (B : Int) = (((T % B * M + A % B) / B : Nat) : Int) := by simp
        have d7 := mod_castN (T % B * M + A % B) B
        have d7' : ((T % B * M + A % B : Nat) : Int) % (B : Int) = (((T % B * M + A % B) % B : Nat) : Int) := by simp
        generalize (T % B * M + A % B) / B = M2 at *
        generalize (T % B * M + A % B) % B = A2 at *
        generalize T % B * M + A % B = most at *
        generalize T % B * M = tm at *
        generalize T / B * (M * (M - 1) / 2) = p1 at *
        generalize A / B * M = p2 at *
        generalize T / B = q1 at *
        generalize A / B = q2 at *
        generalize M * (M - 1) / 2 = tri at *
        generalize M * (M - 1) = mm at *
        generalize T % B = T1 at *
        generalize A % B = A1 at *
        generalize M - 1 = M1 at *
        have w6 : IntKind.i64.wrap ((S : Int) + (p1 : Int)) = ((S + p1 : Nat) : Int) := by rw [← Int.natCast_add]; exact IntWalk.i64_in _ (by omega)
        have w7 : IntKind.i64.wrap (((S + p1 : Nat) : Int) + (p2 : Int)) = ((S + p1 + p2 : Nat) : Int) := by rw [← Int.natCast_add]; exact IntWalk.i64_in _ (by omega)
        generalize S + p1 + p2 = S2 at *
        generalize S + p1 = S1 at *
        clear r12 r13 hS
        by_cases hz : T1 = 0
        · have hz' : ((T1 : Int) == 0) = true := by simp; omega
          have hfin := Lib.hid (H12.out hz)
          subst hz
          go_wp2_with fail
          try go_quiet (fail)
          go_wp2
          go_ret
          exact ⟨ret_int (by rw [hfin.out]), by first | exact below_drewN (Below.refl _ _) _ | exact below_drewN (below_drewN (Below.refl _ _) _) _⟩
        · have hz' : ((T1 : Int) == 0) = false := by simp; omega
          have hfin := Lib.hid (H13.out hz)
          go_wp2_with fail
          try go_quiet (fail)
          go_wp2_with fail
          go_roundw
          case rel => first | exact ⟨M2, T1, B, A2, S2, q, rfl, rfl, rfl, rfl, rfl, by omega, by omega, by omega, by omega, by omega, hfin.out, rfl⟩ | exact ⟨M2, T1, B, A2, S2, q + nq, rfl, rfl, rfl, rfl, rfl, by omega, by omega, by omega, by omega, by omega, hfin.out, by simp⟩
          case measure => simp only [intOf]; omega
      · have hM' : decide ((0 : Int) < M) = false := by simp; omega
        obtain rfl : M = 0 := by omega
        have hfin : Hid (S = X) := by have := hS.out; rw [fsum_zero] at this; exact this
        go_wp2
        go_ret
        exact ⟨ret_int (by rw [hfin.out]), below_drewN (Below.refl _ _) _⟩

set_option maxHeartbeats 4000000 in
theorem specPointsUnder_any (m b t a : Int) (w : World) :
    Calls Try.prog 24 #[.int .i64 m, .int .i64 b, .int .i64 t, .int .i64 a] w fun e w' => e = .returned (.int .i64 (sumG m b t a)) ∧ Below w.heap.size w w' := by
  cases ho : sokF m b t a with
  | false =>
    rw [sumG_no ho]
    go_enter Try.func24, Try.ntmps24
    go_wp2_with fail
    refine (l10Ok_any _ _ _ _ _).mono ?_; rintro e w1 ⟨rfl, rfl⟩
    rw [ho]
    go_wp2
    go_ret
    exact ⟨rfl, Below.refl _ _⟩
  | true =>
    obtain ⟨M, B, T, A, rfl, rfl, rfl, rfl, h1, h2, h3, h4, h5, hs⟩ := sok_nat ho
    rw [hs]
    have HL : Hid (∀ k, k ≤ M → fsum k B T A ≤ 8080000) := fun k hk => by have := fsum_le (B := B) h4 h5 k (by omega); omega
    have HSu : Hid (∀ k, fsum (k + 1) B T A = fsum k B T A + (T * k + A) / B) := fun k => fsum_succ k B T A
    have H0 : Hid (fsum 0 B T A = 0) := rfl
    clear hs
    go_enter Try.func24, Try.ntmps24
    go_wp2_with fail
    refine (l10Ok_any _ _ _ _ _).mono ?_; rintro e w1 ⟨rfl, rfl⟩
    rw [ho]
    clear ho
    go_wp2_with fail
    go_loopw [9, 10] (fun x y wr => ∃ k : Nat, x = .int .i64 ((fsum k B T A : Nat) : Int) ∧ y = .int .i64 k ∧ k ≤ M ∧ wr = w) (fun _ y _ => M - (intOf y).toNat)
    case atStart => exact ⟨0, by rw [H0.out]; rfl, rfl, by omega, rfl⟩
    case round =>
      obtain ⟨k, rfl, rfl, hk, rfl⟩ := hrel
      by_cases hkm : k < M
      · have hkm' : (k : Int) < M := by omega
        have hl := HL.out k hk
        have hS := Lib.hid (HSu.out k)
        have p0 : T * k ≤ 200 * 200 := Nat.mul_le_mul h4 (by omega)
        have hd : (T * k + A) / B ≤ 40200 := Nat.le_trans (Nat.div_le_self _ _) (by omega)
        have hcol : Hid (∀ h, h * B ≤ T * k + A ↔ h ≤ (T * k + A) / B) := column_count (by omega) (T * k + A)
        have hw1 : IntKind.i64.wrap ((T : Int) * (k : Int)) = ((T * k : Nat) : Int) := by rw [← Int.natCast_mul]; exact IntWalk.i64_in _ (by omega)
        have hw2 : IntKind.i64.wrap (((T * k : Nat) : Int) + (A : Int)) = ((T * k + A : Nat) : Int) := by rw [← Int.natCast_add]; exact IntWalk.i64_in _ (by omega)
        generalize hQ : (T * k + A) / B = Q at *
        generalize T * k + A = P2 at *
        generalize T * k = P at *
        generalize fsum k B T A = F at *
        clear hQ
        go_wp2_with fail
        go_loopw [9, 11] (fun x y wx => ∃ j : Nat, x = .int .i64 ((F + j : Nat) : Int) ∧ y = .int .i64 (((j + 1) * B : Nat) : Int) ∧ j ≤ Q ∧ wx = wr) (fun x _ _ => F + Q - (intOf x).toNat)
        case atStart => exact ⟨0, rfl, by simp, by omega, rfl⟩
        case round =>
          obtain ⟨j, rfl, rfl, hj, rfl⟩ := hrel
          have hc := hcol.out (j + 1)
          have hB1 : (j + 1) * B ≤ 40201 * 200 := Nat.mul_le_mul (by omega) h3
          have hnx : (j + 1 + 1) * B = (j + 1) * B + B := by rw [Nat.add_mul (j + 1) 1 B, Nat.one_mul]
          have HN := Lib.hid hnx
          generalize (j + 1) * B = H at *
          have hw3 : IntKind.i64.wrap ((H : Int) + (B : Int)) = ((H + B : Nat) : Int) := by rw [← Int.natCast_add]; exact IntWalk.i64_in _ (by omega)
          have hw4 : IntKind.i64.wrap (((F + j : Nat) : Int) + 1) = ((F + j + 1 : Nat) : Int) := by rw [show ((F + j : Nat) : Int) + 1 = ((F + j + 1 : Nat) : Int) by omega]; exact IntWalk.i64_in _ (by omega)
          by_cases hle : H ≤ P2
          · have hle' : (H : Int) ≤ P2 := by omega
            have hjQ := hc.1 hle
            clear hnx hc
            go_wp2_with fail
            go_roundw
            case rel => exact ⟨j + 1, by rw [show ((F + (j + 1) : Nat) : Int) = (F : Int) + (j : Int) + 1 by omega], by rw [HN.out, Int.natCast_add], by omega, by trivial⟩
            case measure => simp only [intOf]; omega
          · have hle' : decide ((H : Int) ≤ P2) = false := by simp; omega
            have hjQ : j = Q := by
              have : ¬ j + 1 ≤ Q := fun h => hle (hc.2 h)
              omega
            subst hjQ
            clear hnx hc
            go_wp2_with fail
            go_roundw
            case rel => exact ⟨k + 1, by rw [hS.out], by go_num, by omega, by trivial⟩
            case measure => simp only [intOf]; omega
      · have hkm' : decide ((k : Int) < M) = false := by simp; omega
        obtain rfl : k = M := by omega
        go_wp2
        go_ret
        exact ⟨rfl, Below.refl _ _⟩
end Go.Proofs.Ytdkcodinlegheaa
