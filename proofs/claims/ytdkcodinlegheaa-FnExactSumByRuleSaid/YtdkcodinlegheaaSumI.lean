/- Contracts of chapter 10's functions of the program: sums of divisions. -/
import Derived.Test.YtdkcodinlegheaaSumR
import Derived.Test.YtdkcodinlegheaaOne
set_option linter.unusedVariables false
namespace Go.Proofs.Ytdkcodinlegheaa

set_option maxRecDepth 4000
open Go.ChangeShapes Go.WideShapes Go.ChangeAt Go.RowKit Go.Joins

/-- the builtins of three and of four numbers -/
theorem run_min3 {P : Program} (w : World) (ts : Array TypeId) (t : TypeId) (x y z : Int) :
    (Builtin.min_ ts t #[.int .i64 x, .int .i64 y, .int .i64 z]).run P w = .ok (.int .i64 (min (min x y) z)) w := by
  have e : ∀ x y : Int, (if y < x then y else x) = min x y := fun x y => by rw [Int.min_def]; split <;> split <;> omega
  simp [Builtin.min_, Builtin.min2, e]

theorem run_max4 {P : Program} (w : World) (ts : Array TypeId) (t : TypeId) (x y z u : Int) :
    (Builtin.max_ ts t #[.int .i64 x, .int .i64 y, .int .i64 z, .int .i64 u]).run P w = .ok (.int .i64 (max (max (max x y) z) u)) w := by
  have e : ∀ x y : Int, (if x < y then y else x) = max x y := fun x y => by rw [Int.max_def]; split <;> split <;> omega
  simp [Builtin.max_, Builtin.max2, e]

set_option maxHeartbeats 1000000 in
theorem sumOk_any (m b t a : Int) (w : World) :
    Calls Try.prog 43 #[.int .i64 m, .int .i64 b, .int .i64 t, .int .i64 a] w fun e w' => e = .returned (.bool (sokF m b t a)) ∧ Below w.heap.size w w' := by
  have hB0 := Below.refl w.heap.size w
  have hmin := fun ts ty (w : World) => run_min3 (P := Try.prog) w ts ty m t a
  have hmax := fun ts ty (w : World) => run_max4 (P := Try.prog) w ts ty m b t a
  have h : sokF m b t a = (decide (0 ≤ min (min m t) a) && decide (1 ≤ b) && decide (max (max (max m b) t) a ≤ 200)) := by
    rw [Bool.eq_iff_iff, sok_iff]
    simp only [Bool.and_eq_true, decide_eq_true_eq]
    omega
  rw [h]
  clear h
  generalize min (min m t) a = mn at *
  generalize max (max (max m b) t) a = mx at *
  by_cases h1 : 0 ≤ mn
  · by_cases h2 : 1 ≤ b
    · by_cases h3 : mx ≤ 200
      · rw [decide_eq_true h1, decide_eq_true h2, decide_eq_true h3]
        go_enter Try.func43, Try.ntmps43
        go_wp2
        go_ret
        exact ⟨rfl, hB0⟩
      · have h3' : decide (mx ≤ 200) = false := by simpa using h3
        rw [decide_eq_true h1, decide_eq_true h2, h3']
        go_enter Try.func43, Try.ntmps43
        go_wp2
        go_ret
        exact ⟨rfl, hB0⟩
    · have h2' : decide (1 ≤ b) = false := by simpa using h2
      rw [decide_eq_true h1, h2']
      go_enter Try.func43, Try.ntmps43
      go_wp2
      go_ret
      exact ⟨rfl, hB0⟩
  · have h1' : decide (0 ≤ mn) = false := by simpa using h1
    rw [h1']
    go_enter Try.func43, Try.ntmps43
    go_wp2
    go_ret
    exact ⟨rfl, hB0⟩

/-- three blocks of one number each -/
theorem three_ones (x y z : Int) (w : World) : ∃ W, W = ((w.alloc (.cells #[.int .i64 x] 3)).alloc (.cells #[.int .i64 y] 3)).alloc (.cells #[.int .i64 z] 3) ∧
    One W w.heap.size (.int .i64 x) 3 ∧ One W (w.heap.size + 1) (.int .i64 y) 3 ∧ One W (w.heap.size + 1 + 1) (.int .i64 z) 3 ∧ Below w.heap.size w W := by
  refine ⟨_, rfl, ?_, ?_, ?_, ?_⟩
  · exact ((One.new _ _ _).alloc _).alloc _
  · have h := (One.new (w.alloc (.cells #[.int .i64 x] 3)) (.int .i64 y) 3).alloc (.cells #[.int .i64 z] 3)
    have e : (w.alloc (.cells #[.int .i64 x] 3)).heap.size = w.heap.size + 1 := by simp
    rwa [e] at h
  · have h := One.new ((w.alloc (.cells #[.int .i64 x] 3)).alloc (.cells #[.int .i64 y] 3)) (.int .i64 z) 3
    have e : ((w.alloc (.cells #[.int .i64 x] 3)).alloc (.cells #[.int .i64 y] 3)).heap.size = w.heap.size + 1 + 1 := by simp
    rwa [e] at h
  · exact (by repeat (first | exact Below.refl _ _ | assumption | (refine Below.trans ?_ (Below.mono (by assumption) (by first | omega | (simp <;> omega)))) | (refine Below.alloc ?_ (by first | omega | (simp <;> omega)) _) | (refine below_drewN ?_ _) | (refine Below.drew ?_) | (refine Below.setCell ?_ (by first | omega | (simp <;> omega)) _)))

set_option maxHeartbeats 1000000 in
theorem sum1_any (B T A k : Nat) (w : World) (p q r : Nat) (hk : k ≤ 200) (hB : 1 ≤ B) (hT : T ≤ 200) (hA : A ≤ 200)
    (hb : One w p (.int .i64 (B : Nat)) 3) (ht : One w q (.int .i64 (T : Nat)) 3) (ha : One w r (.int .i64 (A : Nat)) 3) :
    Calls Try.prog 45 #[.int .i64 k, .pointer (some ⟨q, 0, none⟩), .pointer (some ⟨r, 0, none⟩), .pointer (some ⟨p, 0, none⟩)] w fun e w' => e = .returned (.int .i64 (((T * k + A) / B : Nat) : Int)) ∧ Below w.heap.size w w' := by
  have hB0 := Below.refl w.heap.size w
  have c0 := hb.cell
  have c1 := ht.cell
  have c2 := ha.cell
  have p0 : T * k ≤ 200 * 200 := Nat.mul_le_mul hT hk
  have hw1 : IntKind.i64.wrap ((k : Int) * (T : Int)) = ((T * k : Nat) : Int) := by rw [Int.mul_comm, ← Int.natCast_mul]; exact IntWalk.i64_in _ (by omega)
  have hd : (T * k + A) / B ≤ 40200 := Nat.le_trans (Nat.div_le_self _ _) (by omega)
  have e3 := div_castN (T * k + A) B
  have e4 : ((T * k + A : Nat) : Int) / (B : Int) = (((T * k + A) / B : Nat) : Int) := by simp
  have hB1 : ¬ (B : Int) = 0 := by omega
  generalize T * k = P at *
  have hw2 : IntKind.i64.wrap ((P : Int) + (A : Int)) = ((P + A : Nat) : Int) := by rw [← Int.natCast_add]; exact IntWalk.i64_in _ (by omega)
  generalize P + A = P2 at *
  generalize P2 / B = D at *
  clear hb ht ha
  go_enter Try.func45, Try.ntmps45
  go_wp2
  go_ret
  exact ⟨rfl, hB0⟩

set_option maxHeartbeats 1000000 in
theorem sumDiv_any (M B T A : Nat) (w : World) (p q r : Nat) (hM : M ≤ 200) (hB : 1 ≤ B) (hT : T ≤ 200) (hA : A ≤ 200)
    (hb : One w p (.int .i64 (B : Nat)) 3) (ht : One w q (.int .i64 (T : Nat)) 3) (ha : One w r (.int .i64 (A : Nat)) 3) :
    Calls Try.prog 44 #[.int .i64 M, .func (.func 45) #[] #[.pointer (some ⟨q, 0, none⟩), .pointer (some ⟨r, 0, none⟩), .pointer (some ⟨p, 0, none⟩)]] w fun e w' => e = .returned (.int .i64 ((fsum M B T A : Nat) : Int)) ∧ Below w.heap.size w w' := by
  have HV := Lib.hid (fun (k : Nat) (wr : World) (hk : k ≤ 200) (hB' : Below w.heap.size w wr) => sum1_any B T A k wr p q r hk hB hT hA (hb.below hB' hb.lt) (ht.below hB' ht.lt) (ha.below hB' ha.lt))
  have HL : Hid (∀ k, k ≤ M → fsum k B T A ≤ 8080000) := fun k hk => by have := fsum_le (B := B) hT hA k (by omega); omega
  have HD : Hid (∀ k, k ≤ M → (T * k + A) / B ≤ 40200) := fun k hk => by
    have p0 : T * k ≤ 200 * 200 := Nat.mul_le_mul hT (by omega)
    exact Nat.le_trans (Nat.div_le_self _ _) (by omega)
  have HSu : Hid (∀ k, ((fsum (k + 1) B T A : Nat) : Int) = ((fsum k B T A : Nat) : Int) + (((T * k + A) / B : Nat) : Int)) := fun k => by rw [fsum_succ]; omega
  have H0 : Hid (((fsum 0 B T A : Nat) : Int) = 0) := rfl
  have hB0 := Below.refl w.heap.size w
  clear hb ht ha
  go_enter Try.func44, Try.ntmps44
  go_wp2_with fail
  go_loopw [5, 8] (fun x y wr => ∃ k : Nat, x = .int .i64 ((fsum k B T A : Nat) : Int) ∧ y = .int .i64 k ∧ k ≤ M ∧ Below w.heap.size w wr) (fun _ y _ => M - (intOf y).toNat)
  case atStart => exact ⟨0, by rw [H0.out], rfl, by omega, hB0⟩
  case round =>
    obtain ⟨k, rfl, rfl, hk, hB'⟩ := hrel
    by_cases hkm : k < M
    · have hkm' : (k : Int) < M := by omega
      have hl := HL.out k hk
      have hd := HD.out k hk
      have hS := Lib.hid (HSu.out k)
      have hcall := HV.out k wr (by omega) hB'
      generalize (T * k + A) / B = d at *
      generalize fsum k B T A = F at *
      have hw3 : IntKind.i64.wrap ((F : Int) + (d : Int)) = (F : Int) + (d : Int) := IntWalk.i64_in _ (by omega)
      go_wp2_with fail
      refine hcall.mono ?_; rintro e w2 ⟨rfl, hb2⟩
      have hB2 := hB'.trans (hb2.mono hB'.size)
      clear hb2 hcall hB'
      go_wp2_with fail
      go_roundw
      case rel => exact ⟨k + 1, by rw [hS.out], by go_num, by omega, hB2⟩
      case measure => simp only [intOf]; omega
    · have hkm' : decide ((k : Int) < M) = false := by simp; omega
      obtain rfl : k = M := by omega
      go_wp2
      go_ret
      exact ⟨rfl, hB'⟩

set_option maxHeartbeats 2000000 in
theorem sumOneByOne_any (m b t a : Int) (w : World) :
    Calls Try.prog 16 #[.int .i64 m, .int .i64 b, .int .i64 t, .int .i64 a] w fun e w' => e = .returned (.int .i64 (sumG m b t a)) ∧ Below w.heap.size w w' := by
  obtain ⟨W, hW, tb, tt, ta, hB⟩ := three_ones b t a w
  have c0 := tb.cell
  have c1 := tt.cell
  have c2 := ta.cell
  have U1 := Lib.hid (sumOk_any m b t a)
  cases ho : sokF m b t a with
  | false =>
    rw [sumG_no ho]
    rw [ho] at U1
    go_enter Try.func16, Try.ntmps16
    go_wp2_with fail
    rw [← hW]
    clear hW
    refine (U1.out _).mono ?_; rintro e w1 ⟨rfl, hb1⟩
    have hB1 := hB.trans (hb1.mono hB.size)
    go_wp2
    go_ret
    exact ⟨rfl, hB1⟩
  | true =>
    rw [ho] at U1
    obtain ⟨M, B, T, A, rfl, rfl, rfl, rfl, h1, h2, h3, h4, h5, hs⟩ := sok_nat ho
    have HS := Lib.hid (fun (w : World) p q r => sumDiv_any M B T A w p q r h1 h2 h4 h5)
    rw [hs]
    clear ho hs
    go_enter Try.func16, Try.ntmps16
    go_wp2_with fail
    rw [← hW]
    clear hW
    refine (U1.out _).mono ?_; rintro e w1 ⟨rfl, hb1⟩
    have hB1 := hB.trans (hb1.mono hB.size)
    have tb1 := tb.below hb1 tb.lt
    have tt1 := tt.below hb1 tt.lt
    have ta1 := ta.below hb1 ta.lt
    clear hb1 hB tb tt ta c0 c1 c2
    go_wp2_with fail
    refine (HS.out _ _ _ _ tb1 tt1 ta1).mono ?_; rintro e w2 ⟨rfl, hb2⟩
    have hB2 := hB1.trans (hb2.mono hB1.size)
    go_wp2
    go_ret
    exact ⟨rfl, hB2⟩

set_option maxHeartbeats 4000000 in
theorem sumByRule_any (m b t a : Int) (w : World) :
    Calls Try.prog 19 #[.int .i64 m, .int .i64 b, .int .i64 t, .int .i64 a] w fun e w' => e = .returned (.int .i64 (sumG m b t a)) ∧ Below w.heap.size w w' := by
  have U1 := Lib.hid (sumOk_any m b t a w)
  have hB0 := Below.refl w.heap.size w
  cases ho : sokF m b t a with
  | false =>
    rw [sumG_no ho]
    rw [ho] at U1
    go_enter Try.func19, Try.ntmps19
    go_wp2_with fail
    refine U1.out.mono ?_; rintro e w1 ⟨rfl, hb1⟩
    go_wp2
    go_ret
    exact ⟨rfl, hb1⟩
  | true =>
    rw [ho] at U1
    obtain ⟨M, B, T, A, rfl, rfl, rfl, rfl, h1, h2, h3, h4, h5, hs⟩ := sok_nat ho
    rw [hs]
    have hX : fsum M B T A ≤ 8080000 := by have := fsum_le (B := B) h4 h5 M (by omega); omega
    obtain ⟨X, hXe⟩ : ∃ X, fsum M B T A = X := ⟨_, rfl⟩
    rw [hXe] at hX ⊢
    have HX0 : Hid (0 + fsum M B T A = X) := by show _ = _; omega
    clear hs hXe ho
    go_enter Try.func19, Try.ntmps19
    go_wp2_with fail
    refine U1.out.mono ?_; rintro e w1 ⟨rfl, hb1⟩
    clear U1 hB0
    go_wp2_with fail
    go_loopw [0, 1, 2, 3, 9] (fun x0 x1 x2 x3 x4 wr => ∃ M B T A S : Nat, x0 = .int .i64 M ∧ x1 = .int .i64 B ∧ x2 = .int .i64 T ∧ x3 = .int .i64 A ∧ x4 = .int .i64 S ∧ M ≤ 200 ∧ 1 ≤ B ∧ B ≤ 200 ∧ T ≤ 200 ∧ A ≤ 200 ∧ Hid (S + fsum M B T A = X) ∧ Below w.heap.size w wr) (fun _ x1 _ _ _ _ => (intOf x1).toNat)
    case atStart => exact ⟨M, B, T, A, 0, rfl, rfl, rfl, rfl, rfl, h1, h2, h3, h4, h5, HX0, hb1⟩
    case round =>
      clear HX0 h1 h2 h3 h4 h5
      obtain ⟨M, B, T, A, S, rfl, rfl, rfl, rfl, rfl, h1, h2, h3, h4, h5, hS, hBr⟩ := hrel
      obtain ⟨⟨r1, r2, r3, r4, r5, r6, r7, r8⟩, r9, r10, r11, r12, r13⟩ := rule_roundI h2 h1 h3 h4 h5 hS.out
      have H12 := Lib.hid r12
      have H13 := Lib.hid r13
      have hBz : ¬ (B : Int) = 0 := by omega
      have d1 := div_castN T B
      have d1' : (T : Int) / (B : Int) = ((T / B : Nat) : Int) := by simp
      have d2 := div_castN A B
      have d2' : (A : Int) / (B : Int) = ((A / B : Nat) : Int) := by simp
      have d3 := mod_castN T B
      have d3' : (T : Int) % (B : Int) = ((T % B : Nat) : Int) := by simp
      have d4 := mod_castN A B
      have d4' : (A : Int) % (B : Int) = ((A % B : Nat) : Int) := by simp
      have t0 : M * (M - 1) ≤ 200 * 200 := Nat.mul_le_mul h1 (by omega)
      have e0 : (M : Int) * ((M : Int) - 1) = ((M * (M - 1) : Nat) : Int) := by
        rw [Int.natCast_mul]
        by_cases c : M = 0
        · subst c; simp
        · rw [show ((M - 1 : Nat) : Int) = (M : Int) - 1 by omega]
      have wm1 : IntKind.i64.wrap ((M : Int) - 1) = (M : Int) - 1 := IntWalk.i64_in _ (by omega)
      have wm2 : IntKind.i64.wrap ((M : Int) * ((M : Int) - 1)) = ((M * (M - 1) : Nat) : Int) := by rw [e0]; exact IntWalk.i64_in _ (by omega)
      have d5 : ((M * (M - 1) : Nat) : Int).tdiv 2 = ((M * (M - 1) / 2 : Nat) : Int) := div_castN (M * (M - 1)) 2
      have d5' : ((M * (M - 1) : Nat) : Int) / 2 = ((M * (M - 1) / 2 : Nat) : Int) := by simp
      have w2 : IntKind.i64.wrap (((T / B : Nat) : Int) * ((M * (M - 1) / 2 : Nat) : Int)) = ((T / B * (M * (M - 1) / 2) : Nat) : Int) := by rw [← Int.natCast_mul]; exact IntWalk.i64_in _ (by omega)
      have w3 : IntKind.i64.wrap (((A / B : Nat) : Int) * (M : Int)) = ((A / B * M : Nat) : Int) := by rw [← Int.natCast_mul]; exact IntWalk.i64_in _ (by omega)
      have w4 : IntKind.i64.wrap ((M : Int) * ((T % B : Nat) : Int)) = ((M * (T % B) : Nat) : Int) := by rw [← Int.natCast_mul]; exact IntWalk.i64_in _ (by omega)
      have w5 : IntKind.i64.wrap (((M * (T % B) : Nat) : Int) + ((A % B : Nat) : Int)) = ((M * (T % B) + A % B : Nat) : Int) := by rw [← Int.natCast_add]; exact IntWalk.i64_in _ (by omega)
      have d6 := div_castN (M * (T % B) + A % B) B
      have d6' : ((M * (T % B) + A % B : Nat) : Int) / (B : Int) = (((M * (T % B) + A % B) / B : Nat) : Int) := by simp
      have d7 := mod_castN (M * (T % B) + A % B) B
      have d7' : ((M * (T % B) + A % B : Nat) : Int) % (B : Int) = (((M * (T % B) + A % B) % B : Nat) : Int) := by simp
      clear e0
      generalize (M * (T % B) + A % B) / B = M2 at *
      generalize (M * (T % B) + A % B) % B = A2 at *
      generalize M * (T % B) + A % B = most at *
      generalize M * (T % B) = tm at *
      generalize T / B * (M * (M - 1) / 2) = p1 at *
      generalize A / B * M = p2 at *
      generalize T / B = q1 at *
      generalize A / B = q2 at *
      generalize M * (M - 1) / 2 = tri at *
      generalize M * (M - 1) = mm at *
      generalize T % B = T1 at *
      generalize A % B = A1 at *
      have w6 : IntKind.i64.wrap ((p1 : Int) + (p2 : Int)) = ((p1 + p2 : Nat) : Int) := by rw [← Int.natCast_add]; exact IntWalk.i64_in _ (by omega)
      have w7 : IntKind.i64.wrap ((S : Int) + ((p1 + p2 : Nat) : Int)) = ((S + (p1 + p2) : Nat) : Int) := by rw [← Int.natCast_add]; exact IntWalk.i64_in _ (by omega)
      generalize S + (p1 + p2) = S2 at *
      generalize p1 + p2 = p3 at *
      clear r12 r13 hS
      by_cases hz : most < B
      · have hz' : (most : Int) < B := by omega
        have hfin := Lib.hid (H12.out hz)
        go_wp2_with fail
        go_quiet (fail)
        go_wp2_with fail
        go_quiet (fail)
        go_wp2
        go_ret
        exact ⟨ret_int (by rw [hfin.out]), (by repeat (first | exact Below.refl _ _ | assumption | (refine Below.trans ?_ (Below.mono (by assumption) (by first | omega | (simp <;> omega)))) | (refine Below.alloc ?_ (by first | omega | (simp <;> omega)) _) | (refine below_drewN ?_ _) | (refine Below.drew ?_) | (refine Below.setCell ?_ (by first | omega | (simp <;> omega)) _)))⟩
      · have hz' : decide ((most : Int) < B) = false := by simp; omega
        obtain ⟨hT1, hfin⟩ := H13.out hz
        have hfin := Lib.hid hfin
        go_wp2_with fail
        go_quiet (fail)
        go_wp2_with fail
        go_quiet (fail)
        go_wp2_with fail
        go_quiet (fail)
        go_wp2_with fail
        go_roundw
        case rel => exact ⟨M2, T1, B, A2, S2, rfl, rfl, rfl, rfl, rfl, by omega, by omega, by omega, by omega, by omega, hfin.out, (by repeat (first | exact Below.refl _ _ | assumption | (refine Below.trans ?_ (Below.mono (by assumption) (by first | omega | (simp <;> omega)))) | (refine Below.alloc ?_ (by first | omega | (simp <;> omega)) _) | (refine below_drewN ?_ _) | (refine Below.drew ?_) | (refine Below.setCell ?_ (by first | omega | (simp <;> omega)) _)))⟩
        case measure => simp only [intOf]; omega

set_option maxHeartbeats 4000000 in
theorem pointsUnder_any (m b t a : Int) (w : World) :
    Calls Try.prog 20 #[.int .i64 m, .int .i64 b, .int .i64 t, .int .i64 a] w fun e w' => e = .returned (.int .i64 (sumG m b t a)) ∧ Below w.heap.size w w' := by
  have U1 := Lib.hid (sumOk_any m b t a w)
  cases ho : sokF m b t a with
  | false =>
    rw [sumG_no ho]
    rw [ho] at U1
    go_enter Try.func20, Try.ntmps20
    go_wp2_with fail
    refine U1.out.mono ?_; rintro e w1 ⟨rfl, hb1⟩
    go_wp2
    go_ret
    exact ⟨rfl, hb1⟩
  | true =>
    rw [ho] at U1
    obtain ⟨M, B, T, A, rfl, rfl, rfl, rfl, h1, h2, h3, h4, h5, hs⟩ := sok_nat ho
    rw [hs]
    have hX : fsum M B T A ≤ 8080000 := by have := fsum_le (B := B) h4 h5 M (by omega); omega
    have HF : Hid (∀ f, f < M → (T * f + A) / B ≤ 40200) := fun f hf => by
      have p0 : T * f ≤ 200 * 200 := Nat.mul_le_mul h4 (by omega)
      exact Nat.le_trans (Nat.div_le_self _ _) (by omega)
    have HD : Hid (∀ j P, SweepAt M B T A j M P → P = fsum M B T A) := fun j P h => h.done
    have HN : Hid (∀ j f P, SweepAt M B T A j f P → f < M → ¬ T * f + A < (j + 1) * B → SweepAt M B T A (j + 1) f (P + (M - f)) ∧ P + (M - f) ≤ fsum M B T A ∧ j + 1 ≤ (T * f + A) / B) := fun j f P h => h.next h2
    have HT : Hid (∀ j f P, SweepAt M B T A j f P → f < M → T * f + A < (j + 1) * B → SweepAt M B T A j (f + 1) P) := fun j f P h => h.step h2
    have HLE : Hid (∀ j f P, SweepAt M B T A j f P → f ≤ M ∧ P ≤ fsum M B T A) := fun j f P h => ⟨h.le, by rw [h.cnt]; exact capS_le _ _ _⟩
    have HR : Hid (SweepAt M B T A 0 0 0) := SweepAt.first M B T A
    generalize fsum M B T A = X at *
    clear hs ho
    go_enter Try.func20, Try.ntmps20
    go_wp2_with fail
    refine U1.out.mono ?_; rintro e w1 ⟨rfl, hb1⟩
    clear U1
    go_wp2_with fail
    go_loopw [9, 10, 11] (fun x y z wr => ∃ j f P : Nat, x = .int .i64 P ∧ y = .int .i64 f ∧ z = .int .i64 (((j + 1) * B : Nat) : Int) ∧ j ≤ 40200 ∧ f ≤ M ∧ Hid (SweepAt M B T A j f P) ∧ Below w.heap.size w wr) (fun x _ _ _ => X - (intOf x).toNat)
    case atStart => exact ⟨0, 0, 0, rfl, rfl, by simp, by omega, by omega, HR, hb1⟩
    case round =>
      clear HR
      obtain ⟨j, f, P, rfl, rfl, rfl, hj, hf, hA, hBr⟩ := hrel
      have hB1 : (j + 1) * B ≤ 40201 * 200 := Nat.mul_le_mul (by omega) h3
      have HN' := Lib.hid (HN.out j)
      have HT' := Lib.hid (HT.out j)
      have hnx : (j + 1 + 1) * B = (j + 1) * B + B := by rw [Nat.add_mul (j + 1) 1 B, Nat.one_mul]
      have HNx := Lib.hid hnx
      have hPX := (HLE.out j f P hA.out).2
      clear hnx
      generalize hH : (j + 1) * B = H at *
      have hw3 : IntKind.i64.wrap ((H : Int) + (B : Int)) = ((H + B : Nat) : Int) := by rw [← Int.natCast_add]; exact IntWalk.i64_in _ (by omega)
      clear hH
      go_wp2_with fail
      go_loopw [10] (fun y wx => ∃ f : Nat, y = .int .i64 f ∧ f ≤ M ∧ Hid (SweepAt M B T A j f P) ∧ Below w.heap.size w wx) (fun y _ => M - (intOf y).toNat)
      case atStart => exact ⟨f, rfl, hf, hA, hBr⟩
      case round =>
        clear hA hf hBr
        obtain ⟨f, rfl, hf, hA, hBr⟩ := hrel
        by_cases hfm : f < M
        · have hfm' : (f : Int) < M := by omega
          have p0 : T * f ≤ 200 * 200 := Nat.mul_le_mul h4 (by omega)
          have hq := HF.out f hfm
          have hn := Lib.hid (HN'.out f P hA.out hfm)
          have ht := Lib.hid (HT'.out f P hA.out hfm)
          have hw1 : IntKind.i64.wrap ((f : Int) * (T : Int)) = ((T * f : Nat) : Int) := by rw [Int.mul_comm, ← Int.natCast_mul]; exact IntWalk.i64_in _ (by omega)
          generalize hQ : (T * f + A) / B = Q at *
          generalize T * f = TF at *
          have hw2 : IntKind.i64.wrap ((TF : Int) + (A : Int)) = ((TF + A : Nat) : Int) := by rw [← Int.natCast_add]; exact IntWalk.i64_in _ (by omega)
          generalize TF + A = P2 at *
          clear hQ
          by_cases hlt : P2 < H
          · have hlt' : (P2 : Int) < H := by omega
            have hs := Lib.hid (ht.out hlt)
            go_wp2_with fail
            go_roundw
            case rel => exact ⟨f + 1, by go_num, by omega, hs.out, hBr⟩
            case measure => simp only [intOf]; omega
          · have hlt' : decide ((P2 : Int) < H) = false := by simp; omega
            obtain ⟨n1, n2, n3⟩ := hn.out hlt
            have hs := Lib.hid n1
            have hne : ((f : Int) == (M : Int)) = false := by simp; omega
            have hw4 : IntKind.i64.wrap ((M : Int) - (f : Int)) = ((M - f : Nat) : Int) := by rw [show (M : Int) - (f : Int) = ((M - f : Nat) : Int) by omega]; exact IntWalk.i64_in _ (by omega)
            have hw5 : IntKind.i64.wrap ((P : Int) + ((M - f : Nat) : Int)) = ((P + (M - f) : Nat) : Int) := by rw [← Int.natCast_add]; exact IntWalk.i64_in _ (by omega)
            clear n1
            go_wp2_with fail
            go_roundw
            case rel => exact ⟨j + 1, f, P + (M - f), rfl, rfl, by rw [HNx.out, Int.natCast_add], by omega, by omega, hs.out, hBr⟩
            case measure => simp only [intOf]; omega
        · have hfm' : decide ((f : Int) < M) = false := by simp; omega
          obtain rfl : f = M := by omega
          have hfin := Lib.hid (HD.out j P hA.out)
          have heq : ((f : Int) == (f : Int)) = true := by simp
          go_wp2
          go_ret
          exact ⟨ret_int (by rw [hfin.out]), hBr⟩
end Go.Proofs.Ytdkcodinlegheaa
