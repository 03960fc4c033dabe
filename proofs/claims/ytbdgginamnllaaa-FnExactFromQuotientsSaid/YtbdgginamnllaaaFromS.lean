/- Contract of FromQuotients of the model. -/
import Derived.Test.YtbdgginamnllaaaQuot3
set_option linter.unusedVariables false
set_option linter.unusedSimpArgs false
namespace Go.Proofs.Ytbdgginamnllaaa

set_option maxRecDepth 4000
open Go.ChangeShapes Go.WideShapes Go.ChangeAt Go.RowKit Go.Joins

def FromPost (xs : List Int) (w : World) (e : Ending) (w' : World) : Prop := e = .returned (.tuple #[(.agg #[.int .i64 ((fromF xs).1.1), .int .i64 ((fromF xs).1.2)]), .bool (fromF xs).2]) ∧ Below w.heap.size w w'

theorem from_post {xs : List Int} {a b : Int} {c : Bool} {w w' : World} (h : fromF xs = ((a, b), c)) (hB : Below w.heap.size w w') : FromPost xs w (.returned (.tuple #[(.agg #[.int .i64 (a), .int .i64 (b)]), .bool c])) w' := ⟨by rw [h], hB⟩

theorem fromF_out {L : List Int} (h : ¬ (1 ≤ L.length ∧ L.length ≤ 8 ∧ 2 ≤ L.getD (L.length - 1) 0)) : fromF L = ((0, 0), false) := if_neg h

theorem fromF_none {L : List Int} (h : fqO L = none) : fromF L = ((0, 0), false) := by
  unfold fromF
  split
  · rw [h]
  · rfl

theorem fromF_tok {L : List Int} {a b : Nat} (h : 1 ≤ L.length ∧ L.length ≤ 8 ∧ 2 ≤ L.getD (L.length - 1) 0) (hf : fqO L = some (a, b)) (ht : tok (a : Int) (b : Int) = true) : fromF L = (((a : Int), (b : Int)), true) := by
  unfold fromF
  rw [if_pos h, hf]
  simp only
  rw [if_pos ht]

theorem fromF_not {L : List Int} {a b : Nat} (hf : fqO L = some (a, b)) (ht : ¬ tok (a : Int) (b : Int) = true) : fromF L = ((0, 0), false) := by
  unfold fromF
  split
  · rw [hf]
    simp only
    rw [if_neg ht]
  · rfl

set_option maxHeartbeats 4000000 in
theorem specFromQuotients_any (v : Value) (xs : List Int) (w : World) (hv : Reads w v xs) (hx : xs.length ≤ 2000000) :
    Calls Try.prog 36 #[v] w (FromPost xs w) := by
  obtain ⟨N, hN⟩ : ∃ N, xs.length = N := ⟨_, rfl⟩
  have v0 : Two (w.alloc (.cells #[.int .i64 0, .int .i64 0] 24)) w.heap.size (.int .i64 0) (.int .i64 0) 24 := Two.new _ _ _ _
  have hb0 : Below w.heap.size w (w.alloc (.cells #[.int .i64 0, .int .i64 0] 24)) := (Below.refl _ _).alloc (Nat.le_refl _) _
  have hv0 := hv.below hb0
  have hsz : (w.alloc (.cells #[.int .i64 0, .int .i64 0] 24)).heap.size = w.heap.size + 1 := by simp
  obtain ⟨a, cap, rfl, HC0⟩ := hv0.cells hN
  clear hv hv0
  rw [hN] at hx
  have f0 := v0.free 0
  have f1 := v0.free 1
  have v3 := (v0.set0 (.int .i64 0)).set1 (.int .i64 0)
  have e0 := v3.cell0
  have e1 := v3.cell1
  by_cases h1 : 1 ≤ N ∧ N ≤ 8
  · obtain ⟨g, off, rfl, HC⟩ := HC0 (by omega)
    have hin : (decide ((1 : Int) ≤ N) && decide ((N : Int) ≤ 8)) = true := by simp; omega
    have cl := HC.out (N - 1) (by omega)
    have q0 : (0 : Int) ≤ (N : Int) - 1 := by omega
    have q1 : (N : Int) - 1 < N := by omega
    have q2 : ((N : Int) - 1).toNat = N - 1 := by omega
    have q3 : (1 : Int) ≤ N := by omega
    by_cases h2 : 2 ≤ xs.getD (N - 1) 0
    · have HX : Hid (1 ≤ xs.length ∧ xs.length ≤ 8 ∧ 2 ≤ xs.getD (xs.length - 1) 0) := by show _ ∧ _ ∧ _; rw [hN]; exact ⟨h1.1, h1.2, h2⟩
      have HN := Lib.hid hN
      have h2' : decide (xs.getD (N - 1) 0 < 2) = false := decide_eq_false (by omega)
      generalize hG : xs.getD (N - 1) 0 = G at *
      clear hN HC0 hG
      go_enter Try.func36, Try.ntmps36
      go_wp2_with fail
      refine (l1In_any _ _ _ _).mono ?_; rintro e w2 ⟨rfl, rfl⟩
      rw [hin]
      go_wp2_with fail
      go_loopw [4, 5, 6] (fun xa xb xk wr => ∃ (j a b : Nat), xa = .int .i64 a ∧ xb = .int .i64 b ∧ xk = .int .i64 ((j : Int) - 1) ∧ j ≤ N ∧ a ≤ 60 ∧ b ≤ 60 ∧ Hid (fqO (xs.drop j) = some (a, b)) ∧ wr = w.alloc (.cells #[.int .i64 0, .int .i64 0] 24)) (fun _ _ xk _ => (intOf xk + 1).toNat)
      case atStart => exact ⟨N, 1, 0, rfl, rfl, rfl, by omega, by omega, by omega, by show _ = _; rw [List.drop_of_length_le (by rw [HN.out]; exact Nat.le_refl _)]; rfl, rfl⟩
      case round =>
        obtain ⟨j, a, b, rfl, rfl, rfl, hj, ha, hb, HF, rfl⟩ := hrel
        by_cases hj0 : j = 0
        · subst hj0
          have hF : fqO xs = some (a, b) := by have := HF.out; rwa [List.drop_zero] at this
          have hj1 : decide ((0 : Int) ≤ ((0 : Nat) : Int) - 1) = false := by decide
          have hj2 : decide ((0 : Int) ≤ (-1 : Int)) = false := by decide
          have t2 : Two ((w.alloc (.cells #[.int .i64 0, .int .i64 0] 24)).alloc (.cells #[.int .i64 (a : Int), .int .i64 (b : Int)] 24)) (w.heap.size + 1) (.int .i64 a) (.int .i64 b) 24 := Two.new' _ _ _ _ _ (by simp)
          have v2 : Two ((w.alloc (.cells #[.int .i64 0, .int .i64 0] 24)).alloc (.cells #[.int .i64 (a : Int), .int .i64 (b : Int)] 24)) w.heap.size (.int .i64 0) (.int .i64 0) 24 := v0.alloc _
          by_cases ht : tok (a : Int) (b : Int) = true
          · have hz := fromF_tok HX.out hF ht
            have HZ := Lib.hid hz
            clear HF hF HX HC hz
            go_wp2_with fail
            refine (specTurnOk_any _ _ _).mono ?_; rintro e w3 ⟨rfl, hb3⟩
            rw [ht]
            have t3 := t2.below hb3 t2.lt
            have v4 := v2.below hb3 v2.lt
            have t3c := t3.cell0
            have t3d := t3.cell1
            have v4c := v4.cell0
            have v4d := v4.cell1
            have f30 := v4.free 0
            have f31 := v4.free 1
            have v5 := (v4.set0 (.int .i64 (a : Int))).set1 (.int .i64 (b : Int))
            have e50 := v5.cell0
            have e51 := v5.cell1
            have hB3 : Below w.heap.size w w3 := (hb0.alloc (by omega) _).trans (hb3.mono (by simp; omega))
            go_wp2
            exact bodyPost_ret (v := .tuple #[(.agg #[.int .i64 (a), .int .i64 (b)]), .bool true]) (by simp [results, Try.results36, go_sem, e50, e51]) rfl (from_post HZ.out ((hB3.setCell (Nat.le_refl _) _).setCell (Nat.le_refl _) _))
          · have ht' : tok (a : Int) (b : Int) = false := by simpa using ht
            have hz := fromF_not hF ht
            have HZ := Lib.hid hz
            clear HF hF HX HC hz
            go_wp2_with fail
            refine (specTurnOk_any _ _ _).mono ?_; rintro e w3 ⟨rfl, hb3⟩
            rw [ht']
            have v4 := v2.below hb3 v2.lt
            have v4c := v4.cell0
            have v4d := v4.cell1
            have f30 := v4.free 0
            have f31 := v4.free 1
            have v5 := (v4.set0 (.int .i64 (0 : Int))).set1 (.int .i64 (0 : Int))
            have e50 := v5.cell0
            have e51 := v5.cell1
            have hB3 : Below w.heap.size w w3 := (hb0.alloc (by omega) _).trans (hb3.mono (by simp; omega))
            go_wp2
            exact bodyPost_ret (v := .tuple #[(.agg #[.int .i64 (0), .int .i64 (0)]), .bool false]) (by simp [results, Try.results36, go_sem, e50, e51]) rfl (from_post HZ.out ((hB3.setCell (Nat.le_refl _) _).setCell (Nat.le_refl _) _))
        · obtain ⟨j, rfl⟩ : ∃ k, j = k + 1 := ⟨j - 1, by omega⟩
          have ej : ((j + 1 : Nat) : Int) - 1 = j := by omega
          rw [ej]
          have cj := HC.out j (by omega)
          have hstep := fqO_drop (L := xs) (k := j) (by rw [HN.out]; omega)
          rw [HF.out] at hstep
          have hj1 : (0 : Int) ≤ j := by omega
          have hj2 : (j : Int) < N := by omega
          generalize xs.getD j 0 = x at *
          by_cases hx1 : 1 ≤ x ∧ x ≤ 60
          · have hi2 : (decide ((1 : Int) ≤ x) && decide (x ≤ 60)) = true := by simp; omega
            have m0 : 0 ≤ x * (a : Int) := Int.mul_nonneg (by omega) (by omega)
            have m1 : x * (a : Int) ≤ 60 * 60 := Int.mul_le_mul (by omega) (by omega) (by omega) (by omega)
            obtain ⟨X, hXe⟩ : ∃ X : Nat, x * (a : Int) + b = X := ⟨(x * (a : Int) + b).toNat, by omega⟩
            have hXn : x.toNat * a + b = X := by
              have : ((x.toNat * a + b : Nat) : Int) = X := by
                rw [← hXe]; simp; rw [Int.max_eq_left (by omega)]
              omega
            by_cases hX : X ≤ 60
            · rw [fqStep_some hx1.1 hx1.2 (by omega), hXn] at hstep
              have HS := Lib.hid hstep
              clear hstep HF hXn
              have hX' : decide ((60 : Int) < X) = false := by simp; omega
              go_wp2_with fail
              refine (l1In_any _ _ _ _).mono ?_; rintro e w2 ⟨rfl, rfl⟩
              rw [hi2]
              go_wp2_with fail
              go_roundw
              case rel => exact ⟨j, X, a, rfl, rfl, by go_num, by omega, by omega, by omega, HS.out, trivial⟩
              case measure => simp only [intOf]; omega
            · rw [fqStep_none (by omega)] at hstep
              have hz := fromF_none (fqO_none hstep)
              have HZ := Lib.hid hz
              clear hstep HF hXn hz HX HC
              have hX' : (60 : Int) < X := by omega
              go_wp2_with fail
              refine (l1In_any _ _ _ _).mono ?_; rintro e w2 ⟨rfl, rfl⟩
              rw [hi2]
              go_wp2
              exact bodyPost_ret (v := .tuple #[(.agg #[.int .i64 (0), .int .i64 (0)]), .bool false]) (by simp [results, Try.results36, go_sem, e0, e1]) rfl (from_post HZ.out (by repeat (first | exact Below.refl _ _ | assumption | (refine Below.trans ?_ (Below.mono (by assumption) (by first | omega | (simp <;> omega)))) | (refine Below.alloc ?_ (by first | omega | (simp <;> omega)) _) | (refine below_drewN ?_ _) | (refine Below.drew ?_) | (refine Below.setCell ?_ (by first | omega | (simp <;> omega)) _))))
          · have hi2 : (decide ((1 : Int) ≤ x) && decide (x ≤ 60)) = false := by simp; omega
            rw [fqStep_none (by omega)] at hstep
            have hz := fromF_none (fqO_none hstep)
            have HZ := Lib.hid hz
            clear hstep HF hz HX HC
            go_wp2_with fail
            refine (l1In_any _ _ _ _).mono ?_; rintro e w2 ⟨rfl, rfl⟩
            rw [hi2]
            go_wp2
            exact bodyPost_ret (v := .tuple #[(.agg #[.int .i64 (0), .int .i64 (0)]), .bool false]) (by simp [results, Try.results36, go_sem, e0, e1]) rfl (from_post HZ.out (by repeat (first | exact Below.refl _ _ | assumption | (refine Below.trans ?_ (Below.mono (by assumption) (by first | omega | (simp <;> omega)))) | (refine Below.alloc ?_ (by first | omega | (simp <;> omega)) _) | (refine below_drewN ?_ _) | (refine Below.drew ?_) | (refine Below.setCell ?_ (by first | omega | (simp <;> omega)) _))))
    · have h2' : xs.getD (N - 1) 0 < 2 := by omega
      have hz := fromF_out (L := xs) (by rw [hN]; omega)
      have HZ := Lib.hid hz
      clear HC hN hz HC0 h2
      generalize xs.getD (N - 1) 0 = G at *
      go_enter Try.func36, Try.ntmps36
      go_wp2_with fail
      refine (l1In_any _ _ _ _).mono ?_; rintro e w2 ⟨rfl, rfl⟩
      rw [hin]
      go_wp2
      exact bodyPost_ret (v := .tuple #[(.agg #[.int .i64 (0), .int .i64 (0)]), .bool false]) (by simp [results, Try.results36, go_sem, e0, e1]) rfl (from_post HZ.out (by repeat (first | exact Below.refl _ _ | assumption | (refine Below.trans ?_ (Below.mono (by assumption) (by first | omega | (simp <;> omega)))) | (refine Below.alloc ?_ (by first | omega | (simp <;> omega)) _) | (refine below_drewN ?_ _) | (refine Below.drew ?_) | (refine Below.setCell ?_ (by first | omega | (simp <;> omega)) _))))
  · have hin : (decide ((1 : Int) ≤ N) && decide ((N : Int) ≤ 8)) = false := by simp; omega
    have hz := fromF_out (L := xs) (by rw [hN]; omega)
    have HZ := Lib.hid hz
    clear HC0 hN hz
    go_enter Try.func36, Try.ntmps36
    go_wp2_with fail
    refine (l1In_any _ _ _ _).mono ?_; rintro e w2 ⟨rfl, rfl⟩
    rw [hin]
    go_wp2
    exact bodyPost_ret (v := .tuple #[(.agg #[.int .i64 (0), .int .i64 (0)]), .bool false]) (by simp [results, Try.results36, go_sem, e0, e1]) rfl (from_post HZ.out (by repeat (first | exact Below.refl _ _ | assumption | (refine Below.trans ?_ (Below.mono (by assumption) (by first | omega | (simp <;> omega)))) | (refine Below.alloc ?_ (by first | omega | (simp <;> omega)) _) | (refine below_drewN ?_ _) | (refine Below.drew ?_) | (refine Below.setCell ?_ (by first | omega | (simp <;> omega)) _))))
end Go.Proofs.Ytbdgginamnllaaa
