/- Contracts of chapter 14's functions of the model: years and days. -/
import Derived.Test.YtokmmbmkfpfmgaaYear
import Derived.Test.YtokmmbmkfpfmgaaSclL
import Derived.Test.YtokmmbmkfpfmgaaGWord
import Derived.BigQuiet
import Derived.Deep.RegionHeld3
set_option linter.unusedVariables false
set_option linter.unusedSimpArgs false
namespace Go.Proofs.Ytokmmbmkfpfmgaa
set_option maxRecDepth 4000

set_option maxRecDepth 4000
open Go.ChangeShapes Go.WideShapes Go.ChangeAt Go.RowKit Go.Joins

set_option maxHeartbeats 4000000 in
theorem specLongYear_any (n s y : Int) (w : World) :
    Calls Try.prog 17 #[(.agg #[.int .i64 (n), .int .i64 (s)]), .int .i64 y] w fun e w' => e = .returned (.bool (lyF n s y)) ∧ Below w.heap.size w w' := by
  have t0 : Two (w.alloc (.cells #[.int .i64 n, .int .i64 s] 24)) w.heap.size (.int .i64 n) (.int .i64 s) 24 := Two.new _ _ _ _
  have c0 := t0.cell0
  have c1 := t0.cell1
  have hB0 : Below w.heap.size w (w.alloc (.cells #[.int .i64 n, .int .i64 s] 24)) := (by repeat (first | exact Below.refl _ _ | assumption | (refine Below.trans ?_ (Below.mono (by assumption) (by first | omega | (simp <;> omega)))) | (refine Below.alloc ?_ (by first | omega | (simp <;> omega)) _) | (refine below_drewN ?_ _) | (refine Below.drew ?_) | (refine Below.setCell ?_ (by first | omega | (simp <;> omega)) _)))
  have q0 : Below (w.alloc (.cells #[.int .i64 n, .int .i64 s] 24)).heap.size (w.alloc (.cells #[.int .i64 n, .int .i64 s] 24)) (w.alloc (.cells #[.int .i64 n, .int .i64 s] 24)).drew := below_drewN (Below.refl _ _) 1
  have HT := Lib.hid (fun w => specTurnOk_any n s w)
  have HI := Lib.hid (fun w => l1In_any y 0 199 w)
  by_cases ht : tok n s = true
  · rw [ht] at HT
    by_cases hy : 0 ≤ y ∧ y ≤ 199
    · obtain ⟨N, S, rfl, rfl, hN⟩ := tokN_of ht
      obtain ⟨Y, rfl⟩ := Int.eq_ofNat_of_zero_le hy.1
      obtain ⟨b1, b2, b3, b4, _⟩ := tokN_bd hN
      rw [lyF_yes hN (by omega)]
      rw [decide_eq_true hy.1, decide_eq_true hy.2] at HI
      have hm := Nat.mod_lt Y (show 0 < N by omega)
      have HL := Lib.hid (fun w => l5Letter_int (N : Int) (S : Int) ((Y % N : Nat) : Int) w ht (by omega) (by omega))
      unfold StrPost at HL
      rw [Int.toNat_natCast, Int.toNat_natCast, Int.toNat_natCast, let_mod] at HL
      have d1' : (Y : Int) % (N : Int) = ((Y % N : Nat) : Int) := by simp
      have d1 : (Y : Int).tmod (N : Int) = ((Y % N : Nat) : Int) := by rw [Int.tmod_eq_emod_of_nonneg (by omega)]; exact d1'
      have hN0 : ¬ (N : Int) = 0 := by omega
      generalize Y % N = R at *
      have eN : (N : Int) = N := rfl
      obtain ⟨n, hn⟩ : ∃ n : Int, n = (N : Int) := ⟨_, rfl⟩
      obtain ⟨s, hs⟩ : ∃ s : Int, s = (S : Int) := ⟨_, rfl⟩
      rw [← hn, ← hs] at t0 c0 c1 hB0 q0 HT
      rw [← hn] at d1 d1' hN0 HL ⊢
      rw [← hs] at HL ⊢
      clear ht hN eN hn hs
      cases hb : letN N S Y with
      | false =>
        rw [hb, show txtB [false] = (⟨#[48]⟩ : ByteArray) from rfl] at HL
        go_enter Try.func17, Try.ntmps17
        go_wp2_with fail
        generalize w.alloc (.cells #[.int .i64 n, .int .i64 s] 24) = W at *
        refine wp_region_noPanic ?_
        refine wp_region_held_drew (S := (fun w' => w'.cell? ⟨w.heap.size, 0, none⟩ = some (.int .i64 n) ∧ w'.cell? ⟨w.heap.size, 1, none⟩ = some (.int .i64 s))) (by kernel_rfl) ?_ (fun hHeld => ?_)
        · exact ⟨by assumption, by assumption⟩
        refine wpAnyH_take (i := 0) (oi := _) (v := ?_) rfl (by kernel_rfl) (by kernel_rfl) (by kernel_rfl) (fun _ _ _ h => h) (Or.inl ⟨by kernel_rfl, ?_⟩) (by assumption) ?_; rotate_left; (· (intro w hSw; (try dsimp only at hSw); go_simp; (first | done | with_reducible rfl)))
        try simp only [Act.put, List.getElem_toArray, List.getElem_cons_succ, List.getElem_cons_zero, List.setIfInBounds_toArray, List.set_cons_zero, List.set_cons_succ]
        refine wpAnyH_ready (rs := [1]) (by kernel_rfl) (by simp) ?_
        refine AllReadyH.cons (o := _) rfl (fun K hK => ?_) AllReadyH.nil
        go_simp
        first | (go_at_call 18; (with_reducible refine (HT.out _).mono ?_); rintro e w9 ⟨rfl, hb9⟩; have q9 : Below W.heap.size W w9 := hold_on (by assumption) hb9; have t9 := Two.below t0 q9 t0.lt; have t9c := t9.cell0; have t9d := t9.cell1) | (go_at_call 41; (with_reducible refine (HI.out _).mono ?_); rintro e w9 ⟨rfl, rfl⟩) | (go_at_call 42; (with_reducible refine (HL.out _).mono ?_); rintro e w9 ⟨rfl, hb9⟩; have q9 : Below W.heap.size W w9 := hold_on (by assumption) hb9; have t9 := Two.below t0 q9 t0.lt; have t9c := t9.cell0; have t9d := t9.cell1)
        refine hK.out _ _ (by first | assumption | ((try dsimp only); exact ⟨by assumption, by assumption⟩)) (fun hHeld => ?_)
        clear hK K
        try simp only [Act.put, List.getElem_toArray, List.getElem_cons_succ, List.getElem_cons_zero, List.setIfInBounds_toArray, List.set_cons_zero, List.set_cons_succ]
        refine wpAnyH_take (i := 2) (oi := _) (v := ?_) rfl (by kernel_rfl) (by kernel_rfl) (by kernel_rfl) (fun _ _ _ h => h) (Or.inl ⟨by kernel_rfl, ?_⟩) (by assumption) ?_; rotate_left; (· (intro w hSw; (try dsimp only at hSw); go_simp; (first | done | with_reducible rfl)))
        try simp only [Act.put, List.getElem_toArray, List.getElem_cons_succ, List.getElem_cons_zero, List.setIfInBounds_toArray, List.set_cons_zero, List.set_cons_succ]
        refine wpAnyH_take (i := 3) (oi := _) (v := ?_) rfl (by kernel_rfl) (by kernel_rfl) (by kernel_rfl) (fun _ _ _ h => h) (Or.inl ⟨by kernel_rfl, ?_⟩) (by assumption) ?_; rotate_left; (· (intro w hSw; (try dsimp only at hSw); go_simp; (first | done | with_reducible rfl)))
        try simp only [Act.put, List.getElem_toArray, List.getElem_cons_succ, List.getElem_cons_zero, List.setIfInBounds_toArray, List.set_cons_zero, List.set_cons_succ]
        refine wpAnyH_ready (rs := [4]) (by kernel_rfl) (by simp) ?_
        refine AllReadyH.cons (o := _) rfl (fun K hK => ?_) AllReadyH.nil
        go_simp
        first | (go_at_call 18; (with_reducible refine (HT.out _).mono ?_); rintro e w9 ⟨rfl, hb9⟩; have q9 : Below W.heap.size W w9 := hold_on (by assumption) hb9; have t9 := Two.below t0 q9 t0.lt; have t9c := t9.cell0; have t9d := t9.cell1) | (go_at_call 41; (with_reducible refine (HI.out _).mono ?_); rintro e w9 ⟨rfl, rfl⟩) | (go_at_call 42; (with_reducible refine (HL.out _).mono ?_); rintro e w9 ⟨rfl, hb9⟩; have q9 : Below W.heap.size W w9 := hold_on (by assumption) hb9; have t9 := Two.below t0 q9 t0.lt; have t9c := t9.cell0; have t9d := t9.cell1)
        refine hK.out _ _ (by first | assumption | ((try dsimp only); exact ⟨by assumption, by assumption⟩)) (fun hHeld => ?_)
        clear hK K
        try simp only [Act.put, List.getElem_toArray, List.getElem_cons_succ, List.getElem_cons_zero, List.setIfInBounds_toArray, List.set_cons_zero, List.set_cons_succ]
        refine wpAnyH_take (i := 5) (oi := _) (v := ?_) rfl (by kernel_rfl) (by kernel_rfl) (by kernel_rfl) (fun _ _ _ h => h) (Or.inl ⟨by kernel_rfl, ?_⟩) (by assumption) ?_; rotate_left; (· (intro w hSw; (try dsimp only at hSw); go_simp; (first | done | with_reducible rfl)))
        try simp only [Act.put, List.getElem_toArray, List.getElem_cons_succ, List.getElem_cons_zero, List.setIfInBounds_toArray, List.set_cons_zero, List.set_cons_succ]
        refine wpAnyH_take (i := 6) (oi := _) (v := ?_) rfl (by kernel_rfl) (by kernel_rfl) (by kernel_rfl) (fun _ _ _ h => h) (Or.inl ⟨by kernel_rfl, ?_⟩) (by assumption) ?_; rotate_left; (· (intro w hSw; (try dsimp only at hSw); go_simp; (first | done | with_reducible rfl)))
        try simp only [Act.put, List.getElem_toArray, List.getElem_cons_succ, List.getElem_cons_zero, List.setIfInBounds_toArray, List.set_cons_zero, List.set_cons_succ]
        refine wpAnyH_take (i := 7) (oi := _) (v := ?_) rfl (by kernel_rfl) (by kernel_rfl) (by kernel_rfl) (fun _ _ _ h => h) (Or.inl ⟨by kernel_rfl, ?_⟩) (by assumption) ?_; rotate_left; (· (intro w hSw; (try dsimp only at hSw); go_simp; (first | done | with_reducible rfl)))
        try simp only [Act.put, List.getElem_toArray, List.getElem_cons_succ, List.getElem_cons_zero, List.setIfInBounds_toArray, List.set_cons_zero, List.set_cons_succ]
        refine wpAnyH_take (i := 8) (oi := _) (v := ?_) rfl (by kernel_rfl) (by kernel_rfl) (by kernel_rfl) (fun _ _ _ h => h) (Or.inl ⟨by kernel_rfl, ?_⟩) (by assumption) ?_; rotate_left; (· (intro w hSw; (try dsimp only at hSw); go_simp; (first | done | with_reducible rfl)))
        try simp only [Act.put, List.getElem_toArray, List.getElem_cons_succ, List.getElem_cons_zero, List.setIfInBounds_toArray, List.set_cons_zero, List.set_cons_succ]
        refine wpAnyH_take (i := 9) (oi := _) (v := ?_) rfl (by kernel_rfl) (by kernel_rfl) (by kernel_rfl) (fun _ _ _ h => h) (Or.inl ⟨by kernel_rfl, ?_⟩) (by assumption) ?_; rotate_left; (· (intro w hSw; (try dsimp only at hSw); go_simp; (first | done | with_reducible rfl)))
        try simp only [Act.put, List.getElem_toArray, List.getElem_cons_succ, List.getElem_cons_zero, List.setIfInBounds_toArray, List.set_cons_zero, List.set_cons_succ]
        refine wpAnyH_take (i := 10) (oi := _) (v := ?_) rfl (by kernel_rfl) (by kernel_rfl) (by kernel_rfl) (fun _ _ _ h => h) (Or.inl ⟨by kernel_rfl, ?_⟩) (by assumption) ?_; rotate_left; (· (intro w hSw; (try dsimp only at hSw); go_simp; (first | done | with_reducible rfl)))
        try simp only [Act.put, List.getElem_toArray, List.getElem_cons_succ, List.getElem_cons_zero, List.setIfInBounds_toArray, List.set_cons_zero, List.set_cons_succ]
        refine wpAnyH_take (i := 11) (oi := _) (v := ?_) rfl (by kernel_rfl) (by kernel_rfl) (by kernel_rfl) (fun _ _ _ h => h) (Or.inl ⟨by kernel_rfl, ?_⟩) (by assumption) ?_; rotate_left; (· (intro w hSw; (try dsimp only at hSw); go_simp; (first | done | with_reducible rfl)))
        try simp only [Act.put, List.getElem_toArray, List.getElem_cons_succ, List.getElem_cons_zero, List.setIfInBounds_toArray, List.set_cons_zero, List.set_cons_succ]
        refine wpAnyH_ready (rs := [12]) (by kernel_rfl) (by simp) ?_
        refine AllReadyH.cons (o := _) rfl (fun K hK => ?_) AllReadyH.nil
        go_simp
        first | (go_at_call 18; (with_reducible refine (HT.out _).mono ?_); rintro e w9 ⟨rfl, hb9⟩; have q9 : Below W.heap.size W w9 := hold_on (by assumption) hb9; have t9 := Two.below t0 q9 t0.lt; have t9c := t9.cell0; have t9d := t9.cell1) | (go_at_call 41; (with_reducible refine (HI.out _).mono ?_); rintro e w9 ⟨rfl, rfl⟩) | (go_at_call 42; (with_reducible refine (HL.out _).mono ?_); rintro e w9 ⟨rfl, hb9⟩; have q9 : Below W.heap.size W w9 := hold_on (by assumption) hb9; have t9 := Two.below t0 q9 t0.lt; have t9c := t9.cell0; have t9d := t9.cell1)
        refine hK.out _ _ (by first | assumption | ((try dsimp only); exact ⟨by assumption, by assumption⟩)) (fun hHeld => ?_)
        clear hK K
        try simp only [Act.put, List.getElem_toArray, List.getElem_cons_succ, List.getElem_cons_zero, List.setIfInBounds_toArray, List.set_cons_zero, List.set_cons_succ]
        refine wpAnyH_take (i := 13) (oi := _) (v := ?_) rfl (by kernel_rfl) (by kernel_rfl) (by kernel_rfl) (fun _ _ _ h => h) (Or.inl ⟨by kernel_rfl, ?_⟩) (by assumption) ?_; rotate_left; (· (intro w hSw; (try dsimp only at hSw); go_simp; (first | done | with_reducible rfl)))
        try simp only [Act.put, List.getElem_toArray, List.getElem_cons_succ, List.getElem_cons_zero, List.setIfInBounds_toArray, List.set_cons_zero, List.set_cons_succ]
        refine wpAnyH_take (i := 14) (oi := _) (v := ?_) rfl (by kernel_rfl) (by kernel_rfl) (by kernel_rfl) (fun _ _ _ h => h) (Or.inl ⟨by kernel_rfl, ?_⟩) (by assumption) ?_; rotate_left; (· (intro w hSw; (try dsimp only at hSw); go_simp; (first | done | with_reducible rfl)))
        try simp only [Act.put, List.getElem_toArray, List.getElem_cons_succ, List.getElem_cons_zero, List.setIfInBounds_toArray, List.set_cons_zero, List.set_cons_succ]
        refine wpAnyH_take (i := 15) (oi := _) (v := ?_) rfl (by kernel_rfl) (by kernel_rfl) (by kernel_rfl) (fun _ _ _ h => h) (Or.inl ⟨by kernel_rfl, ?_⟩) (by assumption) ?_; rotate_left; (· (intro w hSw; (try dsimp only at hSw); go_simp; (first | done | with_reducible rfl)))
        try simp only [Act.put, List.getElem_toArray, List.getElem_cons_succ, List.getElem_cons_zero, List.setIfInBounds_toArray, List.set_cons_zero, List.set_cons_succ]
        refine wpAnyH_done (by kernel_rfl) ?_ _
        refine NoPanic.normal ?_
        go_wp2
        go_ret
        exact ⟨by first | rfl | (simp; done), hB0.trans (q9.mono hB0.size)⟩
      | true =>
        rw [hb, show txtB [true] = (⟨#[49]⟩ : ByteArray) from rfl] at HL
        go_enter Try.func17, Try.ntmps17
        go_wp2_with fail
        generalize w.alloc (.cells #[.int .i64 n, .int .i64 s] 24) = W at *
        refine wp_region_noPanic ?_
        refine wp_region_held_drew (S := (fun w' => w'.cell? ⟨w.heap.size, 0, none⟩ = some (.int .i64 n) ∧ w'.cell? ⟨w.heap.size, 1, none⟩ = some (.int .i64 s))) (by kernel_rfl) ?_ (fun hHeld => ?_)
        · exact ⟨by assumption, by assumption⟩
        refine wpAnyH_take (i := 0) (oi := _) (v := ?_) rfl (by kernel_rfl) (by kernel_rfl) (by kernel_rfl) (fun _ _ _ h => h) (Or.inl ⟨by kernel_rfl, ?_⟩) (by assumption) ?_; rotate_left; (· (intro w hSw; (try dsimp only at hSw); go_simp; (first | done | with_reducible rfl)))
        try simp only [Act.put, List.getElem_toArray, List.getElem_cons_succ, List.getElem_cons_zero, List.setIfInBounds_toArray, List.set_cons_zero, List.set_cons_succ]
        refine wpAnyH_ready (rs := [1]) (by kernel_rfl) (by simp) ?_
        refine AllReadyH.cons (o := _) rfl (fun K hK => ?_) AllReadyH.nil
        go_simp
        first | (go_at_call 18; (with_reducible refine (HT.out _).mono ?_); rintro e w9 ⟨rfl, hb9⟩; have q9 : Below W.heap.size W w9 := hold_on (by assumption) hb9; have t9 := Two.below t0 q9 t0.lt; have t9c := t9.cell0; have t9d := t9.cell1) | (go_at_call 41; (with_reducible refine (HI.out _).mono ?_); rintro e w9 ⟨rfl, rfl⟩) | (go_at_call 42; (with_reducible refine (HL.out _).mono ?_); rintro e w9 ⟨rfl, hb9⟩; have q9 : Below W.heap.size W w9 := hold_on (by assumption) hb9; have t9 := Two.below t0 q9 t0.lt; have t9c := t9.cell0; have t9d := t9.cell1)
        refine hK.out _ _ (by first | assumption | ((try dsimp only); exact ⟨by assumption, by assumption⟩)) (fun hHeld => ?_)
        clear hK K
        try simp only [Act.put, List.getElem_toArray, List.getElem_cons_succ, List.getElem_cons_zero, List.setIfInBounds_toArray, List.set_cons_zero, List.set_cons_succ]
        refine wpAnyH_take (i := 2) (oi := _) (v := ?_) rfl (by kernel_rfl) (by kernel_rfl) (by kernel_rfl) (fun _ _ _ h => h) (Or.inl ⟨by kernel_rfl, ?_⟩) (by assumption) ?_; rotate_left; (· (intro w hSw; (try dsimp only at hSw); go_simp; (first | done | with_reducible rfl)))
        try simp only [Act.put, List.getElem_toArray, List.getElem_cons_succ, List.getElem_cons_zero, List.setIfInBounds_toArray, List.set_cons_zero, List.set_cons_succ]
        refine wpAnyH_take (i := 3) (oi := _) (v := ?_) rfl (by kernel_rfl) (by kernel_rfl) (by kernel_rfl) (fun _ _ _ h => h) (Or.inl ⟨by kernel_rfl, ?_⟩) (by assumption) ?_; rotate_left; (· (intro w hSw; (try dsimp only at hSw); go_simp; (first | done | with_reducible rfl)))
        try simp only [Act.put, List.getElem_toArray, List.getElem_cons_succ, List.getElem_cons_zero, List.setIfInBounds_toArray, List.set_cons_zero, List.set_cons_succ]
        refine wpAnyH_ready (rs := [4]) (by kernel_rfl) (by simp) ?_
        refine AllReadyH.cons (o := _) rfl (fun K hK => ?_) AllReadyH.nil
        go_simp
        first | (go_at_call 18; (with_reducible refine (HT.out _).mono ?_); rintro e w9 ⟨rfl, hb9⟩; have q9 : Below W.heap.size W w9 := hold_on (by assumption) hb9; have t9 := Two.below t0 q9 t0.lt; have t9c := t9.cell0; have t9d := t9.cell1) | (go_at_call 41; (with_reducible refine (HI.out _).mono ?_); rintro e w9 ⟨rfl, rfl⟩) | (go_at_call 42; (with_reducible refine (HL.out _).mono ?_); rintro e w9 ⟨rfl, hb9⟩; have q9 : Below W.heap.size W w9 := hold_on (by assumption) hb9; have t9 := Two.below t0 q9 t0.lt; have t9c := t9.cell0; have t9d := t9.cell1)
        refine hK.out _ _ (by first | assumption | ((try dsimp only); exact ⟨by assumption, by assumption⟩)) (fun hHeld => ?_)
        clear hK K
        try simp only [Act.put, List.getElem_toArray, List.getElem_cons_succ, List.getElem_cons_zero, List.setIfInBounds_toArray, List.set_cons_zero, List.set_cons_succ]
        refine wpAnyH_take (i := 5) (oi := _) (v := ?_) rfl (by kernel_rfl) (by kernel_rfl) (by kernel_rfl) (fun _ _ _ h => h) (Or.inl ⟨by kernel_rfl, ?_⟩) (by assumption) ?_; rotate_left; (· (intro w hSw; (try dsimp only at hSw); go_simp; (first | done | with_reducible rfl)))
        try simp only [Act.put, List.getElem_toArray, List.getElem_cons_succ, List.getElem_cons_zero, List.setIfInBounds_toArray, List.set_cons_zero, List.set_cons_succ]
        refine wpAnyH_take (i := 6) (oi := _) (v := ?_) rfl (by kernel_rfl) (by kernel_rfl) (by kernel_rfl) (fun _ _ _ h => h) (Or.inl ⟨by kernel_rfl, ?_⟩) (by assumption) ?_; rotate_left; (· (intro w hSw; (try dsimp only at hSw); go_simp; (first | done | with_reducible rfl)))
        try simp only [Act.put, List.getElem_toArray, List.getElem_cons_succ, List.getElem_cons_zero, List.setIfInBounds_toArray, List.set_cons_zero, List.set_cons_succ]
        refine wpAnyH_take (i := 7) (oi := _) (v := ?_) rfl (by kernel_rfl) (by kernel_rfl) (by kernel_rfl) (fun _ _ _ h => h) (Or.inl ⟨by kernel_rfl, ?_⟩) (by assumption) ?_; rotate_left; (· (intro w hSw; (try dsimp only at hSw); go_simp; (first | done | with_reducible rfl)))
        try simp only [Act.put, List.getElem_toArray, List.getElem_cons_succ, List.getElem_cons_zero, List.setIfInBounds_toArray, List.set_cons_zero, List.set_cons_succ]
        refine wpAnyH_take (i := 8) (oi := _) (v := ?_) rfl (by kernel_rfl) (by kernel_rfl) (by kernel_rfl) (fun _ _ _ h => h) (Or.inl ⟨by kernel_rfl, ?_⟩) (by assumption) ?_; rotate_left; (· (intro w hSw; (try dsimp only at hSw); go_simp; (first | done | with_reducible rfl)))
        try simp only [Act.put, List.getElem_toArray, List.getElem_cons_succ, List.getElem_cons_zero, List.setIfInBounds_toArray, List.set_cons_zero, List.set_cons_succ]
        refine wpAnyH_take (i := 9) (oi := _) (v := ?_) rfl (by kernel_rfl) (by kernel_rfl) (by kernel_rfl) (fun _ _ _ h => h) (Or.inl ⟨by kernel_rfl, ?_⟩) (by assumption) ?_; rotate_left; (· (intro w hSw; (try dsimp only at hSw); go_simp; (first | done | with_reducible rfl)))
        try simp only [Act.put, List.getElem_toArray, List.getElem_cons_succ, List.getElem_cons_zero, List.setIfInBounds_toArray, List.set_cons_zero, List.set_cons_succ]
        refine wpAnyH_take (i := 10) (oi := _) (v := ?_) rfl (by kernel_rfl) (by kernel_rfl) (by kernel_rfl) (fun _ _ _ h => h) (Or.inl ⟨by kernel_rfl, ?_⟩) (by assumption) ?_; rotate_left; (· (intro w hSw; (try dsimp only at hSw); go_simp; (first | done | with_reducible rfl)))
        try simp only [Act.put, List.getElem_toArray, List.getElem_cons_succ, List.getElem_cons_zero, List.setIfInBounds_toArray, List.set_cons_zero, List.set_cons_succ]
        refine wpAnyH_take (i := 11) (oi := _) (v := ?_) rfl (by kernel_rfl) (by kernel_rfl) (by kernel_rfl) (fun _ _ _ h => h) (Or.inl ⟨by kernel_rfl, ?_⟩) (by assumption) ?_; rotate_left; (· (intro w hSw; (try dsimp only at hSw); go_simp; (first | done | with_reducible rfl)))
        try simp only [Act.put, List.getElem_toArray, List.getElem_cons_succ, List.getElem_cons_zero, List.setIfInBounds_toArray, List.set_cons_zero, List.set_cons_succ]
        refine wpAnyH_ready (rs := [12]) (by kernel_rfl) (by simp) ?_
        refine AllReadyH.cons (o := _) rfl (fun K hK => ?_) AllReadyH.nil
        go_simp
        first | (go_at_call 18; (with_reducible refine (HT.out _).mono ?_); rintro e w9 ⟨rfl, hb9⟩; have q9 : Below W.heap.size W w9 := hold_on (by assumption) hb9; have t9 := Two.below t0 q9 t0.lt; have t9c := t9.cell0; have t9d := t9.cell1) | (go_at_call 41; (with_reducible refine (HI.out _).mono ?_); rintro e w9 ⟨rfl, rfl⟩) | (go_at_call 42; (with_reducible refine (HL.out _).mono ?_); rintro e w9 ⟨rfl, hb9⟩; have q9 : Below W.heap.size W w9 := hold_on (by assumption) hb9; have t9 := Two.below t0 q9 t0.lt; have t9c := t9.cell0; have t9d := t9.cell1)
        refine hK.out _ _ (by first | assumption | ((try dsimp only); exact ⟨by assumption, by assumption⟩)) (fun hHeld => ?_)
        clear hK K
        try simp only [Act.put, List.getElem_toArray, List.getElem_cons_succ, List.getElem_cons_zero, List.setIfInBounds_toArray, List.set_cons_zero, List.set_cons_succ]
        refine wpAnyH_take (i := 13) (oi := _) (v := ?_) rfl (by kernel_rfl) (by kernel_rfl) (by kernel_rfl) (fun _ _ _ h => h) (Or.inl ⟨by kernel_rfl, ?_⟩) (by assumption) ?_; rotate_left; (· (intro w hSw; (try dsimp only at hSw); go_simp; (first | done | with_reducible rfl)))
        try simp only [Act.put, List.getElem_toArray, List.getElem_cons_succ, List.getElem_cons_zero, List.setIfInBounds_toArray, List.set_cons_zero, List.set_cons_succ]
        refine wpAnyH_take (i := 14) (oi := _) (v := ?_) rfl (by kernel_rfl) (by kernel_rfl) (by kernel_rfl) (fun _ _ _ h => h) (Or.inl ⟨by kernel_rfl, ?_⟩) (by assumption) ?_; rotate_left; (· (intro w hSw; (try dsimp only at hSw); go_simp; (first | done | with_reducible rfl)))
        try simp only [Act.put, List.getElem_toArray, List.getElem_cons_succ, List.getElem_cons_zero, List.setIfInBounds_toArray, List.set_cons_zero, List.set_cons_succ]
        refine wpAnyH_take (i := 15) (oi := _) (v := ?_) rfl (by kernel_rfl) (by kernel_rfl) (by kernel_rfl) (fun _ _ _ h => h) (Or.inl ⟨by kernel_rfl, ?_⟩) (by assumption) ?_; rotate_left; (· (intro w hSw; (try dsimp only at hSw); go_simp; (first | done | with_reducible rfl)))
        try simp only [Act.put, List.getElem_toArray, List.getElem_cons_succ, List.getElem_cons_zero, List.setIfInBounds_toArray, List.set_cons_zero, List.set_cons_succ]
        refine wpAnyH_done (by kernel_rfl) ?_ _
        refine NoPanic.normal ?_
        go_wp2
        go_ret
        exact ⟨by first | rfl | (simp; done), hB0.trans (q9.mono hB0.size)⟩
    · rw [lyF_no (fun h => hy h.2)]
      have hy' : (decide (0 ≤ y) && decide (y ≤ 199)) = false := by rw [← Bool.decide_and]; exact decide_eq_false hy
      rw [hy'] at HI
      go_enter Try.func17, Try.ntmps17
      go_wp2_with fail
      generalize w.alloc (.cells #[.int .i64 n, .int .i64 s] 24) = W at *
      refine wp_region_noPanic ?_
      refine wp_region_held_drew (S := (fun w' => w'.cell? ⟨w.heap.size, 0, none⟩ = some (.int .i64 n) ∧ w'.cell? ⟨w.heap.size, 1, none⟩ = some (.int .i64 s))) (by kernel_rfl) ?_ (fun hHeld => ?_)
      · exact ⟨by assumption, by assumption⟩
      refine wpAnyH_take (i := 0) (oi := _) (v := ?_) rfl (by kernel_rfl) (by kernel_rfl) (by kernel_rfl) (fun _ _ _ h => h) (Or.inl ⟨by kernel_rfl, ?_⟩) (by assumption) ?_; rotate_left; (· (intro w hSw; (try dsimp only at hSw); go_simp; (first | done | with_reducible rfl)))
      try simp only [Act.put, List.getElem_toArray, List.getElem_cons_succ, List.getElem_cons_zero, List.setIfInBounds_toArray, List.set_cons_zero, List.set_cons_succ]
      refine wpAnyH_ready (rs := [1]) (by kernel_rfl) (by simp) ?_
      refine AllReadyH.cons (o := _) rfl (fun K hK => ?_) AllReadyH.nil
      go_simp
      first | (go_at_call 18; (with_reducible refine (HT.out _).mono ?_); rintro e w9 ⟨rfl, hb9⟩; have q9 : Below W.heap.size W w9 := hold_on (by assumption) hb9; have t9 := Two.below t0 q9 t0.lt; have t9c := t9.cell0; have t9d := t9.cell1) | (go_at_call 41; (with_reducible refine (HI.out _).mono ?_); rintro e w9 ⟨rfl, rfl⟩)
      refine hK.out _ _ (by first | assumption | ((try dsimp only); exact ⟨by assumption, by assumption⟩)) (fun hHeld => ?_)
      clear hK K
      try simp only [Act.put, List.getElem_toArray, List.getElem_cons_succ, List.getElem_cons_zero, List.setIfInBounds_toArray, List.set_cons_zero, List.set_cons_succ]
      refine wpAnyH_take (i := 2) (oi := _) (v := ?_) rfl (by kernel_rfl) (by kernel_rfl) (by kernel_rfl) (fun _ _ _ h => h) (Or.inl ⟨by kernel_rfl, ?_⟩) (by assumption) ?_; rotate_left; (· (intro w hSw; (try dsimp only at hSw); go_simp; (first | done | with_reducible rfl)))
      try simp only [Act.put, List.getElem_toArray, List.getElem_cons_succ, List.getElem_cons_zero, List.setIfInBounds_toArray, List.set_cons_zero, List.set_cons_succ]
      refine wpAnyH_take (i := 3) (oi := _) (v := ?_) rfl (by kernel_rfl) (by kernel_rfl) (by kernel_rfl) (fun _ _ _ h => h) (Or.inl ⟨by kernel_rfl, ?_⟩) (by assumption) ?_; rotate_left; (· (intro w hSw; (try dsimp only at hSw); go_simp; (first | done | with_reducible rfl)))
      try simp only [Act.put, List.getElem_toArray, List.getElem_cons_succ, List.getElem_cons_zero, List.setIfInBounds_toArray, List.set_cons_zero, List.set_cons_succ]
      refine wpAnyH_ready (rs := [4]) (by kernel_rfl) (by simp) ?_
      refine AllReadyH.cons (o := _) rfl (fun K hK => ?_) AllReadyH.nil
      go_simp
      first | (go_at_call 18; (with_reducible refine (HT.out _).mono ?_); rintro e w9 ⟨rfl, hb9⟩; have q9 : Below W.heap.size W w9 := hold_on (by assumption) hb9; have t9 := Two.below t0 q9 t0.lt; have t9c := t9.cell0; have t9d := t9.cell1) | (go_at_call 41; (with_reducible refine (HI.out _).mono ?_); rintro e w9 ⟨rfl, rfl⟩)
      refine hK.out _ _ (by first | assumption | ((try dsimp only); exact ⟨by assumption, by assumption⟩)) (fun hHeld => ?_)
      clear hK K
      try simp only [Act.put, List.getElem_toArray, List.getElem_cons_succ, List.getElem_cons_zero, List.setIfInBounds_toArray, List.set_cons_zero, List.set_cons_succ]
      refine wpAnyH_take (i := 5) (oi := _) (v := ?_) rfl (by kernel_rfl) (by kernel_rfl) (by kernel_rfl) (fun _ _ _ h => h) (Or.inl ⟨by kernel_rfl, ?_⟩) (by assumption) ?_; rotate_left; (· (intro w hSw; (try dsimp only at hSw); go_simp; (first | done | with_reducible rfl)))
      try simp only [Act.put, List.getElem_toArray, List.getElem_cons_succ, List.getElem_cons_zero, List.setIfInBounds_toArray, List.set_cons_zero, List.set_cons_succ]
      refine wpAnyH_take (i := 6) (oi := _) (v := ?_) rfl (by kernel_rfl) (by kernel_rfl) (by kernel_rfl) (fun _ _ _ h => h) (Or.inl ⟨by kernel_rfl, ?_⟩) (by assumption) ?_; rotate_left; (· (intro w hSw; (try dsimp only at hSw); go_simp; (first | done | with_reducible rfl)))
      try simp only [Act.put, List.getElem_toArray, List.getElem_cons_succ, List.getElem_cons_zero, List.setIfInBounds_toArray, List.set_cons_zero, List.set_cons_succ]
      refine wpAnyH_take (i := 7) (oi := _) (v := undef) rfl (by kernel_rfl) (by kernel_rfl) (by kernel_rfl) (fun _ _ _ h => h) (Or.inr ⟨by kernel_rfl, rfl⟩) (by assumption) ?_
      try simp only [Act.put, List.getElem_toArray, List.getElem_cons_succ, List.getElem_cons_zero, List.setIfInBounds_toArray, List.set_cons_zero, List.set_cons_succ]
      refine wpAnyH_take (i := 8) (oi := _) (v := undef) rfl (by kernel_rfl) (by kernel_rfl) (by kernel_rfl) (fun _ _ _ h => h) (Or.inr ⟨by kernel_rfl, rfl⟩) (by assumption) ?_
      try simp only [Act.put, List.getElem_toArray, List.getElem_cons_succ, List.getElem_cons_zero, List.setIfInBounds_toArray, List.set_cons_zero, List.set_cons_succ]
      refine wpAnyH_take (i := 9) (oi := _) (v := undef) rfl (by kernel_rfl) (by kernel_rfl) (by kernel_rfl) (fun _ _ _ h => h) (Or.inr ⟨by kernel_rfl, rfl⟩) (by assumption) ?_
      try simp only [Act.put, List.getElem_toArray, List.getElem_cons_succ, List.getElem_cons_zero, List.setIfInBounds_toArray, List.set_cons_zero, List.set_cons_succ]
      refine wpAnyH_take (i := 10) (oi := _) (v := undef) rfl (by kernel_rfl) (by kernel_rfl) (by kernel_rfl) (fun _ _ _ h => h) (Or.inr ⟨by kernel_rfl, rfl⟩) (by assumption) ?_
      try simp only [Act.put, List.getElem_toArray, List.getElem_cons_succ, List.getElem_cons_zero, List.setIfInBounds_toArray, List.set_cons_zero, List.set_cons_succ]
      refine wpAnyH_take (i := 11) (oi := _) (v := undef) rfl (by kernel_rfl) (by kernel_rfl) (by kernel_rfl) (fun _ _ _ h => h) (Or.inr ⟨by kernel_rfl, rfl⟩) (by assumption) ?_
      try simp only [Act.put, List.getElem_toArray, List.getElem_cons_succ, List.getElem_cons_zero, List.setIfInBounds_toArray, List.set_cons_zero, List.set_cons_succ]
      refine wpAnyH_ready (rs := [12]) (by kernel_rfl) (by simp) ?_
      refine AllReadyH.cons (o := _) rfl (fun K hK => ?_) AllReadyH.nil
      go_simp
      refine hK.out _ _ (by first | assumption | ((try dsimp only); exact ⟨by assumption, by assumption⟩)) (fun hHeld => ?_)
      clear hK K
      try simp only [Act.put, List.getElem_toArray, List.getElem_cons_succ, List.getElem_cons_zero, List.setIfInBounds_toArray, List.set_cons_zero, List.set_cons_succ]
      refine wpAnyH_take (i := 13) (oi := _) (v := undef) rfl (by kernel_rfl) (by kernel_rfl) (by kernel_rfl) (fun _ _ _ h => h) (Or.inr ⟨by kernel_rfl, rfl⟩) (by assumption) ?_
      try simp only [Act.put, List.getElem_toArray, List.getElem_cons_succ, List.getElem_cons_zero, List.setIfInBounds_toArray, List.set_cons_zero, List.set_cons_succ]
      refine wpAnyH_take (i := 14) (oi := _) (v := ?_) rfl (by kernel_rfl) (by kernel_rfl) (by kernel_rfl) (fun _ _ _ h => h) (Or.inl ⟨by kernel_rfl, ?_⟩) (by assumption) ?_; rotate_left; (· (intro w hSw; (try dsimp only at hSw); go_simp; (first | done | with_reducible rfl)))
      try simp only [Act.put, List.getElem_toArray, List.getElem_cons_succ, List.getElem_cons_zero, List.setIfInBounds_toArray, List.set_cons_zero, List.set_cons_succ]
      refine wpAnyH_take (i := 15) (oi := _) (v := ?_) rfl (by kernel_rfl) (by kernel_rfl) (by kernel_rfl) (fun _ _ _ h => h) (Or.inl ⟨by kernel_rfl, ?_⟩) (by assumption) ?_; rotate_left; (· (intro w hSw; (try dsimp only at hSw); go_simp; (first | done | with_reducible rfl)))
      try simp only [Act.put, List.getElem_toArray, List.getElem_cons_succ, List.getElem_cons_zero, List.setIfInBounds_toArray, List.set_cons_zero, List.set_cons_succ]
      refine wpAnyH_done (by kernel_rfl) ?_ _
      refine NoPanic.normal ?_
      go_wp2
      go_ret
      exact ⟨rfl, hB0.trans (q9.mono hB0.size)⟩
  · rw [lyF_no (fun h => ht h.1)]
    have ht' : tok n s = false := by simpa using ht
    rw [ht'] at HT
    go_enter Try.func17, Try.ntmps17
    go_wp2_with fail
    generalize w.alloc (.cells #[.int .i64 n, .int .i64 s] 24) = W at *
    refine wp_region_noPanic ?_
    refine wp_region_held_drew (S := (fun w' => w'.cell? ⟨w.heap.size, 0, none⟩ = some (.int .i64 n) ∧ w'.cell? ⟨w.heap.size, 1, none⟩ = some (.int .i64 s))) (by kernel_rfl) ?_ (fun hHeld => ?_)
    · exact ⟨by assumption, by assumption⟩
    refine wpAnyH_take (i := 0) (oi := _) (v := ?_) rfl (by kernel_rfl) (by kernel_rfl) (by kernel_rfl) (fun _ _ _ h => h) (Or.inl ⟨by kernel_rfl, ?_⟩) (by assumption) ?_; rotate_left; (· (intro w hSw; (try dsimp only at hSw); go_simp; (first | done | with_reducible rfl)))
    try simp only [Act.put, List.getElem_toArray, List.getElem_cons_succ, List.getElem_cons_zero, List.setIfInBounds_toArray, List.set_cons_zero, List.set_cons_succ]
    refine wpAnyH_ready (rs := [1]) (by kernel_rfl) (by simp) ?_
    refine AllReadyH.cons (o := _) rfl (fun K hK => ?_) AllReadyH.nil
    go_simp
    first | (go_at_call 18; (with_reducible refine (HT.out _).mono ?_); rintro e w9 ⟨rfl, hb9⟩; have q9 : Below W.heap.size W w9 := hold_on (by assumption) hb9; have t9 := Two.below t0 q9 t0.lt; have t9c := t9.cell0; have t9d := t9.cell1)
    refine hK.out _ _ (by first | assumption | ((try dsimp only); exact ⟨by assumption, by assumption⟩)) (fun hHeld => ?_)
    clear hK K
    try simp only [Act.put, List.getElem_toArray, List.getElem_cons_succ, List.getElem_cons_zero, List.setIfInBounds_toArray, List.set_cons_zero, List.set_cons_succ]
    refine wpAnyH_take (i := 2) (oi := _) (v := ?_) rfl (by kernel_rfl) (by kernel_rfl) (by kernel_rfl) (fun _ _ _ h => h) (Or.inl ⟨by kernel_rfl, ?_⟩) (by assumption) ?_; rotate_left; (· (intro w hSw; (try dsimp only at hSw); go_simp; (first | done | with_reducible rfl)))
    try simp only [Act.put, List.getElem_toArray, List.getElem_cons_succ, List.getElem_cons_zero, List.setIfInBounds_toArray, List.set_cons_zero, List.set_cons_succ]
    refine wpAnyH_take (i := 3) (oi := _) (v := undef) rfl (by kernel_rfl) (by kernel_rfl) (by kernel_rfl) (fun _ _ _ h => h) (Or.inr ⟨by kernel_rfl, rfl⟩) (by assumption) ?_
    try simp only [Act.put, List.getElem_toArray, List.getElem_cons_succ, List.getElem_cons_zero, List.setIfInBounds_toArray, List.set_cons_zero, List.set_cons_succ]
    refine wpAnyH_ready (rs := [4]) (by kernel_rfl) (by simp) ?_
    refine AllReadyH.cons (o := _) rfl (fun K hK => ?_) AllReadyH.nil
    go_simp
    refine hK.out _ _ (by first | assumption | ((try dsimp only); exact ⟨by assumption, by assumption⟩)) (fun hHeld => ?_)
    clear hK K
    try simp only [Act.put, List.getElem_toArray, List.getElem_cons_succ, List.getElem_cons_zero, List.setIfInBounds_toArray, List.set_cons_zero, List.set_cons_succ]
    refine wpAnyH_take (i := 5) (oi := _) (v := ?_) rfl (by kernel_rfl) (by kernel_rfl) (by kernel_rfl) (fun _ _ _ h => h) (Or.inl ⟨by kernel_rfl, ?_⟩) (by assumption) ?_; rotate_left; (· (intro w hSw; (try dsimp only at hSw); go_simp; (first | done | with_reducible rfl)))
    try simp only [Act.put, List.getElem_toArray, List.getElem_cons_succ, List.getElem_cons_zero, List.setIfInBounds_toArray, List.set_cons_zero, List.set_cons_succ]
    refine wpAnyH_take (i := 6) (oi := _) (v := ?_) rfl (by kernel_rfl) (by kernel_rfl) (by kernel_rfl) (fun _ _ _ h => h) (Or.inl ⟨by kernel_rfl, ?_⟩) (by assumption) ?_; rotate_left; (· (intro w hSw; (try dsimp only at hSw); go_simp; (first | done | with_reducible rfl)))
    try simp only [Act.put, List.getElem_toArray, List.getElem_cons_succ, List.getElem_cons_zero, List.setIfInBounds_toArray, List.set_cons_zero, List.set_cons_succ]
    refine wpAnyH_take (i := 7) (oi := _) (v := undef) rfl (by kernel_rfl) (by kernel_rfl) (by kernel_rfl) (fun _ _ _ h => h) (Or.inr ⟨by kernel_rfl, rfl⟩) (by assumption) ?_
    try simp only [Act.put, List.getElem_toArray, List.getElem_cons_succ, List.getElem_cons_zero, List.setIfInBounds_toArray, List.set_cons_zero, List.set_cons_succ]
    refine wpAnyH_take (i := 8) (oi := _) (v := undef) rfl (by kernel_rfl) (by kernel_rfl) (by kernel_rfl) (fun _ _ _ h => h) (Or.inr ⟨by kernel_rfl, rfl⟩) (by assumption) ?_
    try simp only [Act.put, List.getElem_toArray, List.getElem_cons_succ, List.getElem_cons_zero, List.setIfInBounds_toArray, List.set_cons_zero, List.set_cons_succ]
    refine wpAnyH_take (i := 9) (oi := _) (v := undef) rfl (by kernel_rfl) (by kernel_rfl) (by kernel_rfl) (fun _ _ _ h => h) (Or.inr ⟨by kernel_rfl, rfl⟩) (by assumption) ?_
    try simp only [Act.put, List.getElem_toArray, List.getElem_cons_succ, List.getElem_cons_zero, List.setIfInBounds_toArray, List.set_cons_zero, List.set_cons_succ]
    refine wpAnyH_take (i := 10) (oi := _) (v := undef) rfl (by kernel_rfl) (by kernel_rfl) (by kernel_rfl) (fun _ _ _ h => h) (Or.inr ⟨by kernel_rfl, rfl⟩) (by assumption) ?_
    try simp only [Act.put, List.getElem_toArray, List.getElem_cons_succ, List.getElem_cons_zero, List.setIfInBounds_toArray, List.set_cons_zero, List.set_cons_succ]
    refine wpAnyH_take (i := 11) (oi := _) (v := undef) rfl (by kernel_rfl) (by kernel_rfl) (by kernel_rfl) (fun _ _ _ h => h) (Or.inr ⟨by kernel_rfl, rfl⟩) (by assumption) ?_
    try simp only [Act.put, List.getElem_toArray, List.getElem_cons_succ, List.getElem_cons_zero, List.setIfInBounds_toArray, List.set_cons_zero, List.set_cons_succ]
    refine wpAnyH_ready (rs := [12]) (by kernel_rfl) (by simp) ?_
    refine AllReadyH.cons (o := _) rfl (fun K hK => ?_) AllReadyH.nil
    go_simp
    refine hK.out _ _ (by first | assumption | ((try dsimp only); exact ⟨by assumption, by assumption⟩)) (fun hHeld => ?_)
    clear hK K
    try simp only [Act.put, List.getElem_toArray, List.getElem_cons_succ, List.getElem_cons_zero, List.setIfInBounds_toArray, List.set_cons_zero, List.set_cons_succ]
    refine wpAnyH_take (i := 13) (oi := _) (v := undef) rfl (by kernel_rfl) (by kernel_rfl) (by kernel_rfl) (fun _ _ _ h => h) (Or.inr ⟨by kernel_rfl, rfl⟩) (by assumption) ?_
    try simp only [Act.put, List.getElem_toArray, List.getElem_cons_succ, List.getElem_cons_zero, List.setIfInBounds_toArray, List.set_cons_zero, List.set_cons_succ]
    refine wpAnyH_take (i := 14) (oi := _) (v := ?_) rfl (by kernel_rfl) (by kernel_rfl) (by kernel_rfl) (fun _ _ _ h => h) (Or.inl ⟨by kernel_rfl, ?_⟩) (by assumption) ?_; rotate_left; (· (intro w hSw; (try dsimp only at hSw); go_simp; (first | done | with_reducible rfl)))
    try simp only [Act.put, List.getElem_toArray, List.getElem_cons_succ, List.getElem_cons_zero, List.setIfInBounds_toArray, List.set_cons_zero, List.set_cons_succ]
    refine wpAnyH_take (i := 15) (oi := _) (v := ?_) rfl (by kernel_rfl) (by kernel_rfl) (by kernel_rfl) (fun _ _ _ h => h) (Or.inl ⟨by kernel_rfl, ?_⟩) (by assumption) ?_; rotate_left; (· (intro w hSw; (try dsimp only at hSw); go_simp; (first | done | with_reducible rfl)))
    try simp only [Act.put, List.getElem_toArray, List.getElem_cons_succ, List.getElem_cons_zero, List.setIfInBounds_toArray, List.set_cons_zero, List.set_cons_succ]
    refine wpAnyH_done (by kernel_rfl) ?_ _
    refine NoPanic.normal ?_
    go_wp2
    go_ret
    exact ⟨rfl, hB0.trans (q9.mono hB0.size)⟩

set_option maxHeartbeats 4000000 in
theorem specLongBefore_any (n s y : Int) (w : World) :
    Calls Try.prog 22 #[(.agg #[.int .i64 (n), .int .i64 (s)]), .int .i64 y] w fun e w' => e = .returned (.int .i64 (lbF n s y)) ∧ Below w.heap.size w w' := by
  
  by_cases ht : tok n s = true
  · by_cases hy : 0 ≤ y ∧ y ≤ 200
    · obtain ⟨N, S, rfl, rfl, hN⟩ := tokN_of ht
      obtain ⟨Y, rfl⟩ := Int.eq_ofNat_of_zero_le hy.1
      obtain ⟨b1, b2, b3, b4, _⟩ := tokN_bd hN
      
      rw [lbF_yes hN (by omega)]
      have HS := Lib.hid (fun k => fl_succ (n := N) (s := S) (by omega) (by omega) k)
      have HB := Lib.hid (fun (k : Nat) => show flN N S k ≤ k by
        unfold flN
        have : k * S / N ≤ k * N / N := Nat.div_le_div_right (Nat.mul_le_mul_left k (by omega))
        rwa [Nat.mul_div_cancel _ (by omega)] at this)
      have HY := Lib.hid (fun (k : Nat) (hk : k ≤ 199) w => (specLongYear_any (N : Int) (S : Int) (k : Int) w).mono (R' := fun e w' => e = .returned (.bool (letN N S k)) ∧ Below w.heap.size w w') (fun e w' h => by rw [lyF_yes hN hk] at h; exact h))
      have H0 : Hid (flN N S 0 = 0) := by show _ = _; unfold flN; simp
      clear hN
      go_enter Try.func22, Try.ntmps22
      go_wp2_with fail
      refine (specTurnOk_any _ _ _).mono ?_; rintro e w1 ⟨rfl, hb1⟩
      have hz1 := hb1.size
      try simp at hz1
      have t1 : Two w1 (w.heap.size) (.int .i64 N) (.int .i64 S) 24 := Two.below (by repeat (first | assumption | exact Two.new' _ _ _ _ _ (by simp) | refine Two.alloc ?_ _ | refine Two.drewN ?_ _)) hb1 (by first | omega | (simp <;> omega))
      have hlt1 : (w.heap.size) < w1.heap.size := t1.lt
      have hnt1 : ¬ (w.heap.size) = w1.heap.size := Nat.ne_of_lt hlt1
      have t1c := t1.cell0
      have t1d := t1.cell1
      rw [ht]
      clear ht
      go_wp2_with fail
      refine (l1In_any _ _ _ _).mono ?_; rintro e w2 ⟨rfl, rfl⟩
      rw [decide_eq_true hy.1, decide_eq_true hy.2]
      have hB1 : Below w.heap.size w w1 := (by repeat (first | exact Below.refl _ _ | assumption | (refine Below.trans ?_ (Below.mono (by assumption) (by first | omega | (simp <;> omega)))) | (refine Below.alloc ?_ (by first | omega | (simp <;> omega)) _) | (refine below_drewN ?_ _) | (refine Below.drew ?_) | (refine Below.setCell ?_ (by first | omega | (simp <;> omega)) _)))
      go_wp2_with fail
      go_loopw [5, 6] (fun x z wr => ∃ k : Nat, x = .int .i64 ((flN N S k : Nat) : Int) ∧ z = .int .i64 k ∧ k ≤ Y ∧ Two wr w.heap.size (.int .i64 N) (.int .i64 S) 24 ∧ Below w.heap.size w wr) (fun _ z _ => Y - (intOf z).toNat)
      case atStart => exact ⟨0, by rw [H0.out]; rfl, rfl, by omega, t1, hB1⟩
      case round =>
        obtain ⟨k, rfl, rfl, hk, t3, hB3⟩ := hrel
        clear t1 t1c t1d hB1 hb1
        have c0 := t3.cell0
        have c1 := t3.cell1
        by_cases hkm : k < Y
        · have hkm' : (k : Int) < Y := by omega
          have hs := Lib.hid (HS.out k)
          have hbd := HB.out k
          go_wp2_with fail
          refine (HY.out k (by omega) _).mono ?_; rintro e w4 ⟨rfl, hb4⟩
          have t4 := t3.below hb4 t3.lt
          have hB4 := hB3.trans (hb4.mono hB3.size)
          clear hb4 t3 hB3 c0 c1
          generalize flN N S k = F at *
          cases hL : letN N S k with
          | false =>
            have hs2 := hs.out
            rw [hL] at hs2
            have hs3 := Lib.hid (show flN N S (k + 1) = F from hs2)
            clear hs2 hs
            go_wp2_with fail
            go_roundw
            case rel => exact ⟨k + 1, by rw [hs3.out], by go_num, by omega, t4, hB4⟩
            case measure => simp only [intOf]; omega
          | true =>
            have hs2 := hs.out
            rw [hL] at hs2
            have hs3 := Lib.hid (show flN N S (k + 1) = F + 1 from hs2)
            clear hs2 hs
            go_wp2_with fail
            go_roundw
            case rel => exact ⟨k + 1, by rw [hs3.out]; go_num, by go_num, by omega, t4, hB4⟩
            case measure => simp only [intOf]; omega
        · obtain rfl : k = Y := by omega
          have hkm' : decide ((k : Int) < k) = false := by simp
          go_wp2
          go_ret
          exact ⟨rfl, hB3⟩
    · 
      have hy' : (decide (0 ≤ y) && decide (y ≤ 200)) = false := by rw [← Bool.decide_and]; exact decide_eq_false hy
      rw [lbF_no (fun h => hy h.2)]
      go_enter Try.func22, Try.ntmps22
      go_wp2_with fail
      refine (specTurnOk_any _ _ _).mono ?_; rintro e w1 ⟨rfl, hb1⟩
      have hz1 := hb1.size
      try simp at hz1
      have t1 : Two w1 (w.heap.size) (.int .i64 n) (.int .i64 s) 24 := Two.below (by repeat (first | assumption | exact Two.new' _ _ _ _ _ (by simp) | refine Two.alloc ?_ _ | refine Two.drewN ?_ _)) hb1 (by first | omega | (simp <;> omega))
      have hlt1 : (w.heap.size) < w1.heap.size := t1.lt
      have hnt1 : ¬ (w.heap.size) = w1.heap.size := Nat.ne_of_lt hlt1
      have t1c := t1.cell0
      have t1d := t1.cell1
      rw [ht]
      go_wp2_with fail
      refine (l1In_any _ _ _ _).mono ?_; rintro e w2 ⟨rfl, rfl⟩
      rw [hy']
      go_wp2
      go_ret
      exact ⟨rfl, (by repeat (first | exact Below.refl _ _ | assumption | (refine Below.trans ?_ (Below.mono (by assumption) (by first | omega | (simp <;> omega)))) | (refine Below.alloc ?_ (by first | omega | (simp <;> omega)) _) | (refine below_drewN ?_ _) | (refine Below.drew ?_) | (refine Below.setCell ?_ (by first | omega | (simp <;> omega)) _)))⟩
  · 
    have ht' : tok n s = false := by simpa using ht
    rw [lbF_no (fun h => ht h.1)]
    go_enter Try.func22, Try.ntmps22
    go_wp2_with fail
    refine (specTurnOk_any _ _ _).mono ?_; rintro e w1 ⟨rfl, hb1⟩
    have hz1 := hb1.size
    try simp at hz1
    have t1 : Two w1 (w.heap.size) (.int .i64 n) (.int .i64 s) 24 := Two.below (by repeat (first | assumption | exact Two.new' _ _ _ _ _ (by simp) | refine Two.alloc ?_ _ | refine Two.drewN ?_ _)) hb1 (by first | omega | (simp <;> omega))
    have hlt1 : (w.heap.size) < w1.heap.size := t1.lt
    have hnt1 : ¬ (w.heap.size) = w1.heap.size := Nat.ne_of_lt hlt1
    have t1c := t1.cell0
    have t1d := t1.cell1
    rw [ht']
    go_wp2
    go_ret
    exact ⟨rfl, (by repeat (first | exact Below.refl _ _ | assumption | (refine Below.trans ?_ (Below.mono (by assumption) (by first | omega | (simp <;> omega)))) | (refine Below.alloc ?_ (by first | omega | (simp <;> omega)) _) | (refine below_drewN ?_ _) | (refine Below.drew ?_) | (refine Below.setCell ?_ (by first | omega | (simp <;> omega)) _)))⟩

set_option maxHeartbeats 1000000 in
theorem l14Ok_any (n s d : Int) (w : World) :
    Calls Try.prog 49 #[(.agg #[.int .i64 (n), .int .i64 (s)]), .int .i64 d] w fun e w' => e = .returned (.bool (tok n s && (decide (1 ≤ d) && decide (d ≤ 400)))) ∧ Below w.heap.size w w' := by
  
  cases ht : tok n s with
  | true =>
    go_enter Try.func49, Try.ntmps49
    go_wp2_with fail
    refine (specTurnOk_any _ _ _).mono ?_; rintro e w1 ⟨rfl, hb1⟩
    have hz1 := hb1.size
    try simp at hz1
    have t1 : Two w1 (w.heap.size) (.int .i64 n) (.int .i64 s) 24 := Two.below (by repeat (first | assumption | exact Two.new' _ _ _ _ _ (by simp) | refine Two.alloc ?_ _ | refine Two.drewN ?_ _)) hb1 (by first | omega | (simp <;> omega))
    have hlt1 : (w.heap.size) < w1.heap.size := t1.lt
    have hnt1 : ¬ (w.heap.size) = w1.heap.size := Nat.ne_of_lt hlt1
    have t1c := t1.cell0
    have t1d := t1.cell1
    rw [ht]
    go_wp2_with fail
    refine (l1In_any _ _ _ _).mono ?_; rintro e w2 ⟨rfl, rfl⟩
    go_wp2
    go_ret
    exact ⟨by first | rfl | exact ret_bool (by simp), (by repeat (first | exact Below.refl _ _ | assumption | (refine Below.trans ?_ (Below.mono (by assumption) (by first | omega | (simp <;> omega)))) | (refine Below.alloc ?_ (by first | omega | (simp <;> omega)) _) | (refine below_drewN ?_ _) | (refine Below.drew ?_) | (refine Below.setCell ?_ (by first | omega | (simp <;> omega)) _)))⟩
  | false =>
    go_enter Try.func49, Try.ntmps49
    go_wp2_with fail
    refine (specTurnOk_any _ _ _).mono ?_; rintro e w1 ⟨rfl, hb1⟩
    have hz1 := hb1.size
    try simp at hz1
    have t1 : Two w1 (w.heap.size) (.int .i64 n) (.int .i64 s) 24 := Two.below (by repeat (first | assumption | exact Two.new' _ _ _ _ _ (by simp) | refine Two.alloc ?_ _ | refine Two.drewN ?_ _)) hb1 (by first | omega | (simp <;> omega))
    have hlt1 : (w.heap.size) < w1.heap.size := t1.lt
    have hnt1 : ¬ (w.heap.size) = w1.heap.size := Nat.ne_of_lt hlt1
    have t1c := t1.cell0
    have t1d := t1.cell1
    rw [ht]
    go_wp2
    go_ret
    exact ⟨by first | rfl | exact ret_bool (by simp), (by repeat (first | exact Below.refl _ _ | assumption | (refine Below.trans ?_ (Below.mono (by assumption) (by first | omega | (simp <;> omega)))) | (refine Below.alloc ?_ (by first | omega | (simp <;> omega)) _) | (refine below_drewN ?_ _) | (refine Below.drew ?_) | (refine Below.setCell ?_ (by first | omega | (simp <;> omega)) _)))⟩

set_option maxHeartbeats 4000000 in
theorem specDaysBefore_any (n s d y : Int) (w : World) :
    Calls Try.prog 25 #[(.agg #[.int .i64 (n), .int .i64 (s)]), .int .i64 d, .int .i64 y] w fun e w' => e = .returned (.int .i64 (dbF n s d y)) ∧ Below w.heap.size w w' := by
  
  have H1 := Lib.hid (fun w => l14Ok_any n s d w)
  cases hc : (tok n s && (decide (1 ≤ d) && decide (d ≤ 400))) with
  | false =>
    rw [hc] at H1
    rw [dbF_no (fun h => by rw [h.1, decide_eq_true h.2.1.1, decide_eq_true h.2.1.2] at hc; exact absurd hc (by simp))]
    go_enter Try.func25, Try.ntmps25
    go_wp2_with fail
    refine (H1.out _).mono ?_; rintro e w1 ⟨rfl, hb1⟩
    have hz1 := hb1.size
    try simp at hz1
    have t1 : Two w1 (w.heap.size) (.int .i64 n) (.int .i64 s) 24 := Two.below (by repeat (first | assumption | exact Two.new' _ _ _ _ _ (by simp) | refine Two.alloc ?_ _ | refine Two.drewN ?_ _)) hb1 (by first | omega | (simp <;> omega))
    have hlt1 : (w.heap.size) < w1.heap.size := t1.lt
    have hnt1 : ¬ (w.heap.size) = w1.heap.size := Nat.ne_of_lt hlt1
    have t1c := t1.cell0
    have t1d := t1.cell1
    go_wp2
    go_ret
    exact ⟨rfl, (by repeat (first | exact Below.refl _ _ | assumption | (refine Below.trans ?_ (Below.mono (by assumption) (by first | omega | (simp <;> omega)))) | (refine Below.alloc ?_ (by first | omega | (simp <;> omega)) _) | (refine below_drewN ?_ _) | (refine Below.drew ?_) | (refine Below.setCell ?_ (by first | omega | (simp <;> omega)) _)))⟩
  | true =>
    rw [hc] at H1
    simp only [Bool.and_eq_true, decide_eq_true_eq] at hc
    obtain ⟨ht, d1, d2⟩ := hc
    by_cases hy : 0 ≤ y ∧ y ≤ 200
    · have H2 := Lib.hid (fun w => specLongBefore_any n s y w)
      have e : dbF n s d y = y * d + lbF n s y := by
        obtain ⟨N, S, rfl, rfl, hN⟩ := tokN_of ht
        obtain ⟨Y, rfl⟩ := Int.eq_ofNat_of_zero_le hy.1
        obtain ⟨D, rfl⟩ := Int.eq_ofNat_of_zero_le (show 0 ≤ d by omega)
        rw [dbF_yes hN (by omega) (by omega) (by omega), lbF_yes hN (by omega)]
        unfold dbN
        rw [Int.natCast_add, Int.natCast_mul]
      have hl : 0 ≤ lbF n s y ∧ lbF n s y ≤ 200 := by
        obtain ⟨N, S, rfl, rfl, hN⟩ := tokN_of ht
        obtain ⟨Y, rfl⟩ := Int.eq_ofNat_of_zero_le hy.1
        obtain ⟨b1, b2, b3, b4, _⟩ := tokN_bd hN
        rw [lbF_yes hN (by omega)]
        have : flN N S Y ≤ Y := by
          unfold flN
          have : Y * S / N ≤ Y * N / N := Nat.div_le_div_right (Nat.mul_le_mul_left Y (by omega))
          rwa [Nat.mul_div_cancel _ (by omega)] at this
        omega
      have m0 : 0 ≤ y * d := Int.mul_nonneg hy.1 (by omega)
      have m1 : y * d ≤ 200 * 400 := Int.mul_le_mul hy.2 d2 (by omega) (by omega)
      rw [e]
      generalize lbF n s y = L at *
      have hw1 : IntKind.i64.wrap (y * d) = y * d := IntWalk.i64_in _ (by omega)
      have hw2 : IntKind.i64.wrap (y * d + L) = y * d + L := IntWalk.i64_in _ (by omega)
      clear e
      go_enter Try.func25, Try.ntmps25
      go_wp2_with fail
      refine (H1.out _).mono ?_; rintro e w1 ⟨rfl, hb1⟩
      have hz1 := hb1.size
      try simp at hz1
      have t1 : Two w1 (w.heap.size) (.int .i64 n) (.int .i64 s) 24 := Two.below (by repeat (first | assumption | exact Two.new' _ _ _ _ _ (by simp) | refine Two.alloc ?_ _ | refine Two.drewN ?_ _)) hb1 (by first | omega | (simp <;> omega))
      have hlt1 : (w.heap.size) < w1.heap.size := t1.lt
      have hnt1 : ¬ (w.heap.size) = w1.heap.size := Nat.ne_of_lt hlt1
      have t1c := t1.cell0
      have t1d := t1.cell1
      go_wp2_with fail
      refine (l1In_any _ _ _ _).mono ?_; rintro e w2 ⟨rfl, rfl⟩
      rw [decide_eq_true hy.1, decide_eq_true hy.2]
      have hB1 : Below w.heap.size w w1 := (by repeat (first | exact Below.refl _ _ | assumption | (refine Below.trans ?_ (Below.mono (by assumption) (by first | omega | (simp <;> omega)))) | (refine Below.alloc ?_ (by first | omega | (simp <;> omega)) _) | (refine below_drewN ?_ _) | (refine Below.drew ?_) | (refine Below.setCell ?_ (by first | omega | (simp <;> omega)) _)))
      go_wp2_with fail
      refine (H2.out _).mono ?_; rintro e w3 ⟨rfl, hb3⟩
      have hB3 := hB1.trans (hb3.mono hB1.size)
      go_wp2
      go_ret
      exact ⟨rfl, hB3⟩
    · have hy' : (decide (0 ≤ y) && decide (y ≤ 200)) = false := by rw [← Bool.decide_and]; exact decide_eq_false hy
      rw [dbF_no (fun h => hy h.2.2)]
      go_enter Try.func25, Try.ntmps25
      go_wp2_with fail
      refine (H1.out _).mono ?_; rintro e w1 ⟨rfl, hb1⟩
      have hz1 := hb1.size
      try simp at hz1
      have t1 : Two w1 (w.heap.size) (.int .i64 n) (.int .i64 s) 24 := Two.below (by repeat (first | assumption | exact Two.new' _ _ _ _ _ (by simp) | refine Two.alloc ?_ _ | refine Two.drewN ?_ _)) hb1 (by first | omega | (simp <;> omega))
      have hlt1 : (w.heap.size) < w1.heap.size := t1.lt
      have hnt1 : ¬ (w.heap.size) = w1.heap.size := Nat.ne_of_lt hlt1
      have t1c := t1.cell0
      have t1d := t1.cell1
      go_wp2_with fail
      refine (l1In_any _ _ _ _).mono ?_; rintro e w2 ⟨rfl, rfl⟩
      rw [hy']
      go_wp2
      go_ret
      exact ⟨rfl, (by repeat (first | exact Below.refl _ _ | assumption | (refine Below.trans ?_ (Below.mono (by assumption) (by first | omega | (simp <;> omega)))) | (refine Below.alloc ?_ (by first | omega | (simp <;> omega)) _) | (refine below_drewN ?_ _) | (refine Below.drew ?_) | (refine Below.setCell ?_ (by first | omega | (simp <;> omega)) _)))⟩

set_option maxHeartbeats 4000000 in
theorem specDayNumber_any (n s d y x : Int) (w : World) :
    Calls Try.prog 28 #[(.agg #[.int .i64 (n), .int .i64 (s)]), .int .i64 d, .int .i64 y, .int .i64 x] w fun e w' => e = .returned (.int .i64 (dayF n s d y x)) ∧ Below w.heap.size w w' := by
  
  have H1 := Lib.hid (fun w => l14Ok_any n s d w)
  cases hc : (tok n s && (decide (1 ≤ d) && decide (d ≤ 400))) with
  | false =>
    rw [hc] at H1
    rw [dayF_no (fun h => by rw [h.1.1, decide_eq_true h.1.2.1.1, decide_eq_true h.1.2.1.2] at hc; exact absurd hc (by simp))]
    go_enter Try.func28, Try.ntmps28
    go_wp2_with fail
    refine (H1.out _).mono ?_; rintro e w1 ⟨rfl, hb1⟩
    have hz1 := hb1.size
    try simp at hz1
    have t1 : Two w1 (w.heap.size) (.int .i64 n) (.int .i64 s) 24 := Two.below (by repeat (first | assumption | exact Two.new' _ _ _ _ _ (by simp) | refine Two.alloc ?_ _ | refine Two.drewN ?_ _)) hb1 (by first | omega | (simp <;> omega))
    have hlt1 : (w.heap.size) < w1.heap.size := t1.lt
    have hnt1 : ¬ (w.heap.size) = w1.heap.size := Nat.ne_of_lt hlt1
    have t1c := t1.cell0
    have t1d := t1.cell1
    go_wp2
    go_ret
    exact ⟨rfl, (by repeat (first | exact Below.refl _ _ | assumption | (refine Below.trans ?_ (Below.mono (by assumption) (by first | omega | (simp <;> omega)))) | (refine Below.alloc ?_ (by first | omega | (simp <;> omega)) _) | (refine below_drewN ?_ _) | (refine Below.drew ?_) | (refine Below.setCell ?_ (by first | omega | (simp <;> omega)) _)))⟩
  | true =>
    rw [hc] at H1
    simp only [Bool.and_eq_true, decide_eq_true_eq] at hc
    obtain ⟨ht, d1, d2⟩ := hc
    by_cases hy : 0 ≤ y ∧ y ≤ 199
    · obtain ⟨L, hL⟩ : ∃ L, lyF n s y = L := ⟨_, rfl⟩
      have H2 := Lib.hid (fun w => specLongYear_any n s y w)
      rw [hL] at H2
      have H3 := Lib.hid (fun w => specDaysBefore_any n s d y w)
      have hdb : 0 ≤ dbF n s d y ∧ dbF n s d y ≤ 100000 := by
        obtain ⟨N, S, rfl, rfl, hN⟩ := tokN_of ht
        obtain ⟨Y, rfl⟩ := Int.eq_ofNat_of_zero_le hy.1
        obtain ⟨D, rfl⟩ := Int.eq_ofNat_of_zero_le (show 0 ≤ d by omega)
        obtain ⟨b1, b2, b3, b4, _⟩ := tokN_bd hN
        rw [dbF_yes hN (by omega) (by omega) (by omega)]
        have := dbN_le (n := N) (s := S) (by omega) (by omega) (d := D) (by omega) (y := Y) (by omega)
        omega
      have hy1 : IntKind.i64.wrap (d + 1) = d + 1 := IntWalk.i64_in _ (by omega)
      have hd0 : IntKind.i64.wrap (d - 1) = d - 1 := IntWalk.i64_in _ (by omega)
      have hd1 : IntKind.i64.wrap (d + 1 - 1) = d := by rw [show d + 1 - 1 = d by omega]; exact IntWalk.i64_in _ (by omega)
      by_cases hx : 0 ≤ x ∧ x < d + (L.toNat : Int)
      · have e : dayF n s d y x = dbF n s d y + x := by
          unfold dayF
          rw [hL, if_pos ⟨⟨ht, ⟨d1, d2⟩, hy⟩, hx⟩]
        rw [e]
        clear e hL
        have hl1 : L.toNat ≤ 1 := by cases L <;> simp
        generalize dbF n s d y = DB at *
        have hw : IntKind.i64.wrap (DB + x) = DB + x := IntWalk.i64_in _ (by omega)
        cases L with
        | true =>
          have hx1 : (decide (0 ≤ x) && decide (x ≤ d)) = true := by rw [decide_eq_true hx.1, decide_eq_true (show x ≤ d by have := hx.2; simp at this; omega)]; rfl
          go_enter Try.func28, Try.ntmps28
          go_wp2_with fail
          refine (H1.out _).mono ?_; rintro e w1 ⟨rfl, hb1⟩
          have hz1 := hb1.size
          try simp at hz1
          have t1 : Two w1 (w.heap.size) (.int .i64 n) (.int .i64 s) 24 := Two.below (by repeat (first | assumption | exact Two.new' _ _ _ _ _ (by simp) | refine Two.alloc ?_ _ | refine Two.drewN ?_ _)) hb1 (by first | omega | (simp <;> omega))
          have hlt1 : (w.heap.size) < w1.heap.size := t1.lt
          have hnt1 : ¬ (w.heap.size) = w1.heap.size := Nat.ne_of_lt hlt1
          have t1c := t1.cell0
          have t1d := t1.cell1
          go_wp2_with fail
          refine (l1In_any _ _ _ _).mono ?_; rintro e w2 ⟨rfl, rfl⟩
          rw [decide_eq_true hy.1, decide_eq_true hy.2]
          have hB1 : Below w.heap.size w w1 := (by repeat (first | exact Below.refl _ _ | assumption | (refine Below.trans ?_ (Below.mono (by assumption) (by first | omega | (simp <;> omega)))) | (refine Below.alloc ?_ (by first | omega | (simp <;> omega)) _) | (refine below_drewN ?_ _) | (refine Below.drew ?_) | (refine Below.setCell ?_ (by first | omega | (simp <;> omega)) _)))
          go_wp2_with fail
          refine (H2.out _).mono ?_; rintro e w3 ⟨rfl, hb3⟩
          have t3 := t1.below hb3 t1.lt
          have t3c := t3.cell0
          have t3d := t3.cell1
          have hB3 := hB1.trans (hb3.mono hB1.size)
          go_wp2_with fail
          refine (l1In_any _ _ _ _).mono ?_; rintro e w4 ⟨rfl, rfl⟩
          rw [hx1]
          go_wp2_with fail
          refine (H3.out _).mono ?_; rintro e w5 ⟨rfl, hb5⟩
          have hB5 := hB3.trans (hb5.mono hB3.size)
          go_wp2
          go_ret
          exact ⟨rfl, hB5⟩
        | false =>
          have hx1 : (decide (0 ≤ x) && decide (x ≤ d - 1)) = true := by rw [decide_eq_true hx.1, decide_eq_true (show x ≤ d - 1 by have := hx.2; simp at this; omega)]; rfl
          go_enter Try.func28, Try.ntmps28
          go_wp2_with fail
          refine (H1.out _).mono ?_; rintro e w1 ⟨rfl, hb1⟩
          have hz1 := hb1.size
          try simp at hz1
          have t1 : Two w1 (w.heap.size) (.int .i64 n) (.int .i64 s) 24 := Two.below (by repeat (first | assumption | exact Two.new' _ _ _ _ _ (by simp) | refine Two.alloc ?_ _ | refine Two.drewN ?_ _)) hb1 (by first | omega | (simp <;> omega))
          have hlt1 : (w.heap.size) < w1.heap.size := t1.lt
          have hnt1 : ¬ (w.heap.size) = w1.heap.size := Nat.ne_of_lt hlt1
          have t1c := t1.cell0
          have t1d := t1.cell1
          go_wp2_with fail
          refine (l1In_any _ _ _ _).mono ?_; rintro e w2 ⟨rfl, rfl⟩
          rw [decide_eq_true hy.1, decide_eq_true hy.2]
          have hB1 : Below w.heap.size w w1 := (by repeat (first | exact Below.refl _ _ | assumption | (refine Below.trans ?_ (Below.mono (by assumption) (by first | omega | (simp <;> omega)))) | (refine Below.alloc ?_ (by first | omega | (simp <;> omega)) _) | (refine below_drewN ?_ _) | (refine Below.drew ?_) | (refine Below.setCell ?_ (by first | omega | (simp <;> omega)) _)))
          go_wp2_with fail
          refine (H2.out _).mono ?_; rintro e w3 ⟨rfl, hb3⟩
          have t3 := t1.below hb3 t1.lt
          have t3c := t3.cell0
          have t3d := t3.cell1
          have hB3 := hB1.trans (hb3.mono hB1.size)
          go_wp2_with fail
          refine (l1In_any _ _ _ _).mono ?_; rintro e w4 ⟨rfl, rfl⟩
          rw [hx1]
          go_wp2_with fail
          refine (H3.out _).mono ?_; rintro e w5 ⟨rfl, hb5⟩
          have hB5 := hB3.trans (hb5.mono hB3.size)
          go_wp2
          go_ret
          exact ⟨rfl, hB5⟩
      · have e : dayF n s d y x = -1 := dayF_no (fun h => hx (by rw [hL] at h; exact h.2))
        rw [e]
        clear e hL
        cases L with
        | true =>
          have hx1 : (decide (0 ≤ x) && decide (x ≤ d)) = false := by
            rw [← Bool.decide_and]; exact decide_eq_false (fun h => hx ⟨h.1, by simp; omega⟩)
          go_enter Try.func28, Try.ntmps28
          go_wp2_with fail
          refine (H1.out _).mono ?_; rintro e w1 ⟨rfl, hb1⟩
          have hz1 := hb1.size
          try simp at hz1
          have t1 : Two w1 (w.heap.size) (.int .i64 n) (.int .i64 s) 24 := Two.below (by repeat (first | assumption | exact Two.new' _ _ _ _ _ (by simp) | refine Two.alloc ?_ _ | refine Two.drewN ?_ _)) hb1 (by first | omega | (simp <;> omega))
          have hlt1 : (w.heap.size) < w1.heap.size := t1.lt
          have hnt1 : ¬ (w.heap.size) = w1.heap.size := Nat.ne_of_lt hlt1
          have t1c := t1.cell0
          have t1d := t1.cell1
          go_wp2_with fail
          refine (l1In_any _ _ _ _).mono ?_; rintro e w2 ⟨rfl, rfl⟩
          rw [decide_eq_true hy.1, decide_eq_true hy.2]
          have hB1 : Below w.heap.size w w1 := (by repeat (first | exact Below.refl _ _ | assumption | (refine Below.trans ?_ (Below.mono (by assumption) (by first | omega | (simp <;> omega)))) | (refine Below.alloc ?_ (by first | omega | (simp <;> omega)) _) | (refine below_drewN ?_ _) | (refine Below.drew ?_) | (refine Below.setCell ?_ (by first | omega | (simp <;> omega)) _)))
          go_wp2_with fail
          refine (H2.out _).mono ?_; rintro e w3 ⟨rfl, hb3⟩
          have t3 := t1.below hb3 t1.lt
          have t3c := t3.cell0
          have t3d := t3.cell1
          have hB3 := hB1.trans (hb3.mono hB1.size)
          go_wp2_with fail
          refine (l1In_any _ _ _ _).mono ?_; rintro e w4 ⟨rfl, rfl⟩
          rw [hx1]
          go_wp2
          go_ret
          exact ⟨rfl, hB3⟩
        | false =>
          have hx1 : (decide (0 ≤ x) && decide (x ≤ d - 1)) = false := by
            rw [← Bool.decide_and]; exact decide_eq_false (fun h => hx ⟨h.1, by simp; omega⟩)
          go_enter Try.func28, Try.ntmps28
          go_wp2_with fail
          refine (H1.out _).mono ?_; rintro e w1 ⟨rfl, hb1⟩
          have hz1 := hb1.size
          try simp at hz1
          have t1 : Two w1 (w.heap.size) (.int .i64 n) (.int .i64 s) 24 := Two.below (by repeat (first | assumption | exact Two.new' _ _ _ _ _ (by simp) | refine Two.alloc ?_ _ | refine Two.drewN ?_ _)) hb1 (by first | omega | (simp <;> omega))
          have hlt1 : (w.heap.size) < w1.heap.size := t1.lt
          have hnt1 : ¬ (w.heap.size) = w1.heap.size := Nat.ne_of_lt hlt1
          have t1c := t1.cell0
          have t1d := t1.cell1
          go_wp2_with fail
          refine (l1In_any _ _ _ _).mono ?_; rintro e w2 ⟨rfl, rfl⟩
          rw [decide_eq_true hy.1, decide_eq_true hy.2]
          have hB1 : Below w.heap.size w w1 := (by repeat (first | exact Below.refl _ _ | assumption | (refine Below.trans ?_ (Below.mono (by assumption) (by first | omega | (simp <;> omega)))) | (refine Below.alloc ?_ (by first | omega | (simp <;> omega)) _) | (refine below_drewN ?_ _) | (refine Below.drew ?_) | (refine Below.setCell ?_ (by first | omega | (simp <;> omega)) _)))
          go_wp2_with fail
          refine (H2.out _).mono ?_; rintro e w3 ⟨rfl, hb3⟩
          have t3 := t1.below hb3 t1.lt
          have t3c := t3.cell0
          have t3d := t3.cell1
          have hB3 := hB1.trans (hb3.mono hB1.size)
          go_wp2_with fail
          refine (l1In_any _ _ _ _).mono ?_; rintro e w4 ⟨rfl, rfl⟩
          rw [hx1]
          go_wp2
          go_ret
          exact ⟨rfl, hB3⟩
    · have hy' : (decide (0 ≤ y) && decide (y ≤ 199)) = false := by rw [← Bool.decide_and]; exact decide_eq_false hy
      rw [dayF_no (fun h => hy h.1.2.2)]
      go_enter Try.func28, Try.ntmps28
      go_wp2_with fail
      refine (H1.out _).mono ?_; rintro e w1 ⟨rfl, hb1⟩
      have hz1 := hb1.size
      try simp at hz1
      have t1 : Two w1 (w.heap.size) (.int .i64 n) (.int .i64 s) 24 := Two.below (by repeat (first | assumption | exact Two.new' _ _ _ _ _ (by simp) | refine Two.alloc ?_ _ | refine Two.drewN ?_ _)) hb1 (by first | omega | (simp <;> omega))
      have hlt1 : (w.heap.size) < w1.heap.size := t1.lt
      have hnt1 : ¬ (w.heap.size) = w1.heap.size := Nat.ne_of_lt hlt1
      have t1c := t1.cell0
      have t1d := t1.cell1
      go_wp2_with fail
      refine (l1In_any _ _ _ _).mono ?_; rintro e w2 ⟨rfl, rfl⟩
      rw [hy']
      go_wp2
      go_ret
      exact ⟨rfl, (by repeat (first | exact Below.refl _ _ | assumption | (refine Below.trans ?_ (Below.mono (by assumption) (by first | omega | (simp <;> omega)))) | (refine Below.alloc ?_ (by first | omega | (simp <;> omega)) _) | (refine below_drewN ?_ _) | (refine Below.drew ?_) | (refine Below.setCell ?_ (by first | omega | (simp <;> omega)) _)))⟩

set_option maxHeartbeats 4000000 in
theorem specDateOf_any (n s d x : Int) (w : World) :
    Calls Try.prog 31 #[(.agg #[.int .i64 (n), .int .i64 (s)]), .int .i64 d, .int .i64 x] w fun e w' => e = .returned (.tuple #[.int .i64 (dateY n s d x), .int .i64 (dateD n s d x), .bool (dateP n s d x)]) ∧ Below w.heap.size w w' := by
  
  have H1 := Lib.hid (fun w => l14Ok_any n s d w)
  cases hc : (tok n s && (decide (1 ≤ d) && decide (d ≤ 400))) with
  | false =>
    rw [hc] at H1
    obtain ⟨e1, e2, e3⟩ := date_no (n := n) (s := s) (d := d) (x := x) (fun h => by rw [h.1.1, decide_eq_true h.1.2.1, decide_eq_true h.1.2.2] at hc; exact absurd hc (by simp))
    rw [e1, e2, e3]
    go_enter Try.func31, Try.ntmps31
    go_wp2_with fail
    refine (H1.out _).mono ?_; rintro e w1 ⟨rfl, hb1⟩
    have hz1 := hb1.size
    try simp at hz1
    have t1 : Two w1 (w.heap.size) (.int .i64 n) (.int .i64 s) 24 := Two.below (by repeat (first | assumption | exact Two.new' _ _ _ _ _ (by simp) | refine Two.alloc ?_ _ | refine Two.drewN ?_ _)) hb1 (by first | omega | (simp <;> omega))
    have hlt1 : (w.heap.size) < w1.heap.size := t1.lt
    have hnt1 : ¬ (w.heap.size) = w1.heap.size := Nat.ne_of_lt hlt1
    have t1c := t1.cell0
    have t1d := t1.cell1
    go_wp2
    refine bodyPost_ret (v := .tuple #[.int .i64 (-1), .int .i64 (-1), .bool false]) (by simp [results, Try.results31, go_sem]) rfl ?_
    exact ⟨rfl, (by repeat (first | exact Below.refl _ _ | assumption | (refine Below.trans ?_ (Below.mono (by assumption) (by first | omega | (simp <;> omega)))) | (refine Below.alloc ?_ (by first | omega | (simp <;> omega)) _) | (refine below_drewN ?_ _) | (refine Below.drew ?_) | (refine Below.setCell ?_ (by first | omega | (simp <;> omega)) _)))⟩
  | true =>
    rw [hc] at H1
    simp only [Bool.and_eq_true, decide_eq_true_eq] at hc
    obtain ⟨ht, d1, d2⟩ := hc
    obtain ⟨N, S, rfl, rfl, hN⟩ := tokN_of ht
    obtain ⟨D, rfl⟩ := Int.eq_ofNat_of_zero_le (show 0 ≤ d by omega)
    obtain ⟨b1, b2, b3, b4, _⟩ := tokN_bd hN
    
    have e200 : dbF (N : Int) (S : Int) (D : Int) 200 = ((dbN N S D 200 : Nat) : Int) := dbF_yes (Y := 200) hN (by omega) (by omega) (Nat.le_refl _)
    have l200 := dbN_le (n := N) (s := S) (by omega) (by omega) (d := D) (by omega) (y := 200) (by omega)
    have H3 := Lib.hid (fun (y : Nat) (hy : y ≤ 200) w => (specDaysBefore_any (N : Int) (S : Int) (D : Int) (y : Int) w).mono (R' := fun e w' => e = .returned (.int .i64 ((dbN N S D y : Nat) : Int)) ∧ Below w.heap.size w w') (fun e w' h => by rw [dbF_yes hN (by omega) (by omega) hy] at h; exact h))
    have H3a := Lib.hid (fun w => H3.out 200 (Nat.le_refl _) w)
    have hwd : IntKind.i64.wrap (((dbN N S D 200 : Nat) : Int) - 1) = ((dbN N S D 200 : Nat) : Int) - 1 := IntWalk.i64_in _ (by omega)
    by_cases hx : 0 ≤ x ∧ x < ((dbN N S D 200 : Nat) : Int)
    · obtain ⟨X, rfl⟩ := Int.eq_ofNat_of_zero_le hx.1
      have hx1 : (decide (0 ≤ (X : Int)) && decide ((X : Int) ≤ ((dbN N S D 200 : Nat) : Int) - 1)) = true := by rw [decide_eq_true hx.1, decide_eq_true (show (X : Int) ≤ ((dbN N S D 200 : Nat) : Int) - 1 by omega)]; rfl
      obtain ⟨f1, f2, f3, f4, f5, f6, f7⟩ := date_yes hN (by omega : 1 ≤ D) (by omega) (show X < dbN N S D 200 by omega)
      rw [f1, f2, f3]
      have HI := Lib.hid (fun y => db_iff (n := N) (s := S) (by omega) (d := D) (by omega) y X)
      have HLe := Lib.hid (fun (y : Nat) (hy : y ≤ 200) => dbN_le (n := N) (s := S) (by omega) (by omega) (d := D) (by omega) (y := y) (by omega))
      generalize yearN N S D X = YY at *
      generalize hDD : dbN N S D 200 = DB at *
      have H3y := Lib.hid (fun w => H3.out YY (by omega) w)
      have hwx : IntKind.i64.wrap ((X : Int) - ((dbN N S D YY : Nat) : Int)) = ((X - dbN N S D YY : Nat) : Int) := by rw [show (X : Int) - ((dbN N S D YY : Nat) : Int) = ((X - dbN N S D YY : Nat) : Int) by omega]; exact IntWalk.i64_in _ (by omega)
      generalize hDY : dbN N S D YY = DY at *
      clear hDD hDY e200 f1 f2 f3 hN ht
      go_enter Try.func31, Try.ntmps31
      go_wp2_with fail
      refine (H1.out _).mono ?_; rintro e w1 ⟨rfl, hb1⟩
      have hz1 := hb1.size
      try simp at hz1
      have t1 : Two w1 (w.heap.size) (.int .i64 N) (.int .i64 S) 24 := Two.below (by repeat (first | assumption | exact Two.new' _ _ _ _ _ (by simp) | refine Two.alloc ?_ _ | refine Two.drewN ?_ _)) hb1 (by first | omega | (simp <;> omega))
      have hlt1 : (w.heap.size) < w1.heap.size := t1.lt
      have hnt1 : ¬ (w.heap.size) = w1.heap.size := Nat.ne_of_lt hlt1
      have t1c := t1.cell0
      have t1d := t1.cell1
      go_wp2_with fail
      refine (H3a.out _).mono ?_; rintro e w2 ⟨rfl, hb2⟩
      have hz2 := hb2.size
      try simp at hz2
      have t2 : Two w2 (w.heap.size) (.int .i64 N) (.int .i64 S) 24 := Two.below (by repeat (first | assumption | exact Two.new' _ _ _ _ _ (by simp) | refine Two.alloc ?_ _ | refine Two.drewN ?_ _)) hb2 (by first | omega | (simp <;> omega))
      have hlt2 : (w.heap.size) < w2.heap.size := t2.lt
      have hnt2 : ¬ (w.heap.size) = w2.heap.size := Nat.ne_of_lt hlt2
      have t2c := t2.cell0
      have t2d := t2.cell1
      go_wp2_with fail
      refine (l1In_any _ _ _ _).mono ?_; rintro e w3 ⟨rfl, rfl⟩
      rw [hx1]
      have hB2 : Below w.heap.size w w2 := (by repeat (first | exact Below.refl _ _ | assumption | (refine Below.trans ?_ (Below.mono (by assumption) (by first | omega | (simp <;> omega)))) | (refine Below.alloc ?_ (by first | omega | (simp <;> omega)) _) | (refine below_drewN ?_ _) | (refine Below.drew ?_) | (refine Below.setCell ?_ (by first | omega | (simp <;> omega)) _)))
      go_wp2_with fail
      go_loopw [9] (fun z wr => ∃ k : Nat, z = .int .i64 k ∧ k ≤ YY ∧ Two wr w.heap.size (.int .i64 N) (.int .i64 S) 24 ∧ Below w.heap.size w wr) (fun z _ => YY - (intOf z).toNat)
      case atStart => exact ⟨0, rfl, by omega, t2, hB2⟩
      case round =>
        obtain ⟨k, rfl, hk, t3, hB3⟩ := hrel
        clear t2 t2c t2d hB2 hb1 hb2 t1 t1c t1d
        have c0 := t3.cell0
        have c1 := t3.cell1
        have hi := HI.out (k + 1)
        have hle := HLe.out (k + 1) (by omega)
        have H3k := Lib.hid (fun w => H3.out (k + 1) (by omega) w)
        have ek : ((k + 1 : Nat) : Int) = (k : Int) + 1 := by omega
        rw [ek] at H3k
        have wk : IntKind.i64.wrap ((k : Int) + 1) = (k : Int) + 1 := IntWalk.i64_in _ (by omega)
        clear ek
        generalize dbN N S D (k + 1) = DK at *
        go_wp2_with fail
        refine (H3k.out _).mono ?_; rintro e w4 ⟨rfl, hb4⟩
        have t4 := t3.below hb4 t3.lt
        have t4c := t4.cell0
        have t4d := t4.cell1
        have hB4 := hB3.trans (hb4.mono hB3.size)
        clear t3 hB3 c0 c1 hb4 H3k
        by_cases hkY : k < YY
        · have q1 : (DK : Int) ≤ (X : Int) := by have := hi.2 (by omega); omega
          clear hi
          go_wp2_with fail
          go_roundw
          case rel => exact ⟨k + 1, by go_num, by omega, t4, hB4⟩
          case measure => simp only [intOf]; omega
        · obtain rfl : k = YY := by omega
          have q0 : ¬ DK ≤ X := fun h => by have := hi.1 h; omega
          have q1 : decide ((DK : Int) ≤ (X : Int)) = false := decide_eq_false (fun h => by omega)
          have q2 : decide (DK ≤ X) = false := decide_eq_false q0
          have q3 : X < DK := by omega
          clear hi
          go_wp2_with fail
          refine (H3y.out _).mono ?_; rintro e w5 ⟨rfl, hb5⟩
          have hB5 := hB4.trans (hb5.mono hB4.size)
          go_wp2
          refine bodyPost_ret (v := .tuple #[.int .i64 (k : Int), .int .i64 ((X - DY : Nat) : Int), .bool true]) (by simp [results, Try.results31, go_sem]) rfl ?_
          exact ⟨rfl, hB5⟩
    · have hx1 : (decide (0 ≤ x) && decide (x ≤ ((dbN N S D 200 : Nat) : Int) - 1)) = false := by
        rw [← Bool.decide_and]; exact decide_eq_false (fun h => hx ⟨h.1, by have := h.2; omega⟩)
      obtain ⟨e1, e2, e3⟩ := date_no (n := (N : Int)) (s := (S : Int)) (d := (D : Int)) (x := x) (fun h => hx (by rw [e200] at h; exact h.2))
      rw [e1, e2, e3]
      generalize dbN N S D 200 = DB at *
      clear e200 e1 e2 e3 hN ht
      go_enter Try.func31, Try.ntmps31
      go_wp2_with fail
      refine (H1.out _).mono ?_; rintro e w1 ⟨rfl, hb1⟩
      have hz1 := hb1.size
      try simp at hz1
      have t1 : Two w1 (w.heap.size) (.int .i64 N) (.int .i64 S) 24 := Two.below (by repeat (first | assumption | exact Two.new' _ _ _ _ _ (by simp) | refine Two.alloc ?_ _ | refine Two.drewN ?_ _)) hb1 (by first | omega | (simp <;> omega))
      have hlt1 : (w.heap.size) < w1.heap.size := t1.lt
      have hnt1 : ¬ (w.heap.size) = w1.heap.size := Nat.ne_of_lt hlt1
      have t1c := t1.cell0
      have t1d := t1.cell1
      go_wp2_with fail
      refine (H3a.out _).mono ?_; rintro e w2 ⟨rfl, hb2⟩
      have hz2 := hb2.size
      try simp at hz2
      have t2 : Two w2 (w.heap.size) (.int .i64 N) (.int .i64 S) 24 := Two.below (by repeat (first | assumption | exact Two.new' _ _ _ _ _ (by simp) | refine Two.alloc ?_ _ | refine Two.drewN ?_ _)) hb2 (by first | omega | (simp <;> omega))
      have hlt2 : (w.heap.size) < w2.heap.size := t2.lt
      have hnt2 : ¬ (w.heap.size) = w2.heap.size := Nat.ne_of_lt hlt2
      have t2c := t2.cell0
      have t2d := t2.cell1
      go_wp2_with fail
      refine (l1In_any _ _ _ _).mono ?_; rintro e w3 ⟨rfl, rfl⟩
      rw [hx1]
      go_wp2
      refine bodyPost_ret (v := .tuple #[.int .i64 (-1), .int .i64 (-1), .bool false]) (by simp [results, Try.results31, go_sem]) rfl ?_
      exact ⟨rfl, (by repeat (first | exact Below.refl _ _ | assumption | (refine Below.trans ?_ (Below.mono (by assumption) (by first | omega | (simp <;> omega)))) | (refine Below.alloc ?_ (by first | omega | (simp <;> omega)) _) | (refine below_drewN ?_ _) | (refine Below.drew ?_) | (refine Below.setCell ?_ (by first | omega | (simp <;> omega)) _)))⟩

set_option maxHeartbeats 1000000 in
theorem specDriftOf_any (n s y : Int) (w : World) :
    Calls Try.prog 34 #[(.agg #[.int .i64 (n), .int .i64 (s)]), .int .i64 y] w fun e w' => e = .returned (.int .i64 (driftF n s y)) ∧ Below w.heap.size w w' := by
  
  have H1 := Lib.hid (fun w => specLongBefore_any n s y w)
  by_cases hc : tok n s = true ∧ 0 ≤ y ∧ y ≤ 200
  · obtain ⟨ht, y0, y1⟩ := hc
    obtain ⟨N, S, rfl, rfl, hN⟩ := tokN_of ht
    obtain ⟨Y, rfl⟩ := Int.eq_ofNat_of_zero_le y0
    obtain ⟨b1, b2, b3, b4, _⟩ := tokN_bd hN
    
    rw [driftF_yes hN (by omega)]
    rw [lbF_yes hN (by omega)] at H1
    have hd := drift_calc N S Y
    have m1 : Y * S ≤ 200 * 60 := Nat.mul_le_mul (by omega) (by omega)
    have m2 : N * flN N S Y ≤ Y * S := by
      unfold flN
      exact Nat.mul_div_le _ _
    have hml := Nat.mod_lt (Y * S) (show 0 < N by omega)
    have e1 : (Y : Int) * (S : Int) = ((Y * S : Nat) : Int) := (Int.natCast_mul _ _).symm
    have e2 : (N : Int) * ((flN N S Y : Nat) : Int) = ((N * flN N S Y : Nat) : Int) := (Int.natCast_mul _ _).symm
    have w1' : IntKind.i64.wrap ((Y : Int) * (S : Int)) = (Y : Int) * (S : Int) := IntWalk.i64_in _ (by rw [e1]; omega)
    have w2' : IntKind.i64.wrap ((N : Int) * ((flN N S Y : Nat) : Int)) = (N : Int) * ((flN N S Y : Nat) : Int) := IntWalk.i64_in _ (by rw [e2]; omega)
    have w3' : IntKind.i64.wrap ((Y : Int) * (S : Int) - (N : Int) * ((flN N S Y : Nat) : Int)) = ((Y * S % N : Nat) : Int) := by rw [hd]; exact IntWalk.i64_in _ (by omega)
    generalize flN N S Y = F at *
    generalize Y * S % N = R at *
    clear hd e1 e2 m2 hN ht
    have h0 : ¬ (F : Int) < 0 := by omega
    go_enter Try.func34, Try.ntmps34
    go_wp2_with fail
    refine (H1.out _).mono ?_; rintro e w1 ⟨rfl, hb1⟩
    have hz1 := hb1.size
    try simp at hz1
    have t1 : Two w1 (w.heap.size) (.int .i64 N) (.int .i64 S) 24 := Two.below (by repeat (first | assumption | exact Two.new' _ _ _ _ _ (by simp) | refine Two.alloc ?_ _ | refine Two.drewN ?_ _)) hb1 (by first | omega | (simp <;> omega))
    have hlt1 : (w.heap.size) < w1.heap.size := t1.lt
    have hnt1 : ¬ (w.heap.size) = w1.heap.size := Nat.ne_of_lt hlt1
    have t1c := t1.cell0
    have t1d := t1.cell1
    go_wp2
    go_ret
    exact ⟨rfl, (by repeat (first | exact Below.refl _ _ | assumption | (refine Below.trans ?_ (Below.mono (by assumption) (by first | omega | (simp <;> omega)))) | (refine Below.alloc ?_ (by first | omega | (simp <;> omega)) _) | (refine below_drewN ?_ _) | (refine Below.drew ?_) | (refine Below.setCell ?_ (by first | omega | (simp <;> omega)) _)))⟩
  · rw [lbF_no hc] at H1
    rw [driftF_no hc]
    
    go_enter Try.func34, Try.ntmps34
    go_wp2_with fail
    refine (H1.out _).mono ?_; rintro e w1 ⟨rfl, hb1⟩
    have hz1 := hb1.size
    try simp at hz1
    have t1 : Two w1 (w.heap.size) (.int .i64 n) (.int .i64 s) 24 := Two.below (by repeat (first | assumption | exact Two.new' _ _ _ _ _ (by simp) | refine Two.alloc ?_ _ | refine Two.drewN ?_ _)) hb1 (by first | omega | (simp <;> omega))
    have hlt1 : (w.heap.size) < w1.heap.size := t1.lt
    have hnt1 : ¬ (w.heap.size) = w1.heap.size := Nat.ne_of_lt hlt1
    have t1c := t1.cell0
    have t1d := t1.cell1
    go_wp2
    go_ret
    exact ⟨rfl, (by repeat (first | exact Below.refl _ _ | assumption | (refine Below.trans ?_ (Below.mono (by assumption) (by first | omega | (simp <;> omega)))) | (refine Below.alloc ?_ (by first | omega | (simp <;> omega)) _) | (refine below_drewN ?_ _) | (refine Below.drew ?_) | (refine Below.setCell ?_ (by first | omega | (simp <;> omega)) _)))⟩
end Go.Proofs.Ytokmmbmkfpfmgaa
