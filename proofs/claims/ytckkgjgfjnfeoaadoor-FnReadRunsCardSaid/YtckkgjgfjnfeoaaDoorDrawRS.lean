/- The contract of DrawReadRuns. -/
import Derived.Test.YtckkgjgfjnfeoaaDoorDrawM
import Derived.Deep.Cut
set_option linter.unusedVariables false
set_option linter.unusedSimpArgs false
namespace Go.Proofs.YtckkgjgfjnfeoaaDoor
set_option maxRecDepth 4000

set_option maxRecDepth 4000
open Go.ChangeShapes Go.WideShapes Go.ChangeAt Go.RowKit Go.Joins

def strS (j : Nat) : ByteArray := ([⟨#[]⟩, ⟨#[48]⟩, ⟨#[76]⟩, ⟨#[82, 49]⟩, ⟨#[46]⟩, ⟨#[57]⟩, ⟨#[54, 48]⟩] : List ByteArray).getD j ⟨#[]⟩

theorem strS_size (j : Nat) : (strS j).size ≤ 2 := by
  match j with
  | 0 => exact Nat.zero_le _
  | 1 => exact Nat.le_succ 1
  | 2 => exact Nat.le_succ 1
  | 3 => exact Nat.le_refl 2
  | 4 => exact Nat.le_succ 1
  | 5 => exact Nat.le_succ 1
  | 6 => exact Nat.le_refl 2
  | _ + 7 => exact Nat.zero_le _

theorem strs_cell (w : World) {j : Nat} (h : j < 7) : (w.alloc (.cells #[.string ⟨#[]⟩, .string ⟨#[48]⟩, .string ⟨#[76]⟩, .string ⟨#[82, 49]⟩, .string ⟨#[46]⟩, .string ⟨#[57]⟩, .string ⟨#[54, 48]⟩] 9)).cell? ⟨w.heap.size, j, none⟩ = some (.string (strS j)) := by
  rw [new_cell]
  match j, h with
  | 0, _ | 1, _ | 2, _ | 3, _ | 4, _ | 5, _ | 6, _ => rfl

theorem strs_get {j : Nat} (hj : j < 7) (h : j < ([.string ⟨#[]⟩, .string ⟨#[48]⟩, .string ⟨#[76]⟩, .string ⟨#[82, 49]⟩, .string ⟨#[46]⟩, .string ⟨#[57]⟩, .string ⟨#[54, 48]⟩] : List Value).length) : ([.string ⟨#[]⟩, .string ⟨#[48]⟩, .string ⟨#[76]⟩, .string ⟨#[82, 49]⟩, .string ⟨#[46]⟩, .string ⟨#[57]⟩, .string ⟨#[54, 48]⟩] : List Value)[j]'h = .string (strS j) := by
  match j, hj with
  | 0, _ | 1, _ | 2, _ | 3, _ | 4, _ | 5, _ | 6, _ => rfl

/-- what a pick leaves for the walk -/
theorem pickQ_any (r : Nat) (p : Int) (n : Nat) (w : World) (hr : Rd w r p) (hp0 : 0 ≤ p) (hp : p ≤ 999990) (hn : n ≤ 1000000) (h1 : 1 ≤ n) :
    Calls Tryd.prog 52 #[.pointer (some ⟨r, 0, none⟩), .int .i64 n] w fun e w' => ∃ j : Nat, e = .returned (.int .i64 j) ∧ j < n ∧ (0 : Int) ≤ j ∧ (j : Int) < n ∧ Rd w' r (p + 1) ∧ OnlyR r w w' ∧ w'.heap.size = w.heap.size := by
  refine (pick_any r p n w hr hp0 (by omega) (by omega)).mono ?_
  rintro e w' ⟨v, rfl, a, b, r', o', s'⟩
  obtain ⟨j, rfl⟩ := Int.eq_ofNat_of_zero_le a
  exact ⟨j, rfl, by omega, by omega, by omega, r', o', s'⟩

set_option maxHeartbeats 16000000 in
theorem drawReadRuns_any (a : Option Addr) (len cap : Nat) (w : World) (hc : CodeIn w a len cap) (hl : len ≤ 1048576) :
    Calls Tryd.prog 29 #[.slice a len cap] w fun e w' => ∃ u : ByteArray, e = .returned (.string u) ∧ u.size ≤ 400 ∧ Below w.heap.size w w' := by
  go_enter Tryd.func29, Tryd.ntmps29
  go_wp2_with fail
  refine (l20Open_any a len cap _ hc hl).mono ?_; rintro e w1 ⟨r, rfl, hr, hr1, hb1⟩
  clear hc
  go_wp2_with fail
  refine (l20Moves_zero r 0 _ hr1 (by omega) (by omega)).mono ?_
  rintro e w2 ⟨v, q, rfl, hv, q0, q1, hr2, ho2⟩
  have hB2 := hb1.trans (ho2.below hr hb1.size)
  clear hb1 ho2 hr1
  have h3 := Lib.hid (fun w => specRunsText_any (txtM v) w (by rw [txtM_size]; omega))
  rw [show rtF (txtM v) = runsTxt v from onM_yes (by omega)] at h3
  have hs := runsTxt_size (u := v) (by omega)
  generalize runsTxt v = U at *
  generalize txtM v = V at *
  go_wp2_with fail
  refine (h3.out _).mono ?_; rintro e w3 ⟨rfl, hb3⟩
  have hr3 := hr2.below hb3
  have hB3 := hB2.trans (hb3.mono hB2.size)
  have hrB : w.heap.size ≤ r := hr
  clear hr2 hB2 hb3 h3
  go_wp2_with fail
  refine (pickQ_any r q 3 _ hr3 (by omega) (by omega) (by omega) (by omega)).mono ?_; rintro e w4 ⟨j, rfl, hj, _, _, hr4, ho4, hs4⟩
  have hB4 := hB3.trans (ho4.below hr hB3.size)
  clear hB3 hr3 ho4
  by_cases hj0 : j = 0
  · subst hj0
    obtain ⟨S, hS⟩ : ∃ S, U.size = S := ⟨_, rfl⟩
    rw [hS] at hs
    go_wp2_with fail
    refine (pickQ_any r _ S _ hr4 (by omega) (by omega) (by omega) (by omega)).mono ?_; rintro e w5 ⟨k, rfl, hk, k0, _, hr5, ho5, hs5⟩
    have hB5 := hB4.trans (ho5.below hr hB4.size)
    clear hB4 hr4 ho5 hs5 hs4
    go_upto_region 5 with fail
    have k1 : (k : Int) ≤ (S : Int) := by omega
    have x1 : (U.extract 0 k).size = k := by rw [ByteArray.size_extract]; omega
    have HX2 : Hid (∀ i, (U.extract (k + i) S).size ≤ S) := fun i => by rw [ByteArray.size_extract]; omega
    have hg : w5.heap.size ≠ r := by have := hr5.lt; omega
    obtain ⟨p5, hp5⟩ : ∃ p5 : Int, q + 1 + 1 = p5 := ⟨_, rfl⟩
    have hp50 : 0 ≤ p5 := by omega
    have hp51 : p5 ≤ 900000 := by omega
    rw [hp5] at hr5
    have P7 : Hid (∀ p w (hr : Rd w r p), 0 ≤ p → p ≤ 999990 → _) := fun p w hr h1 h2 => pickQ_any r p 7 w hr h1 h2 (by omega) (by omega)
    have P2 : Hid (∀ p w (hr : Rd w r p), 0 ≤ p → p ≤ 999990 → _) := fun p w hr h1 h2 => pickQ_any r p 2 w hr h1 h2 (by omega) (by omega)
    have SC := fun w (j : Nat) (h : j < 7) => strs_cell w h
    obtain ⟨hs1, hs2⟩ := hs
    clear hr hl hv q0 q1 hj hp5
    refine wp_region_noPanic ?_
    refine wp_region_held_drew (S := fun _ => True) (by kernel_rfl) trivial (fun hHeld => ?_)
    refine wpAnyH_take (i := 0) (oi := _) (v := ?_) rfl (by kernel_rfl) (by kernel_rfl) (by kernel_rfl) (fun _ _ _ h => h) (Or.inl ⟨by kernel_rfl, ?_⟩) trivial ?_; rotate_left; (· (intro w hSw; (try dsimp only at hSw); go_simp; (first | done | with_reducible rfl)))
    try simp only [Act.put, List.getElem_toArray, List.getElem_cons_succ, List.getElem_cons_zero, List.setIfInBounds_toArray, List.set_cons_zero, List.set_cons_succ]
    refine wpAnyH_take (i := 1) (oi := _) (v := ?_) rfl (by kernel_rfl) (by kernel_rfl) (by kernel_rfl) (fun _ _ _ h => h) (Or.inl ⟨by kernel_rfl, ?_⟩) trivial ?_; rotate_left; (· (intro w hSw; (try dsimp only at hSw); go_simp; (first | done | with_reducible rfl)))
    try simp only [Act.put, List.getElem_toArray, List.getElem_cons_succ, List.getElem_cons_zero, List.setIfInBounds_toArray, List.set_cons_zero, List.set_cons_succ]
    refine wpAnyH_take (i := 2) (oi := _) (v := ?_) rfl (by kernel_rfl) (by kernel_rfl) (by kernel_rfl) (fun _ _ _ h => h) (Or.inl ⟨by kernel_rfl, ?_⟩) trivial ?_; rotate_left; (· (intro w hSw; (try dsimp only at hSw); go_simp; (first | done | with_reducible rfl)))
    try simp only [Act.put, List.getElem_toArray, List.getElem_cons_succ, List.getElem_cons_zero, List.setIfInBounds_toArray, List.set_cons_zero, List.set_cons_succ]
    refine wpAnyH_take (i := 4) (oi := _) (v := ?_) rfl (by kernel_rfl) (by kernel_rfl) (by kernel_rfl) (fun _ _ _ h => h) (Or.inl ⟨by kernel_rfl, ?_⟩) trivial ?_; rotate_left; (· (intro w hSw; (try dsimp only at hSw); go_simp; (first | done | with_reducible rfl)))
    try simp only [Act.put, List.getElem_toArray, List.getElem_cons_succ, List.getElem_cons_zero, List.setIfInBounds_toArray, List.set_cons_zero, List.set_cons_succ]
    refine wpAnyH_take (i := 9) (oi := _) (v := ?_) rfl (by kernel_rfl) (by kernel_rfl) (by kernel_rfl) (fun _ _ _ h => h) (Or.inl ⟨by kernel_rfl, ?_⟩) trivial ?_; rotate_left; (· (intro w hSw; (try dsimp only at hSw); go_simp; (first | done | with_reducible rfl)))
    try simp only [Act.put, List.getElem_toArray, List.getElem_cons_succ, List.getElem_cons_zero, List.setIfInBounds_toArray, List.set_cons_zero, List.set_cons_succ]
    refine wpAnyH_take (i := 10) (oi := _) (v := ?_) rfl (by kernel_rfl) (by kernel_rfl) (by kernel_rfl) (fun _ _ _ h => h) (Or.inl ⟨by kernel_rfl, ?_⟩) trivial ?_; rotate_left; (· (intro w hSw; (try dsimp only at hSw); go_simp; (first | done | with_reducible rfl)))
    try simp only [Act.put, List.getElem_toArray, List.getElem_cons_succ, List.getElem_cons_zero, List.setIfInBounds_toArray, List.set_cons_zero, List.set_cons_succ]
    refine wpAnyH_take (i := 11) (oi := _) (v := ?_) rfl (by kernel_rfl) (by kernel_rfl) (by kernel_rfl) (fun _ _ _ h => h) (Or.inl ⟨by kernel_rfl, ?_⟩) trivial ?_; rotate_left; (· (intro w hSw; (try dsimp only at hSw); go_simp; (first | done | with_reducible rfl)))
    try simp only [Act.put, List.getElem_toArray, List.getElem_cons_succ, List.getElem_cons_zero, List.setIfInBounds_toArray, List.set_cons_zero, List.set_cons_succ]
    refine wpAnyH_ready (rs := [3, 5]) (by kernel_rfl) (by simp) ?_
    refine AllReadyH.cons (o := _) rfl (fun K hK => ?_) (AllReadyH.cons (o := _) rfl (fun K hK => ?_) (AllReadyH.nil))
    · go_simp
      refine hK.out _ _ trivial (fun hHeld => ?_)
      clear hK K
      try simp only [Act.put, List.getElem_toArray, List.getElem_cons_succ, List.getElem_cons_zero, List.setIfInBounds_toArray, List.set_cons_zero, List.set_cons_succ]
      refine wpAnyH_ready (rs := [5]) (by kernel_rfl) (by simp) ?_
      refine AllReadyH.cons (o := _) rfl (fun K hK => ?_) (AllReadyH.nil)
      · go_simp
        refine (P7.out p5 _ (by first | exact hr5 | exact Rd.drewN hr5 1 | exact Rd.alloc (Rd.drewN hr5 1) _ | exact Rd.alloc hr5 _) hp50 (by omega)).mono ?_; rintro e w7 ⟨j7, rfl, hj7, a7, b7, r7, o7, s7⟩
        have z7 := strS_size j7
        have b7n : (j7 : Int) < 7 := by omega
        have zs : ¬ 9223372036854775807 < k + (strS j7).size := by omega
        refine hK.out _ _ trivial (fun hHeld => ?_)
        clear hK K
        try simp only [Act.put, List.getElem_toArray, List.getElem_cons_succ, List.getElem_cons_zero, List.setIfInBounds_toArray, List.set_cons_zero, List.set_cons_succ]
        refine wpAnyH_take (i := 6) (oi := _) (v := ?_) rfl (by kernel_rfl) (by kernel_rfl) (by kernel_rfl) (fun _ _ _ h => h) (Or.inl ⟨by kernel_rfl, ?_⟩) trivial ?_; rotate_left; (· (intro w hSw; (try dsimp only at hSw); go_simp; (first | done | with_reducible rfl)))
        try simp only [Act.put, List.getElem_toArray, List.getElem_cons_succ, List.getElem_cons_zero, List.setIfInBounds_toArray, List.set_cons_zero, List.set_cons_succ]
        refine wpAnyH_ready (rs := [7, 12]) (by kernel_rfl) (by simp) ?_
        refine AllReadyH.cons (o := _) rfl (fun K hK => ?_) (AllReadyH.cons (o := _) rfl (fun K hK => ?_) (AllReadyH.nil))
        · have y7 : w7.cell? ⟨w5.heap.size, j7, none⟩ = some (.string (strS j7)) := (o7.cells.1 _ j7 (by simp) hg).trans (SC w5 j7 hj7)
          go_simp
          refine hK.out _ _ trivial (fun hHeld => ?_)
          clear hK K
          try simp only [Act.put, List.getElem_toArray, List.getElem_cons_succ, List.getElem_cons_zero, List.setIfInBounds_toArray, List.set_cons_zero, List.set_cons_succ]
          refine wpAnyH_take (i := 8) (oi := _) (v := ?_) rfl (by kernel_rfl) (by kernel_rfl) (by kernel_rfl) (fun _ _ _ h => h) (Or.inl ⟨by kernel_rfl, ?_⟩) trivial ?_; rotate_left; (· (intro w hSw; (try dsimp only at hSw); go_simp; (first | done | with_reducible rfl)))
          try simp only [Act.put, List.getElem_toArray, List.getElem_cons_succ, List.getElem_cons_zero, List.setIfInBounds_toArray, List.set_cons_zero, List.set_cons_succ]
          refine wpAnyH_ready (rs := [12]) (by kernel_rfl) (by simp) ?_
          refine AllReadyH.cons (o := _) rfl (fun K hK => ?_) (AllReadyH.nil)
          · go_simp
            refine (P2.out (p5 + 1) _ (by first | exact r7 | exact Rd.alloc r7 _) (by omega) (by omega)).mono ?_; rintro e w9 ⟨j2, rfl, hj2, a2, b2, r2, o2, s2⟩
            have x3 := HX2.out j2
            have wk : IntKind.i64.wrap ((k : Int) + (j2 : Int)) = (k : Int) + (j2 : Int) := IntWalk.i64_in _ (by omega)
            have kj0 : (0 : Int) ≤ (k : Int) + (j2 : Int) := by omega
            have kj1 : (k : Int) + (j2 : Int) ≤ (S : Int) := by omega
            have kj2 : ((k : Int) + (j2 : Int)).toNat = k + j2 := by omega
            have zt : ¬ 9223372036854775807 < k + (strS j7).size + (S - (k + j2)) := by omega
            refine hK.out _ _ trivial (fun hHeld => ?_)
            clear hK K
            try simp only [Act.put, List.getElem_toArray, List.getElem_cons_succ, List.getElem_cons_zero, List.setIfInBounds_toArray, List.set_cons_zero, List.set_cons_succ]
            refine wpAnyH_take (i := 13) (oi := _) (v := ?_) rfl (by kernel_rfl) (by kernel_rfl) (by kernel_rfl) (fun _ _ _ h => h) (Or.inl ⟨by kernel_rfl, ?_⟩) trivial ?_; rotate_left; (· (intro w hSw; (try dsimp only at hSw); go_simp; (first | done | with_reducible rfl)))
            try simp only [Act.put, List.getElem_toArray, List.getElem_cons_succ, List.getElem_cons_zero, List.setIfInBounds_toArray, List.set_cons_zero, List.set_cons_succ]
            refine wpAnyH_take (i := 14) (oi := _) (v := ?_) rfl (by kernel_rfl) (by kernel_rfl) (by kernel_rfl) (fun _ _ _ h => h) (Or.inl ⟨by kernel_rfl, ?_⟩) trivial ?_; rotate_left; (· (intro w hSw; (try dsimp only at hSw); go_simp; (first | done | with_reducible rfl)))
            try simp only [Act.put, List.getElem_toArray, List.getElem_cons_succ, List.getElem_cons_zero, List.setIfInBounds_toArray, List.set_cons_zero, List.set_cons_succ]
            refine wpAnyH_take (i := 15) (oi := _) (v := ?_) rfl (by kernel_rfl) (by kernel_rfl) (by kernel_rfl) (fun _ _ _ h => h) (Or.inl ⟨by kernel_rfl, ?_⟩) trivial ?_; rotate_left; (· (intro w hSw; (try dsimp only at hSw); go_simp; (first | done | with_reducible rfl)))
            try simp only [Act.put, List.getElem_toArray, List.getElem_cons_succ, List.getElem_cons_zero, List.setIfInBounds_toArray, List.set_cons_zero, List.set_cons_succ]
            refine wpAnyH_take (i := 16) (oi := _) (v := ?_) rfl (by kernel_rfl) (by kernel_rfl) (by kernel_rfl) (fun _ _ _ h => h) (Or.inl ⟨by kernel_rfl, ?_⟩) trivial ?_; rotate_left; (· (intro w hSw; (try dsimp only at hSw); go_simp; (first | done | with_reducible rfl)))
            try simp only [Act.put, List.getElem_toArray, List.getElem_cons_succ, List.getElem_cons_zero, List.setIfInBounds_toArray, List.set_cons_zero, List.set_cons_succ]
            refine wpAnyH_done (by kernel_rfl) ?_ _
            refine NoPanic.normal ?_
            go_wp2
            go_ret
            refine ⟨_, rfl, ?_, ?_⟩
            · rw [ByteArray.size_append, ByteArray.size_append, x1]; omega
            · have hA := (below_drewN hB5 1).alloc hB5.size (.cells #[.string ⟨#[]⟩, .string ⟨#[48]⟩, .string ⟨#[76]⟩, .string ⟨#[82, 49]⟩, .string ⟨#[46]⟩, .string ⟨#[57]⟩, .string ⟨#[54, 48]⟩] 9)
              have h7 := hA.trans (o7.below hrB hA.size)
              have h9 := h7.trans (o2.below hrB h7.size)
              exact h9
        · go_simp
          refine (P2.out (p5 + 1) _ (by first | exact r7 | exact Rd.alloc r7 _) (by omega) (by omega)).mono ?_; rintro e w9 ⟨j2, rfl, hj2, a2, b2, r2, o2, s2⟩
          have x3 := HX2.out j2
          have wk : IntKind.i64.wrap ((k : Int) + (j2 : Int)) = (k : Int) + (j2 : Int) := IntWalk.i64_in _ (by omega)
          have kj0 : (0 : Int) ≤ (k : Int) + (j2 : Int) := by omega
          have kj1 : (k : Int) + (j2 : Int) ≤ (S : Int) := by omega
          have kj2 : ((k : Int) + (j2 : Int)).toNat = k + j2 := by omega
          have zt : ¬ 9223372036854775807 < k + (strS j7).size + (S - (k + j2)) := by omega
          refine hK.out _ _ trivial (fun hHeld => ?_)
          clear hK K
          try simp only [Act.put, List.getElem_toArray, List.getElem_cons_succ, List.getElem_cons_zero, List.setIfInBounds_toArray, List.set_cons_zero, List.set_cons_succ]
          refine wpAnyH_take (i := 13) (oi := _) (v := ?_) rfl (by kernel_rfl) (by kernel_rfl) (by kernel_rfl) (fun _ _ _ h => h) (Or.inl ⟨by kernel_rfl, ?_⟩) trivial ?_; rotate_left; (· (intro w hSw; (try dsimp only at hSw); go_simp; (first | done | with_reducible rfl)))
          try simp only [Act.put, List.getElem_toArray, List.getElem_cons_succ, List.getElem_cons_zero, List.setIfInBounds_toArray, List.set_cons_zero, List.set_cons_succ]
          refine wpAnyH_take (i := 14) (oi := _) (v := ?_) rfl (by kernel_rfl) (by kernel_rfl) (by kernel_rfl) (fun _ _ _ h => h) (Or.inl ⟨by kernel_rfl, ?_⟩) trivial ?_; rotate_left; (· (intro w hSw; (try dsimp only at hSw); go_simp; (first | done | with_reducible rfl)))
          try simp only [Act.put, List.getElem_toArray, List.getElem_cons_succ, List.getElem_cons_zero, List.setIfInBounds_toArray, List.set_cons_zero, List.set_cons_succ]
          refine wpAnyH_ready (rs := [7]) (by kernel_rfl) (by simp) ?_
          refine AllReadyH.cons (o := _) rfl (fun K hK => ?_) (AllReadyH.nil)
          · have y7 : w7.cell? ⟨w5.heap.size, j7, none⟩ = some (.string (strS j7)) := (o7.cells.1 _ j7 (by simp) hg).trans (SC w5 j7 hj7)
            have y9 : w9.cell? ⟨w5.heap.size, j7, none⟩ = some (.string (strS j7)) := (o2.cells.1 _ j7 (by rw [s7]; simp) hg).trans y7
            go_simp
            refine hK.out _ _ trivial (fun hHeld => ?_)
            clear hK K
            try simp only [Act.put, List.getElem_toArray, List.getElem_cons_succ, List.getElem_cons_zero, List.setIfInBounds_toArray, List.set_cons_zero, List.set_cons_succ]
            refine wpAnyH_take (i := 8) (oi := _) (v := ?_) rfl (by kernel_rfl) (by kernel_rfl) (by kernel_rfl) (fun _ _ _ h => h) (Or.inl ⟨by kernel_rfl, ?_⟩) trivial ?_; rotate_left; (· (intro w hSw; (try dsimp only at hSw); go_simp; (first | done | with_reducible rfl)))
            try simp only [Act.put, List.getElem_toArray, List.getElem_cons_succ, List.getElem_cons_zero, List.setIfInBounds_toArray, List.set_cons_zero, List.set_cons_succ]
            refine wpAnyH_take (i := 15) (oi := _) (v := ?_) rfl (by kernel_rfl) (by kernel_rfl) (by kernel_rfl) (fun _ _ _ h => h) (Or.inl ⟨by kernel_rfl, ?_⟩) trivial ?_; rotate_left; (· (intro w hSw; (try dsimp only at hSw); go_simp; (first | done | with_reducible rfl)))
            try simp only [Act.put, List.getElem_toArray, List.getElem_cons_succ, List.getElem_cons_zero, List.setIfInBounds_toArray, List.set_cons_zero, List.set_cons_succ]
            refine wpAnyH_take (i := 16) (oi := _) (v := ?_) rfl (by kernel_rfl) (by kernel_rfl) (by kernel_rfl) (fun _ _ _ h => h) (Or.inl ⟨by kernel_rfl, ?_⟩) trivial ?_; rotate_left; (· (intro w hSw; (try dsimp only at hSw); go_simp; (first | done | with_reducible rfl)))
            try simp only [Act.put, List.getElem_toArray, List.getElem_cons_succ, List.getElem_cons_zero, List.setIfInBounds_toArray, List.set_cons_zero, List.set_cons_succ]
            refine wpAnyH_done (by kernel_rfl) ?_ _
            refine NoPanic.normal ?_
            go_wp2
            go_ret
            refine ⟨_, rfl, ?_, ?_⟩
            · rw [ByteArray.size_append, ByteArray.size_append, x1]; omega
            · have hA := (below_drewN hB5 1).alloc hB5.size (.cells #[.string ⟨#[]⟩, .string ⟨#[48]⟩, .string ⟨#[76]⟩, .string ⟨#[82, 49]⟩, .string ⟨#[46]⟩, .string ⟨#[57]⟩, .string ⟨#[54, 48]⟩] 9)
              have h7 := hA.trans (o7.below hrB hA.size)
              have h9 := h7.trans (o2.below hrB h7.size)
              exact h9
    · go_simp
      refine (P7.out p5 _ (by first | exact hr5 | exact Rd.drewN hr5 1 | exact Rd.alloc (Rd.drewN hr5 1) _ | exact Rd.alloc hr5 _) hp50 (by omega)).mono ?_; rintro e w7 ⟨j7, rfl, hj7, a7, b7, r7, o7, s7⟩
      have z7 := strS_size j7
      have b7n : (j7 : Int) < 7 := by omega
      have zs : ¬ 9223372036854775807 < k + (strS j7).size := by omega
      refine hK.out _ _ trivial (fun hHeld => ?_)
      clear hK K
      try simp only [Act.put, List.getElem_toArray, List.getElem_cons_succ, List.getElem_cons_zero, List.setIfInBounds_toArray, List.set_cons_zero, List.set_cons_succ]
      refine wpAnyH_ready (rs := [3, 12]) (by kernel_rfl) (by simp) ?_
      refine AllReadyH.cons (o := _) rfl (fun K hK => ?_) (AllReadyH.cons (o := _) rfl (fun K hK => ?_) (AllReadyH.nil))
      · go_simp
        refine hK.out _ _ trivial (fun hHeld => ?_)
        clear hK K
        try simp only [Act.put, List.getElem_toArray, List.getElem_cons_succ, List.getElem_cons_zero, List.setIfInBounds_toArray, List.set_cons_zero, List.set_cons_succ]
        refine wpAnyH_take (i := 6) (oi := _) (v := ?_) rfl (by kernel_rfl) (by kernel_rfl) (by kernel_rfl) (fun _ _ _ h => h) (Or.inl ⟨by kernel_rfl, ?_⟩) trivial ?_; rotate_left; (· (intro w hSw; (try dsimp only at hSw); go_simp; (first | done | with_reducible rfl)))
        try simp only [Act.put, List.getElem_toArray, List.getElem_cons_succ, List.getElem_cons_zero, List.setIfInBounds_toArray, List.set_cons_zero, List.set_cons_succ]
        refine wpAnyH_ready (rs := [7, 12]) (by kernel_rfl) (by simp) ?_
        refine AllReadyH.cons (o := _) rfl (fun K hK => ?_) (AllReadyH.cons (o := _) rfl (fun K hK => ?_) (AllReadyH.nil))
        · have y7 : ∀ h, ([.string ⟨#[]⟩, .string ⟨#[48]⟩, .string ⟨#[76]⟩, .string ⟨#[82, 49]⟩, .string ⟨#[46]⟩, .string ⟨#[57]⟩, .string ⟨#[54, 48]⟩] : List Value)[j7]'h = .string (strS j7) := fun h => strs_get hj7 h
          go_simp
          refine hK.out _ _ trivial (fun hHeld => ?_)
          clear hK K
          try simp only [Act.put, List.getElem_toArray, List.getElem_cons_succ, List.getElem_cons_zero, List.setIfInBounds_toArray, List.set_cons_zero, List.set_cons_succ]
          refine wpAnyH_take (i := 8) (oi := _) (v := ?_) rfl (by kernel_rfl) (by kernel_rfl) (by kernel_rfl) (fun _ _ _ h => h) (Or.inl ⟨by kernel_rfl, ?_⟩) trivial ?_; rotate_left; (· (intro w hSw; (try dsimp only at hSw); go_simp; (first | done | with_reducible rfl)))
          try simp only [Act.put, List.getElem_toArray, List.getElem_cons_succ, List.getElem_cons_zero, List.setIfInBounds_toArray, List.set_cons_zero, List.set_cons_succ]
          refine wpAnyH_ready (rs := [12]) (by kernel_rfl) (by simp) ?_
          refine AllReadyH.cons (o := _) rfl (fun K hK => ?_) (AllReadyH.nil)
          · go_simp
            refine (P2.out (p5 + 1) _ (by first | exact r7 | exact Rd.alloc r7 _) (by omega) (by omega)).mono ?_; rintro e w9 ⟨j2, rfl, hj2, a2, b2, r2, o2, s2⟩
            have x3 := HX2.out j2
            have wk : IntKind.i64.wrap ((k : Int) + (j2 : Int)) = (k : Int) + (j2 : Int) := IntWalk.i64_in _ (by omega)
            have kj0 : (0 : Int) ≤ (k : Int) + (j2 : Int) := by omega
            have kj1 : (k : Int) + (j2 : Int) ≤ (S : Int) := by omega
            have kj2 : ((k : Int) + (j2 : Int)).toNat = k + j2 := by omega
            have zt : ¬ 9223372036854775807 < k + (strS j7).size + (S - (k + j2)) := by omega
            refine hK.out _ _ trivial (fun hHeld => ?_)
            clear hK K
            try simp only [Act.put, List.getElem_toArray, List.getElem_cons_succ, List.getElem_cons_zero, List.setIfInBounds_toArray, List.set_cons_zero, List.set_cons_succ]
            refine wpAnyH_take (i := 13) (oi := _) (v := ?_) rfl (by kernel_rfl) (by kernel_rfl) (by kernel_rfl) (fun _ _ _ h => h) (Or.inl ⟨by kernel_rfl, ?_⟩) trivial ?_; rotate_left; (· (intro w hSw; (try dsimp only at hSw); go_simp; (first | done | with_reducible rfl)))
            try simp only [Act.put, List.getElem_toArray, List.getElem_cons_succ, List.getElem_cons_zero, List.setIfInBounds_toArray, List.set_cons_zero, List.set_cons_succ]
            refine wpAnyH_take (i := 14) (oi := _) (v := ?_) rfl (by kernel_rfl) (by kernel_rfl) (by kernel_rfl) (fun _ _ _ h => h) (Or.inl ⟨by kernel_rfl, ?_⟩) trivial ?_; rotate_left; (· (intro w hSw; (try dsimp only at hSw); go_simp; (first | done | with_reducible rfl)))
            try simp only [Act.put, List.getElem_toArray, List.getElem_cons_succ, List.getElem_cons_zero, List.setIfInBounds_toArray, List.set_cons_zero, List.set_cons_succ]
            refine wpAnyH_take (i := 15) (oi := _) (v := ?_) rfl (by kernel_rfl) (by kernel_rfl) (by kernel_rfl) (fun _ _ _ h => h) (Or.inl ⟨by kernel_rfl, ?_⟩) trivial ?_; rotate_left; (· (intro w hSw; (try dsimp only at hSw); go_simp; (first | done | with_reducible rfl)))
            try simp only [Act.put, List.getElem_toArray, List.getElem_cons_succ, List.getElem_cons_zero, List.setIfInBounds_toArray, List.set_cons_zero, List.set_cons_succ]
            refine wpAnyH_take (i := 16) (oi := _) (v := ?_) rfl (by kernel_rfl) (by kernel_rfl) (by kernel_rfl) (fun _ _ _ h => h) (Or.inl ⟨by kernel_rfl, ?_⟩) trivial ?_; rotate_left; (· (intro w hSw; (try dsimp only at hSw); go_simp; (first | done | with_reducible rfl)))
            try simp only [Act.put, List.getElem_toArray, List.getElem_cons_succ, List.getElem_cons_zero, List.setIfInBounds_toArray, List.set_cons_zero, List.set_cons_succ]
            refine wpAnyH_done (by kernel_rfl) ?_ _
            refine NoPanic.normal ?_
            go_wp2
            go_ret
            refine ⟨_, rfl, ?_, ?_⟩
            · rw [ByteArray.size_append, ByteArray.size_append, x1]; omega
            · have h7 := (below_drewN hB5 1).trans (o7.below hrB hB5.size)
              have hA := h7.alloc h7.size (.cells #[.string ⟨#[]⟩, .string ⟨#[48]⟩, .string ⟨#[76]⟩, .string ⟨#[82, 49]⟩, .string ⟨#[46]⟩, .string ⟨#[57]⟩, .string ⟨#[54, 48]⟩] 9)
              have h9 := hA.trans (o2.below hrB hA.size)
              exact h9
        · go_simp
          refine (P2.out (p5 + 1) _ (by first | exact r7 | exact Rd.alloc r7 _) (by omega) (by omega)).mono ?_; rintro e w9 ⟨j2, rfl, hj2, a2, b2, r2, o2, s2⟩
          have x3 := HX2.out j2
          have wk : IntKind.i64.wrap ((k : Int) + (j2 : Int)) = (k : Int) + (j2 : Int) := IntWalk.i64_in _ (by omega)
          have kj0 : (0 : Int) ≤ (k : Int) + (j2 : Int) := by omega
          have kj1 : (k : Int) + (j2 : Int) ≤ (S : Int) := by omega
          have kj2 : ((k : Int) + (j2 : Int)).toNat = k + j2 := by omega
          have zt : ¬ 9223372036854775807 < k + (strS j7).size + (S - (k + j2)) := by omega
          refine hK.out _ _ trivial (fun hHeld => ?_)
          clear hK K
          try simp only [Act.put, List.getElem_toArray, List.getElem_cons_succ, List.getElem_cons_zero, List.setIfInBounds_toArray, List.set_cons_zero, List.set_cons_succ]
          refine wpAnyH_take (i := 13) (oi := _) (v := ?_) rfl (by kernel_rfl) (by kernel_rfl) (by kernel_rfl) (fun _ _ _ h => h) (Or.inl ⟨by kernel_rfl, ?_⟩) trivial ?_; rotate_left; (· (intro w hSw; (try dsimp only at hSw); go_simp; (first | done | with_reducible rfl)))
          try simp only [Act.put, List.getElem_toArray, List.getElem_cons_succ, List.getElem_cons_zero, List.setIfInBounds_toArray, List.set_cons_zero, List.set_cons_succ]
          refine wpAnyH_take (i := 14) (oi := _) (v := ?_) rfl (by kernel_rfl) (by kernel_rfl) (by kernel_rfl) (fun _ _ _ h => h) (Or.inl ⟨by kernel_rfl, ?_⟩) trivial ?_; rotate_left; (· (intro w hSw; (try dsimp only at hSw); go_simp; (first | done | with_reducible rfl)))
          try simp only [Act.put, List.getElem_toArray, List.getElem_cons_succ, List.getElem_cons_zero, List.setIfInBounds_toArray, List.set_cons_zero, List.set_cons_succ]
          refine wpAnyH_ready (rs := [7]) (by kernel_rfl) (by simp) ?_
          refine AllReadyH.cons (o := _) rfl (fun K hK => ?_) (AllReadyH.nil)
          · have y9 : w9.cell? ⟨w7.heap.size, j7, none⟩ = some (.string (strS j7)) := (o2.cells.1 _ j7 (by simp) (by rw [s7]; exact hg)).trans (SC w7 j7 hj7)
            have s8 : w7.heap.size = w5.heap.size := by simpa using s7
            rw [s8] at y9
            go_simp
            refine hK.out _ _ trivial (fun hHeld => ?_)
            clear hK K
            try simp only [Act.put, List.getElem_toArray, List.getElem_cons_succ, List.getElem_cons_zero, List.setIfInBounds_toArray, List.set_cons_zero, List.set_cons_succ]
            refine wpAnyH_take (i := 8) (oi := _) (v := ?_) rfl (by kernel_rfl) (by kernel_rfl) (by kernel_rfl) (fun _ _ _ h => h) (Or.inl ⟨by kernel_rfl, ?_⟩) trivial ?_; rotate_left; (· (intro w hSw; (try dsimp only at hSw); go_simp; (first | done | with_reducible rfl)))
            try simp only [Act.put, List.getElem_toArray, List.getElem_cons_succ, List.getElem_cons_zero, List.setIfInBounds_toArray, List.set_cons_zero, List.set_cons_succ]
            refine wpAnyH_take (i := 15) (oi := _) (v := ?_) rfl (by kernel_rfl) (by kernel_rfl) (by kernel_rfl) (fun _ _ _ h => h) (Or.inl ⟨by kernel_rfl, ?_⟩) trivial ?_; rotate_left; (· (intro w hSw; (try dsimp only at hSw); go_simp; (first | done | with_reducible rfl)))
            try simp only [Act.put, List.getElem_toArray, List.getElem_cons_succ, List.getElem_cons_zero, List.setIfInBounds_toArray, List.set_cons_zero, List.set_cons_succ]
            refine wpAnyH_take (i := 16) (oi := _) (v := ?_) rfl (by kernel_rfl) (by kernel_rfl) (by kernel_rfl) (fun _ _ _ h => h) (Or.inl ⟨by kernel_rfl, ?_⟩) trivial ?_; rotate_left; (· (intro w hSw; (try dsimp only at hSw); go_simp; (first | done | with_reducible rfl)))
            try simp only [Act.put, List.getElem_toArray, List.getElem_cons_succ, List.getElem_cons_zero, List.setIfInBounds_toArray, List.set_cons_zero, List.set_cons_succ]
            refine wpAnyH_done (by kernel_rfl) ?_ _
            refine NoPanic.normal ?_
            go_wp2
            go_ret
            refine ⟨_, rfl, ?_, ?_⟩
            · rw [ByteArray.size_append, ByteArray.size_append, x1]; omega
            · have h7 := (below_drewN hB5 1).trans (o7.below hrB hB5.size)
              have hA := h7.alloc h7.size (.cells #[.string ⟨#[]⟩, .string ⟨#[48]⟩, .string ⟨#[76]⟩, .string ⟨#[82, 49]⟩, .string ⟨#[46]⟩, .string ⟨#[57]⟩, .string ⟨#[54, 48]⟩] 9)
              have h9 := hA.trans (o2.below hrB hA.size)
              exact h9
      · go_simp
        refine (P2.out (p5 + 1) _ (by first | exact r7 | exact Rd.alloc r7 _) (by omega) (by omega)).mono ?_; rintro e w9 ⟨j2, rfl, hj2, a2, b2, r2, o2, s2⟩
        have x3 := HX2.out j2
        have wk : IntKind.i64.wrap ((k : Int) + (j2 : Int)) = (k : Int) + (j2 : Int) := IntWalk.i64_in _ (by omega)
        have kj0 : (0 : Int) ≤ (k : Int) + (j2 : Int) := by omega
        have kj1 : (k : Int) + (j2 : Int) ≤ (S : Int) := by omega
        have kj2 : ((k : Int) + (j2 : Int)).toNat = k + j2 := by omega
        have zt : ¬ 9223372036854775807 < k + (strS j7).size + (S - (k + j2)) := by omega
        refine hK.out _ _ trivial (fun hHeld => ?_)
        clear hK K
        try simp only [Act.put, List.getElem_toArray, List.getElem_cons_succ, List.getElem_cons_zero, List.setIfInBounds_toArray, List.set_cons_zero, List.set_cons_succ]
        refine wpAnyH_take (i := 13) (oi := _) (v := ?_) rfl (by kernel_rfl) (by kernel_rfl) (by kernel_rfl) (fun _ _ _ h => h) (Or.inl ⟨by kernel_rfl, ?_⟩) trivial ?_; rotate_left; (· (intro w hSw; (try dsimp only at hSw); go_simp; (first | done | with_reducible rfl)))
        try simp only [Act.put, List.getElem_toArray, List.getElem_cons_succ, List.getElem_cons_zero, List.setIfInBounds_toArray, List.set_cons_zero, List.set_cons_succ]
        refine wpAnyH_take (i := 14) (oi := _) (v := ?_) rfl (by kernel_rfl) (by kernel_rfl) (by kernel_rfl) (fun _ _ _ h => h) (Or.inl ⟨by kernel_rfl, ?_⟩) trivial ?_; rotate_left; (· (intro w hSw; (try dsimp only at hSw); go_simp; (first | done | with_reducible rfl)))
        try simp only [Act.put, List.getElem_toArray, List.getElem_cons_succ, List.getElem_cons_zero, List.setIfInBounds_toArray, List.set_cons_zero, List.set_cons_succ]
        refine wpAnyH_ready (rs := [3]) (by kernel_rfl) (by simp) ?_
        refine AllReadyH.cons (o := _) rfl (fun K hK => ?_) (AllReadyH.nil)
        · go_simp
          refine hK.out _ _ trivial (fun hHeld => ?_)
          clear hK K
          try simp only [Act.put, List.getElem_toArray, List.getElem_cons_succ, List.getElem_cons_zero, List.setIfInBounds_toArray, List.set_cons_zero, List.set_cons_succ]
          refine wpAnyH_take (i := 6) (oi := _) (v := ?_) rfl (by kernel_rfl) (by kernel_rfl) (by kernel_rfl) (fun _ _ _ h => h) (Or.inl ⟨by kernel_rfl, ?_⟩) trivial ?_; rotate_left; (· (intro w hSw; (try dsimp only at hSw); go_simp; (first | done | with_reducible rfl)))
          try simp only [Act.put, List.getElem_toArray, List.getElem_cons_succ, List.getElem_cons_zero, List.setIfInBounds_toArray, List.set_cons_zero, List.set_cons_succ]
          refine wpAnyH_ready (rs := [7]) (by kernel_rfl) (by simp) ?_
          refine AllReadyH.cons (o := _) rfl (fun K hK => ?_) (AllReadyH.nil)
          · have y7 : ∀ h, ([.string ⟨#[]⟩, .string ⟨#[48]⟩, .string ⟨#[76]⟩, .string ⟨#[82, 49]⟩, .string ⟨#[46]⟩, .string ⟨#[57]⟩, .string ⟨#[54, 48]⟩] : List Value)[j7]'h = .string (strS j7) := fun h => strs_get hj7 h
            go_simp
            refine hK.out _ _ trivial (fun hHeld => ?_)
            clear hK K
            try simp only [Act.put, List.getElem_toArray, List.getElem_cons_succ, List.getElem_cons_zero, List.setIfInBounds_toArray, List.set_cons_zero, List.set_cons_succ]
            refine wpAnyH_take (i := 8) (oi := _) (v := ?_) rfl (by kernel_rfl) (by kernel_rfl) (by kernel_rfl) (fun _ _ _ h => h) (Or.inl ⟨by kernel_rfl, ?_⟩) trivial ?_; rotate_left; (· (intro w hSw; (try dsimp only at hSw); go_simp; (first | done | with_reducible rfl)))
            try simp only [Act.put, List.getElem_toArray, List.getElem_cons_succ, List.getElem_cons_zero, List.setIfInBounds_toArray, List.set_cons_zero, List.set_cons_succ]
            refine wpAnyH_take (i := 15) (oi := _) (v := ?_) rfl (by kernel_rfl) (by kernel_rfl) (by kernel_rfl) (fun _ _ _ h => h) (Or.inl ⟨by kernel_rfl, ?_⟩) trivial ?_; rotate_left; (· (intro w hSw; (try dsimp only at hSw); go_simp; (first | done | with_reducible rfl)))
            try simp only [Act.put, List.getElem_toArray, List.getElem_cons_succ, List.getElem_cons_zero, List.setIfInBounds_toArray, List.set_cons_zero, List.set_cons_succ]
            refine wpAnyH_take (i := 16) (oi := _) (v := ?_) rfl (by kernel_rfl) (by kernel_rfl) (by kernel_rfl) (fun _ _ _ h => h) (Or.inl ⟨by kernel_rfl, ?_⟩) trivial ?_; rotate_left; (· (intro w hSw; (try dsimp only at hSw); go_simp; (first | done | with_reducible rfl)))
            try simp only [Act.put, List.getElem_toArray, List.getElem_cons_succ, List.getElem_cons_zero, List.setIfInBounds_toArray, List.set_cons_zero, List.set_cons_succ]
            refine wpAnyH_done (by kernel_rfl) ?_ _
            refine NoPanic.normal ?_
            go_wp2
            go_ret
            refine ⟨_, rfl, ?_, ?_⟩
            · rw [ByteArray.size_append, ByteArray.size_append, x1]; omega
            · have h7 := (below_drewN hB5 1).trans (o7.below hrB hB5.size)
              have h9 := h7.trans (o2.below hrB h7.size)
              have hA := h9.alloc h9.size (.cells #[.string ⟨#[]⟩, .string ⟨#[48]⟩, .string ⟨#[76]⟩, .string ⟨#[82, 49]⟩, .string ⟨#[46]⟩, .string ⟨#[57]⟩, .string ⟨#[54, 48]⟩] 9)
              exact hA
  · have hj1 : ¬ (j : Int) = 0 := by omega
    go_wp2
    go_ret
    exact ⟨U, rfl, by omega, hB4⟩
end Go.Proofs.YtckkgjgfjnfeoaaDoor
