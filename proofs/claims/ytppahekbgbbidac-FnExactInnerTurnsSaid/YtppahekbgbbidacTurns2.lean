/- Contracts of eqTurnS, markTurnS and heldTurnS. -/
import Derived.Test.YtppahekbgbbidacTurns
import Derived.Deep.RegionHeld3
set_option linter.unusedVariables false
namespace Go.Proofs.Ytppahekbgbbidac

set_option maxRecDepth 4000
open Go.ChangeShapes Go.WideShapes Go.ChangeAt Go.RowKit Go.Joins

set_option maxHeartbeats 2000000 in
theorem eqTurnS_any (v u : Value) (xs : List (Int × Int)) (b c : Nat) (w : World) (hv : OwnT w b v xs) (hu : OwnT w c u xs) (hx : xs.length ≤ 1000) :
    Calls Try.prog 46 #[v, u] w fun e w' => e = .returned (.bool true) ∧ Below w.heap.size w w' := by
  obtain ⟨N, hN⟩ : ∃ N, xs.length = N := ⟨_, rfl⟩
  obtain ⟨a, cap, rfl, HA⟩ := hv.cells hN
  obtain ⟨a', cap', rfl, HA'⟩ := hu.cells hN
  rw [hN] at hx
  clear hv hu hN
  have hB0 := Below.refl w.heap.size w
  go_enter Try.func46, Try.ntmps46
  go_wp2_with fail
  go_loopw [5] (fun i wr => ∃ k : Nat, i = .int .i64 k ∧ k ≤ N ∧ Below w.heap.size w wr) (fun i _ => N - (intOf i).toNat)
  case atStart => exact ⟨0, rfl, by omega, hB0⟩
  case round =>
    obtain ⟨k, rfl, hk, hB⟩ := hrel
    by_cases hkn : k < N
    · have hkn' : (k : Int) < N := by omega
      obtain ⟨g, rfl, hg⟩ := HA.out (by omega)
      obtain ⟨g', rfl, hg'⟩ := HA'.out (by omega)
      obtain ⟨p0, p1⟩ := hg k hkn
      obtain ⟨r0, r1⟩ := hg' k hkn
      have lg := World.block_lt_of_cell? w _ p0
      have lg' := World.block_lt_of_cell? w _ r0
      have q0 := (hB.cell (p := ⟨g, k * 2, none⟩) lg).trans p0
      have q1 := (hB.cell (p := ⟨g, k * 2 + 1, none⟩) lg).trans p1
      have s0 := (hB.cell (p := ⟨g', k * 2, none⟩) lg').trans r0
      have s1 := (hB.cell (p := ⟨g', k * 2 + 1, none⟩) lg').trans r1
      generalize (xs.getD k (0, 0)).1 = X at *
      generalize (xs.getD k (0, 0)).2 = Y at *
      have HE := Lib.hid (fun w => (eqTurn_any X Y X Y w).mono (R' := fun e w' => e = .returned (.bool true) ∧ Below w.heap.size w w') (fun e w' h => ⟨by rw [h.1]; simp, h.2⟩))
      clear hg hg' p0 p1 r0 r1
      go_wp2_with fail
      go_region_held3 (fun w' => w'.cell? ⟨g, k * 2, none⟩ = some (.int .i64 X) ∧ w'.cell? ⟨g, k * 2 + 1, none⟩ = some (.int .i64 Y) ∧ w'.cell? ⟨g', k * 2, none⟩ = some (.int .i64 X) ∧ w'.cell? ⟨g', k * 2 + 1, none⟩ = some (.int .i64 Y))
        (first | go_keep | exact ⟨z0, z1, z2, z3⟩)
        (first | (go_at_call 43; refine (HE.out _).mono ?_; rintro e w' ⟨rfl, hb'⟩; have lw := hB.size; have z0 := (hb'.cell (p := ⟨g, k * 2, none⟩) (Nat.lt_of_lt_of_le lg lw)).trans q0; have z1 := (hb'.cell (p := ⟨g, k * 2 + 1, none⟩) (Nat.lt_of_lt_of_le lg lw)).trans q1; have z2 := (hb'.cell (p := ⟨g', k * 2, none⟩) (Nat.lt_of_lt_of_le lg' lw)).trans s0; have z3 := (hb'.cell (p := ⟨g', k * 2 + 1, none⟩) (Nat.lt_of_lt_of_le lg' lw)).trans s1))
      have hB5 := (below_drewN hB 1).trans (hb'.mono hB.size)
      go_wp2_with fail
      go_roundw
      case rel => exact ⟨k + 1, by go_num, by omega, hB5⟩
      case measure => simp only [intOf]; omega
    · have hkn' : decide ((k : Int) < N) = false := by simp; omega
      go_wp2
      go_ret
      exact ⟨rfl, hB⟩

def markT (k : Int) (n : Nat) : List (Int × Int) := (List.range n).map fun i : Nat => (k + 2 * (i : Int), k + 2 * (i : Int) + 1)

theorem markT_len (k : Int) (n : Nat) : (markT k n).length = n := by simp [markT]

theorem markT_getD (k : Int) (n i : Nat) (h : i < n) : (markT k n).getD i (0, 0) = (k + 2 * (i : Int), k + 2 * (i : Int) + 1) := by
  simp [markT, List.getD_eq_getElem?_getD, h]

def MarkTPost (k : Int) (n b : Nat) (v : Value) (w : World) (e : Ending) (w' : World) : Prop :=
  e = .returned (.int .i64 (k + 2 * (n : Int))) ∧ OwnT w' b v (markT k n) ∧ w.grownBy w' v.ownBlock ∧ w'.heap.size = w.heap.size

set_option maxHeartbeats 2000000 in
theorem markTurnS_any (v : Value) (xs : List (Int × Int)) (k : Int) (b : Nat) (w : World) (hv : OwnT w b v xs) (hn : xs.length ≤ 10000) (hk0 : 0 ≤ k) (hk1 : k ≤ 100000) :
    Calls Try.prog 47 #[v, .int .i64 k] w (MarkTPost k xs.length b v w) := by
  by_cases h00 : xs.length = 0
  · have hx : xs = [] := List.length_eq_zero_iff.1 h00
    subst hx
    have hfin : Hid (MarkTPost k 0 b v w (.returned (.int .i64 k)) w) := ⟨by simp, hv, World.grownBy.refl _ _, rfl⟩
    obtain ⟨a, cap, rfl, _⟩ := hv.cells (N := 0) rfl
    clear hv
    go_enter Try.func47, Try.ntmps47
    go_wp2_with fail
    go_loopw [1, 5] (fun q i wr => i = .int .i64 0 ∧ q = .int .i64 k ∧ wr = w) (fun _ _ _ => 0)
    case atStart => exact ⟨rfl, rfl, rfl⟩
    case round =>
      obtain ⟨rfl, rfl, rfl⟩ := hrel
      go_wp2
      go_ret
      exact hfin.out
  have h0 : 1 ≤ xs.length := by omega
  clear h00
  obtain ⟨n, hN⟩ : ∃ N, xs.length = N := ⟨_, rfl⟩
  obtain ⟨g, cap, cur, rfl, hbg, hr0, hs0, hnc, hm, hc0⟩ := hv.row hN (by omega)
  rw [hN] at hn ⊢
  clear hv hN hc0
  go_enter Try.func47, Try.ntmps47
  go_wp2_with fail
  go_loopw [1, 5] (fun q i wr => ∃ (j : Nat) (c : Array Value), i = .int .i64 j ∧ q = .int .i64 (k + 2 * (j : Int)) ∧ j ≤ n ∧ RowT wr g c ∧ Hid (c.size = cap * 2) ∧ Hid (∀ i, i < j → c[i * 2]? = some (.int .i64 (k + 2 * (i : Int))) ∧ c[i * 2 + 1]? = some (.int .i64 (k + 2 * (i : Int) + 1))) ∧ w.grownBy wr (some g) ∧ Hid (wr.heap.size = w.heap.size)) (fun _ i _ => n - (intOf i).toNat)
  case atStart => exact ⟨0, cur, rfl, by simp, by omega, hr0, hs0, fun i hi => by omega, World.grownBy.refl _ _, rfl⟩
  case round =>
    obtain ⟨j, c, rfl, rfl, hj, hr, HS, hd, hgr, hsz⟩ := hrel
    clear hr0 hs0
    by_cases hjn : j < n
    · have hjn' : (j : Int) < n := by omega
      have hs := HS.out
      have c4 := hr.cell (j * 2)
      obtain ⟨z4, e4⟩ : ∃ z, c[j * 2]? = some z := ⟨_, Array.getElem?_eq_getElem (by omega)⟩
      rw [e4] at c4
      have f4 := hr.free (j * 2)
      have r5 := hr.set (j * 2) (.int .i64 (k + 2 * (j : Int)))
      have c6 := r5.cell (j * 2 + 1)
      obtain ⟨z6, e6⟩ : ∃ z, c[j * 2 + 1]? = some z := ⟨_, Array.getElem?_eq_getElem (by omega)⟩
      rw [Array.getElem?_setIfInBounds, if_neg (by omega), e6] at c6
      have f6 := r5.free (j * 2 + 1)
      have r7 := r5.set (j * 2 + 1) (.int .i64 (k + 2 * (j : Int) + 1))
      clear e4 e6 hr hs
      go_wp2_with fail
      go_roundw
      case rel =>
        refine ⟨j + 1, _, by go_num, by rw [show k + 2 * ((j + 1 : Nat) : Int) = k + 2 * (j : Int) + 1 + 1 by omega], by omega, r7, by show _ = _; simp [HS.out], fun i hi => ?_, ?_, ?_⟩
        · have hs := HS.out
          by_cases hij : i = j
          · subst hij
            refine ⟨?_, ?_⟩
            · rw [Array.getElem?_setIfInBounds, if_neg (by omega), Array.getElem?_setIfInBounds, if_pos rfl, if_pos (by omega)]
            · rw [Array.getElem?_setIfInBounds, if_pos rfl, if_pos (by simp; omega)]
          · obtain ⟨a1, a2⟩ := hd.out i (by omega)
            refine ⟨?_, ?_⟩
            · rw [Array.getElem?_setIfInBounds, if_neg (by omega), Array.getElem?_setIfInBounds, if_neg (by omega)]; exact a1
            · rw [Array.getElem?_setIfInBounds, if_neg (by omega), Array.getElem?_setIfInBounds, if_neg (by omega)]; exact a2
        · exact ⟨hgr.os, hgr.tape, hgr.output, by simpa [World.setCell] using hgr.size, fun q hq hne => ((Below.heap_setCell _ _ _ _ (by show q ≠ g; exact fun e => hne (by rw [e]))).trans (Below.heap_setCell _ _ _ _ (by show q ≠ g; exact fun e => hne (by rw [e])))).trans (hgr.block q hq hne)⟩
        · show ((wr.setCell ⟨g, j * 2, none⟩ _).setCell ⟨g, j * 2 + 1, none⟩ _).heap.size = _
          simp [World.setCell]; exact hsz.out
      case measure => simp only [intOf]; omega
    · have hjn' : decide ((j : Int) < n) = false := by simp; omega
      obtain rfl : j = n := by omega
      have ho : OwnT wr b (.slice (some ⟨g, 0, none⟩) j cap) (markT k j) := RowT.own hr hbg (markT_len k j) HS.out hnc hm (fun i hi => by rw [markT_getD _ _ _ hi]; exact hd.out i hi)
      have hfin : MarkTPost k j b (.slice (some ⟨g, 0, none⟩) j cap) w (.returned (.int .i64 (k + 2 * (j : Int)))) wr := ⟨rfl, ho, hgr, hsz.out⟩
      have HF := Lib.hid hfin
      clear hr hd hgr ho hfin
      go_wp2
      go_ret
      exact HF.out

set_option maxHeartbeats 2000000 in
theorem heldTurnS_any (v : Value) (k : Int) (n b : Nat) (w : World) (hv : OwnT w b v (markT k n)) (hn : n ≤ 10000) (hk0 : 0 ≤ k) (hk1 : k ≤ 100000) :
    Calls Try.prog 48 #[v, .int .i64 k] w fun e w' => e = .returned (.int .i64 (k + 2 * (n : Int))) ∧ w = w' := by
  obtain ⟨a, cap, rfl, HA⟩ := hv.cells (markT_len k n)
  by_cases h00 : n = 0
  · subst h00
    clear hv HA
    go_enter Try.func48, Try.ntmps48
    go_wp2_with fail
    go_loop [1, 5] (fun q i => i = .int .i64 0 ∧ q = .int .i64 k) (fun _ _ => 0)
    case atStart => exact ⟨rfl, rfl⟩
    case round =>
      obtain ⟨rfl, rfl⟩ := hrel
      go_wp2
      go_ret
      exact ⟨ret_int (by simp), rfl⟩
  obtain ⟨g, rfl, hg⟩ := HA.out h00
  have hG : Hid (∀ i, i < n → w.cell? ⟨g, i * 2, none⟩ = some (.int .i64 (k + 2 * (i : Int))) ∧ w.cell? ⟨g, i * 2 + 1, none⟩ = some (.int .i64 (k + 2 * (i : Int) + 1))) := fun i hi => by
    have := hg i hi
    rwa [markT_getD _ _ _ hi] at this
  clear hg hv HA
  go_enter Try.func48, Try.ntmps48
  go_wp2_with fail
  go_loop [1, 5] (fun q i => ∃ j : Nat, i = .int .i64 j ∧ q = .int .i64 (k + 2 * (j : Int)) ∧ j ≤ n) (fun _ i => n - (intOf i).toNat)
  case atStart => exact ⟨0, rfl, by simp, by omega⟩
  case round =>
    obtain ⟨j, rfl, rfl, hj⟩ := hrel
    by_cases hjn : j < n
    · have hjn' : (j : Int) < n := by omega
      obtain ⟨c1, c2⟩ := hG.out j hjn
      go_wp2_with fail
      go_round
      case rel => exact ⟨j + 1, by go_num, by rw [show k + 2 * ((j + 1 : Nat) : Int) = k + 2 * (j : Int) + 1 + 1 by omega], by omega⟩
      case measure => simp only [intOf]; omega
    · have hjn' : decide ((j : Int) < n) = false := by simp; omega
      obtain rfl : j = n := by omega
      go_wp2
      go_ret
      exact ⟨rfl, rfl⟩
end Go.Proofs.Ytppahekbgbbidac
