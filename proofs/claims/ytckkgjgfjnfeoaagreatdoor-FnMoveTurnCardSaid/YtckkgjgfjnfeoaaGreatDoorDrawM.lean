/- Contracts of the Draw functions of chapter 13. -/
import Derived.Test.YtckkgjgfjnfeoaaGreatDoorGDraw
import Derived.Test.YtckkgjgfjnfeoaaGreatDoorRunT
import Derived.Deep.RegionHeld3
import Derived.Deep.RegionWith
set_option linter.unusedVariables false
namespace Go.Proofs.YtckkgjgfjnfeoaaGreatDoor
set_option maxRecDepth 4000

set_option maxRecDepth 4000
open Go.ChangeShapes Go.WideShapes Go.ChangeAt Go.RowKit Go.Joins

theorem new_cell (w : World) (cur : Array Value) (T : TypeId) (i : Nat) : (w.alloc (.cells cur T)).cell? ⟨w.heap.size, i, none⟩ = cur[i]? := by
  unfold World.cell?
  rw [show (w.alloc (.cells cur T)).heap = w.heap.push (.cells cur T) from rfl]
  simp

theorem odd_none (r : Nat) (w : World) : Calls Tryz.prog 31 #[.pointer (some ⟨r, 0, none⟩), .int .i64 0] w fun e w' => e = .returned (.bool false) ∧ w = w' := by
  go_enter Tryz.func31, Tryz.ntmps31
  go_wp2
  go_ret
  exact ⟨rfl, rfl⟩

/-- a text of moves, or nearly -/
def MvPost (r : Nat) (p : Int) (w : World) (e : Ending) (w' : World) : Prop :=
  ∃ (u : ByteArray) (q : Int), e = .returned (.string u) ∧ u.size ≤ 60 ∧ p ≤ q ∧ q ≤ p + 60 ∧ Rd w' r q ∧ OnlyR r w w'

def MvPost0 (r : Nat) (p : Int) (w : World) (e : Ending) (w' : World) : Prop :=
  ∃ (v : List Bool) (q : Int), e = .returned (.string (txtM v)) ∧ v.length ≤ 21 ∧ p ≤ q ∧ q ≤ p + 60 ∧ Rd w' r q ∧ OnlyR r w w'

theorem mv_post {r : Nat} {p : Int} {w : World} {e : Ending} {w' : World} (h : MvPost0 r p w e w') : MvPost r p w e w' := by
  obtain ⟨v, q, a, b, c, d, f, g⟩ := h
  exact ⟨_, q, a, by rw [txtM_size]; omega, c, d, f, g⟩


set_option maxHeartbeats 4000000 in
theorem l20Moves_zero (r : Nat) (p : Int) (w : World) (hr : Rd w r p) (hp0 : 0 ≤ p) (hp : p ≤ 800000) :
    Calls Tryz.prog 21 #[.pointer (some ⟨r, 0, none⟩), .int .i64 0] w (MvPost0 r p w) := by
  have hlt := hr.lt
  have ho := OnlyR.refl r w
  go_enter Tryz.func21, Tryz.ntmps21
  go_wp2_with fail
  refine (odd_none r _).mono ?_; rintro e w1 ⟨rfl, rfl⟩
  go_wp2_with fail
  refine (pick_any r _ 8 _ hr (by omega) (by omega) (by omega)).mono ?_; rintro e w2 ⟨v2, rfl, a2, b2, hr2, ho2, hs2⟩
  have o2 := ho.trans ho2
  clear ho2 hr ho
  go_wp2_with fail
  refine (pick_any r _ 20 _ hr2 (by omega) (by omega) (by omega)).mono ?_; rintro e w3 ⟨v3, rfl, a3, b3, hr3, ho3, hs3⟩
  have o3 := o2.trans ho3
  clear ho3 o2 hr2 hs3 hs2
  have hj : 0 ≤ v3.tdiv 19 ∧ v3.tdiv 19 ≤ 1 := by rw [Int.tdiv_eq_ediv_of_nonneg a3]; omega
  obtain ⟨j, hjv⟩ : ∃ j, v3.tdiv 19 = j := ⟨_, rfl⟩
  rw [hjv] at hj
  have wj : IntKind.i64.wrap j = j := IntWalk.i64_in _ (by omega)
  have wj2 : IntKind.i64.wrap (j * 14) = j * 14 := IntWalk.i64_in _ (by omega)
  have wj3 : IntKind.i64.wrap (v2 + j * 14) = v2 + j * 14 := IntWalk.i64_in _ (by omega)
  have hK : 0 ≤ v2 + j * 14 ∧ v2 + j * 14 ≤ 21 := by omega
  obtain ⟨K, hKK⟩ : ∃ K : Int, v2 + j * 14 = K := ⟨_, rfl⟩
  rw [hKK] at wj3 hK
  obtain ⟨K, rfl⟩ := Int.eq_ofNat_of_zero_le hK.1
  have hK2 : K ≤ 21 := by omega
  go_wp2_with fail
  have H1 : Hid ((⟨#[76]⟩ : ByteArray) = txtM [false]) := rfl
  have H0 : Hid ((⟨#[]⟩ : ByteArray) = txtM []) := rfl
  clear wj wj2 wj3 hKK hK hjv hj a2 b2 a3 b3
  go_loopw [5, 6, 7] (fun xo xl xk wr => ∃ (u : List Bool) (b : Bool) (A B : ByteArray) (k : Nat) (q : Int), xo = .string A ∧ xl = .string B ∧ xk = .int .i64 k ∧ Hid (A = txtM u) ∧ Hid (B = txtM [b]) ∧ A.size = u.length ∧ B.size = 1 ∧ u.length + k ≤ K ∧ p ≤ q ∧ q ≤ p + 3 + 2 * u.length ∧ Rd wr r q ∧ OnlyR r w wr) (fun _ _ xk _ => (intOf xk).toNat)
  case atStart => exact ⟨[], false, ⟨#[]⟩, ⟨#[76]⟩, K, _, rfl, rfl, rfl, rfl, rfl, rfl, rfl, by simp, by omega, by simp; omega, hr3, o3⟩
  case round =>
    obtain ⟨u, b, A, B, k, q, rfl, rfl, rfl, HA, HB, hAs, hBs, hku, q0, q9, hrr, hoo⟩ := hrel
    clear hr3 o3 H0 H1
    by_cases hk0 : 0 < k
    · have hk0' : (0 : Int) < (k : Int) := by omega
      obtain ⟨j, rfl⟩ : ∃ j, k = j + 1 := ⟨k - 1, by omega⟩
      have wk : IntKind.i64.wrap (((j + 1 : Nat) : Int) - 1) = (j : Int) := by rw [show ((j + 1 : Nat) : Int) - 1 = (j : Int) by omega]; exact IntWalk.i64_in _ (by omega)
      have wk2 : IntKind.i64.wrap (((j : Int) + 1) - 1) = (j : Int) := wk
      have wk3 : IntKind.i64.wrap (j : Int) = (j : Int) := IntWalk.i64_in _ (by omega)
      go_wp2_with fail
      refine (pick_any r _ 2 _ hrr (by omega) (by omega) (by omega)).mono ?_; rintro e w4 ⟨v4, rfl, a4, b4, hr4, ho4, hs4⟩
      have o4 := hoo.trans ho4
      clear ho4 hrr hoo hs4
      rcases (show v4 = 0 ∨ v4 = 1 by omega) with rfl | rfl
      · have hr5 := hr4.alloc (.cells #[.string ⟨#[76]⟩, .string ⟨#[82]⟩] 9)
        have o5 := o4.alloc (.cells #[.string ⟨#[76]⟩, .string ⟨#[82]⟩] 9)
        have rs5 := new_cell w4 #[.string ⟨#[76]⟩, .string ⟨#[82]⟩] 9
        have hg : w4.heap.size ≠ r := by have := hr4.lt; omega
        have hlt2 : w4.heap.size < (w4.alloc (.cells #[.string ⟨#[76]⟩, .string ⟨#[82]⟩] 9)).heap.size := by simp
        go_wp2_with fail
        refine (pick_any r _ 2 _ hr5 (by omega) (by omega) (by omega)).mono ?_; rintro e w6 ⟨v6, rfl, a6, b6, hr6, ho6, hs6⟩
        have o6 := o5.trans ho6
        have k0 : w6.cell? ⟨w4.heap.size, 0, none⟩ = some (.string ⟨#[76]⟩) := (ho6.cells.1 _ 0 hlt2 hg).trans (rs5 0)
        have k1 : w6.cell? ⟨w4.heap.size, 1, none⟩ = some (.string ⟨#[82]⟩) := (ho6.cells.1 _ 1 hlt2 hg).trans (rs5 1)
        clear rs5 hr5 o5 ho6 hs6 hr4 o4 hlt2
        rcases (show v6 = 0 ∨ v6 = 1 by omega) with rfl | rfl
        · have E : Hid (A ++ ⟨#[76]⟩ = txtM (u ++ [false])) := by show _ = _; rw [HA.out]; exact byte_app u false
          have E2 : (A ++ ⟨#[76]⟩).size = (u ++ [false]).length := by rw [E.out, txtM_size]
          have E3 := E2
          rw [List.length_append, List.length_singleton] at E3
          clear E2
          go_wp2_with fail
          go_roundw
          case rel => exact ⟨u ++ [false], false, _, _, j, _, rfl, rfl, rfl, E.out, rfl, by rw [List.length_append, List.length_singleton]; exact E3, rfl, by rw [List.length_append, List.length_singleton]; omega, by omega, by rw [List.length_append, List.length_singleton]; omega, hr6, o6⟩
          case measure => simp only [intOf]; omega
        · have E : Hid (A ++ ⟨#[82]⟩ = txtM (u ++ [true])) := by show _ = _; rw [HA.out]; exact byte_app u true
          have E2 : (A ++ ⟨#[82]⟩).size = (u ++ [true]).length := by rw [E.out, txtM_size]
          have E3 := E2
          rw [List.length_append, List.length_singleton] at E3
          clear E2
          go_wp2_with fail
          go_roundw
          case rel => exact ⟨u ++ [true], true, _, _, j, _, rfl, rfl, rfl, E.out, rfl, by rw [List.length_append, List.length_singleton]; exact E3, rfl, by rw [List.length_append, List.length_singleton]; omega, by omega, by rw [List.length_append, List.length_singleton]; omega, hr6, o6⟩
          case measure => simp only [intOf]; omega
      · have E : Hid (A ++ B = txtM (u ++ [b])) := by show _ = _; rw [HA.out, HB.out]; exact txtM_append u [b]
        have E2 : (A ++ B).size = (u ++ [b]).length := by rw [E.out, txtM_size]
        have E3 := E2
        rw [List.length_append, List.length_singleton] at E3
        clear E2
        go_wp2_with fail
        go_roundw
        case rel => exact ⟨u ++ [b], b, _, _, j, _, rfl, rfl, rfl, E.out, HB.out, by rw [List.length_append, List.length_singleton]; exact E3, hBs, by rw [List.length_append, List.length_singleton]; omega, by omega, by rw [List.length_append, List.length_singleton]; omega, hr4, o4⟩
        case measure => simp only [intOf]; omega
    · obtain rfl : k = 0 := by omega
      have hA2 := HA.out
      subst hA2
      go_wp2
      go_ret
      exact ⟨u, q, rfl, by omega, by omega, by omega, hrr, hoo⟩

set_option maxHeartbeats 4000000 in
theorem l20Moves_any (r : Nat) (p n : Int) (w : World) (hr : Rd w r p) (hp0 : 0 ≤ p) (hp : p ≤ 800000) (hn : n ≤ 1000000) :
    Calls Tryz.prog 21 #[.pointer (some ⟨r, 0, none⟩), .int .i64 n] w (MvPost r p w) := by
  have hlt := hr.lt
  go_enter Tryz.func21, Tryz.ntmps21
  go_wp2_with fail
  refine (odd_any r p n _ hr hp0 (by omega) hn).mono ?_; rintro e w1 ⟨v1, q1, rfl, a1, b1, hr1, ho1, hs1⟩
  cases v1 with
  | true =>
    have hr2 := hr1.alloc (.cells #[.string ⟨#[120]⟩, .string ⟨#[76, 82, 120]⟩, .string ⟨#[108]⟩] 9)
    have rs2 := new_cell w1 #[.string ⟨#[120]⟩, .string ⟨#[76, 82, 120]⟩, .string ⟨#[108]⟩] 9
    have ho2 := ho1.alloc (.cells #[.string ⟨#[120]⟩, .string ⟨#[76, 82, 120]⟩, .string ⟨#[108]⟩] 9)
    have hg : w1.heap.size ≠ r := by omega
    have hlt2 : w1.heap.size < (w1.alloc (.cells #[.string ⟨#[120]⟩, .string ⟨#[76, 82, 120]⟩, .string ⟨#[108]⟩] 9)).heap.size := by simp
    go_wp2_with fail
    refine (pick_any r q1 3 _ hr2 (by omega) (by omega) (by omega)).mono ?_; rintro e w3 ⟨v3, rfl, a3, b3, hr3, ho3, hs3⟩
    have ho4 := ho2.trans ho3
    have k0 : w3.cell? ⟨w1.heap.size, 0, none⟩ = some (.string ⟨#[120]⟩) := (ho3.cells.1 _ 0 hlt2 hg).trans (rs2 0)
    have k1 : w3.cell? ⟨w1.heap.size, 1, none⟩ = some (.string ⟨#[76, 82, 120]⟩) := (ho3.cells.1 _ 1 hlt2 hg).trans (rs2 1)
    have k2 : w3.cell? ⟨w1.heap.size, 2, none⟩ = some (.string ⟨#[108]⟩) := (ho3.cells.1 _ 2 hlt2 hg).trans (rs2 2)
    rw [hs1] at k0 k1 k2
    have hv : v3 = 0 ∨ v3 = 1 ∨ v3 = 2 := by omega
    clear rs2 hr2 ho2 ho3 a3 b3 hr1 ho1
    rcases hv with rfl | rfl | rfl
    · go_wp2
      go_ret
      exact ⟨_, q1 + 1, rfl, by decide, by omega, by omega, hr3, ho4⟩
    · go_wp2
      go_ret
      exact ⟨_, q1 + 1, rfl, by decide, by omega, by omega, hr3, ho4⟩
    · go_wp2
      go_ret
      exact ⟨_, q1 + 1, rfl, by decide, by omega, by omega, hr3, ho4⟩
  | false =>
    go_wp2_with fail
    refine (pick_any r _ 8 _ hr1 (by omega) (by omega) (by omega)).mono ?_; rintro e w2 ⟨v2, rfl, a2, b2, hr2, ho2, hs2⟩
    have o2 := ho1.trans ho2
    clear ho2 hr1 ho1
    go_wp2_with fail
    refine (pick_any r _ 20 _ hr2 (by omega) (by omega) (by omega)).mono ?_; rintro e w3 ⟨v3, rfl, a3, b3, hr3, ho3, hs3⟩
    have o3 := o2.trans ho3
    clear ho3 o2 hr2 hs3 hs2
    have hj : 0 ≤ v3.tdiv 19 ∧ v3.tdiv 19 ≤ 1 := by rw [Int.tdiv_eq_ediv_of_nonneg a3]; omega
    obtain ⟨j, hjv⟩ : ∃ j, v3.tdiv 19 = j := ⟨_, rfl⟩
    rw [hjv] at hj
    have wj : IntKind.i64.wrap j = j := IntWalk.i64_in _ (by omega)
    have wj2 : IntKind.i64.wrap (j * 14) = j * 14 := IntWalk.i64_in _ (by omega)
    have wj3 : IntKind.i64.wrap (v2 + j * 14) = v2 + j * 14 := IntWalk.i64_in _ (by omega)
    have hK : 0 ≤ v2 + j * 14 ∧ v2 + j * 14 ≤ 21 := by omega
    obtain ⟨K, hKK⟩ : ∃ K : Int, v2 + j * 14 = K := ⟨_, rfl⟩
    rw [hKK] at wj3 hK
    obtain ⟨K, rfl⟩ := Int.eq_ofNat_of_zero_le hK.1
    have hK2 : K ≤ 21 := by omega
    go_wp2_with fail
    have H1 : Hid ((⟨#[76]⟩ : ByteArray) = txtM [false]) := rfl
    have H0 : Hid ((⟨#[]⟩ : ByteArray) = txtM []) := rfl
    clear wj wj2 wj3 hKK hK hjv hj a2 b2 a3 b3
    go_loopw [5, 6, 7] (fun xo xl xk wr => ∃ (u : List Bool) (b : Bool) (A B : ByteArray) (k : Nat) (q : Int), xo = .string A ∧ xl = .string B ∧ xk = .int .i64 k ∧ Hid (A = txtM u) ∧ Hid (B = txtM [b]) ∧ A.size = u.length ∧ B.size = 1 ∧ u.length + k ≤ K ∧ p ≤ q ∧ q ≤ p + 4 + 2 * u.length ∧ Rd wr r q ∧ OnlyR r w wr) (fun _ _ xk _ => (intOf xk).toNat)
    case atStart => exact ⟨[], false, ⟨#[]⟩, ⟨#[76]⟩, K, _, rfl, rfl, rfl, rfl, rfl, rfl, rfl, by simp, by omega, by simp; omega, hr3, o3⟩
    case round =>
      obtain ⟨u, b, A, B, k, q, rfl, rfl, rfl, HA, HB, hAs, hBs, hku, q0, q9, hrr, hoo⟩ := hrel
      clear hr3 o3 H0 H1
      by_cases hk0 : 0 < k
      · have hk0' : (0 : Int) < (k : Int) := by omega
        obtain ⟨j, rfl⟩ : ∃ j, k = j + 1 := ⟨k - 1, by omega⟩
        have wk : IntKind.i64.wrap (((j + 1 : Nat) : Int) - 1) = (j : Int) := by rw [show ((j + 1 : Nat) : Int) - 1 = (j : Int) by omega]; exact IntWalk.i64_in _ (by omega)
        have wk2 : IntKind.i64.wrap (((j : Int) + 1) - 1) = (j : Int) := wk
        have wk3 : IntKind.i64.wrap (j : Int) = (j : Int) := IntWalk.i64_in _ (by omega)
        go_wp2_with fail
        refine (pick_any r _ 2 _ hrr (by omega) (by omega) (by omega)).mono ?_; rintro e w4 ⟨v4, rfl, a4, b4, hr4, ho4, hs4⟩
        have o4 := hoo.trans ho4
        clear ho4 hrr hoo hs4
        rcases (show v4 = 0 ∨ v4 = 1 by omega) with rfl | rfl
        · have hr5 := hr4.alloc (.cells #[.string ⟨#[76]⟩, .string ⟨#[82]⟩] 9)
          have o5 := o4.alloc (.cells #[.string ⟨#[76]⟩, .string ⟨#[82]⟩] 9)
          have rs5 := new_cell w4 #[.string ⟨#[76]⟩, .string ⟨#[82]⟩] 9
          have hg : w4.heap.size ≠ r := by have := hr4.lt; omega
          have hlt2 : w4.heap.size < (w4.alloc (.cells #[.string ⟨#[76]⟩, .string ⟨#[82]⟩] 9)).heap.size := by simp
          go_wp2_with fail
          refine (pick_any r _ 2 _ hr5 (by omega) (by omega) (by omega)).mono ?_; rintro e w6 ⟨v6, rfl, a6, b6, hr6, ho6, hs6⟩
          have o6 := o5.trans ho6
          have k0 : w6.cell? ⟨w4.heap.size, 0, none⟩ = some (.string ⟨#[76]⟩) := (ho6.cells.1 _ 0 hlt2 hg).trans (rs5 0)
          have k1 : w6.cell? ⟨w4.heap.size, 1, none⟩ = some (.string ⟨#[82]⟩) := (ho6.cells.1 _ 1 hlt2 hg).trans (rs5 1)
          clear rs5 hr5 o5 ho6 hs6 hr4 o4 hlt2
          rcases (show v6 = 0 ∨ v6 = 1 by omega) with rfl | rfl
          · have E : Hid (A ++ ⟨#[76]⟩ = txtM (u ++ [false])) := by show _ = _; rw [HA.out]; exact byte_app u false
            have E2 : (A ++ ⟨#[76]⟩).size = (u ++ [false]).length := by rw [E.out, txtM_size]
            have E3 := E2
            rw [List.length_append, List.length_singleton] at E3
            clear E2
            go_wp2_with fail
            go_roundw
            case rel => exact ⟨u ++ [false], false, _, _, j, _, rfl, rfl, rfl, E.out, rfl, by rw [List.length_append, List.length_singleton]; exact E3, rfl, by rw [List.length_append, List.length_singleton]; omega, by omega, by rw [List.length_append, List.length_singleton]; omega, hr6, o6⟩
            case measure => simp only [intOf]; omega
          · have E : Hid (A ++ ⟨#[82]⟩ = txtM (u ++ [true])) := by show _ = _; rw [HA.out]; exact byte_app u true
            have E2 : (A ++ ⟨#[82]⟩).size = (u ++ [true]).length := by rw [E.out, txtM_size]
            have E3 := E2
            rw [List.length_append, List.length_singleton] at E3
            clear E2
            go_wp2_with fail
            go_roundw
            case rel => exact ⟨u ++ [true], true, _, _, j, _, rfl, rfl, rfl, E.out, rfl, by rw [List.length_append, List.length_singleton]; exact E3, rfl, by rw [List.length_append, List.length_singleton]; omega, by omega, by rw [List.length_append, List.length_singleton]; omega, hr6, o6⟩
            case measure => simp only [intOf]; omega
        · have E : Hid (A ++ B = txtM (u ++ [b])) := by show _ = _; rw [HA.out, HB.out]; exact txtM_append u [b]
          have E2 : (A ++ B).size = (u ++ [b]).length := by rw [E.out, txtM_size]
          have E3 := E2
          rw [List.length_append, List.length_singleton] at E3
          clear E2
          go_wp2_with fail
          go_roundw
          case rel => exact ⟨u ++ [b], b, _, _, j, _, rfl, rfl, rfl, E.out, HB.out, by rw [List.length_append, List.length_singleton]; exact E3, hBs, by rw [List.length_append, List.length_singleton]; omega, by omega, by rw [List.length_append, List.length_singleton]; omega, hr4, o4⟩
          case measure => simp only [intOf]; omega
      · obtain rfl : k = 0 := by omega
        have hA2 := HA.out
        subst hA2
        go_wp2
        go_ret
        exact mv_post ⟨u, q, rfl, by omega, by omega, by omega, hrr, hoo⟩

set_option maxHeartbeats 1000000 in
theorem drawMoveTurn_any (a : Option Addr) (len cap : Nat) (w : World) (hc : CodeIn w a len cap) (hl : len ≤ 1048576) :
    Calls Tryz.prog 6 #[.slice a len cap] w fun e w' => ∃ u : ByteArray, e = .returned (.string u) ∧ u.size ≤ 60 ∧ Below w.heap.size w w' := by
  go_enter Tryz.func6, Tryz.ntmps6
  go_wp2_with fail
  refine (l20Open_any a len cap _ hc hl).mono ?_; rintro e w1 ⟨r, rfl, hr, hr1, hb1⟩
  go_wp2_with fail
  refine (l20Moves_any r 0 _ _ hr1 (by omega) (by omega) (by omega)).mono ?_
  rintro e w3 ⟨u, q, rfl, hu, q0, q1, hr3, ho3⟩
  have hB3 := hb1.trans (ho3.below hr hb1.size)
  go_wp2
  go_ret
  exact ⟨_, rfl, hu, hB3⟩

set_option maxHeartbeats 1000000 in
theorem drawBackMoves_any (a : Option Addr) (len cap : Nat) (w : World) (hc : CodeIn w a len cap) (hl : len ≤ 1048576) :
    Calls Tryz.prog 16 #[.slice a len cap] w fun e w' => ∃ u : ByteArray, e = .returned (.string u) ∧ u.size ≤ 60 ∧ Below w.heap.size w w' := by
  go_enter Tryz.func16, Tryz.ntmps16
  go_wp2_with fail
  refine (l20Open_any a len cap _ hc hl).mono ?_; rintro e w1 ⟨r, rfl, hr, hr1, hb1⟩
  go_wp2_with fail
  refine (l20Moves_any r 0 _ _ hr1 (by omega) (by omega) (by omega)).mono ?_
  rintro e w3 ⟨u, q, rfl, hu, q0, q1, hr3, ho3⟩
  have hB3 := hb1.trans (ho3.below hr hb1.size)
  go_wp2
  go_ret
  exact ⟨_, rfl, hu, hB3⟩

set_option maxHeartbeats 1000000 in
theorem drawOtherMoves_any (a : Option Addr) (len cap : Nat) (w : World) (hc : CodeIn w a len cap) (hl : len ≤ 1048576) :
    Calls Tryz.prog 19 #[.slice a len cap] w fun e w' => ∃ u : ByteArray, e = .returned (.string u) ∧ u.size ≤ 60 ∧ Below w.heap.size w w' := by
  go_enter Tryz.func19, Tryz.ntmps19
  go_wp2_with fail
  refine (l20Open_any a len cap _ hc hl).mono ?_; rintro e w1 ⟨r, rfl, hr, hr1, hb1⟩
  go_wp2_with fail
  refine (l20Moves_any r 0 _ _ hr1 (by omega) (by omega) (by omega)).mono ?_
  rintro e w3 ⟨u, q, rfl, hu, q0, q1, hr3, ho3⟩
  have hB3 := hb1.trans (ho3.below hr hb1.size)
  go_wp2
  go_ret
  exact ⟨_, rfl, hu, hB3⟩

end Go.Proofs.YtckkgjgfjnfeoaaGreatDoor
