/- Contracts of the Draw functions of chapter 5. -/
import Derived.Test.YtejofckfnieolaaTxt
import Derived.Test.YtejofckfnieolaaWord3
import Derived.Test.YtejofckfnieolaaDraw9
import Derived.Deep.RegionHeld3
import Derived.Deep.RegionWith
set_option linter.unusedVariables false
namespace Go.Proofs.Ytejofckfnieolaa

set_option maxRecDepth 4000
open Go.ChangeShapes Go.WideShapes Go.ChangeAt Go.RowKit Go.Joins

def digS (j : Nat) : ByteArray := if j = 0 then ⟨#[48]⟩ else ⟨#[49]⟩

theorem digS_size (j : Nat) : (digS j).size = 1 := by unfold digS; split <;> rfl

theorem dig_cell {w : World} {g : Nat} (h : RowS w g #[.string ⟨#[48]⟩, .string ⟨#[49]⟩]) (j : Nat) (hj : j < 2) : w.cell? ⟨g, j, none⟩ = some (.string (digS j)) := by
  rw [h.cell j]
  match j, hj with
  | 0, _ => rfl
  | 1, _ => rfl

theorem pick2_any (r : Nat) (p : Int) (w : World) (hr : Rd w r p) (hp0 : 0 ≤ p) (hp : p ≤ 1000000) :
    Calls Try.prog 55 #[.pointer (some ⟨r, 0, none⟩), .int .i64 2] w fun e w' => ∃ j : Nat, e = .returned (.int .i64 j) ∧ j < 2 ∧ Rd w' r (p + 1) ∧ OnlyR r w w' := by
  refine (pick_any r p 2 w hr hp0 hp (by omega)).mono ?_
  rintro e w' ⟨v, rfl, a, b, r', o', s'⟩
  obtain ⟨j, rfl⟩ := Int.eq_ofNat_of_zero_le a
  exact ⟨j, rfl, by omega, r', o'⟩

def CodePost (r : Nat) (p : Int) (w : World) (e : Ending) (w' : World) : Prop :=
  ∃ (u : ByteArray) (q : Int), e = .returned (.string u) ∧ u.size ≤ 100 ∧ p ≤ q ∧ q ≤ p + 20 ∧ Rd w' r q ∧ OnlyR r w w'

set_option maxHeartbeats 4000000 in
theorem l20Code_any (r : Nat) (p n : Int) (w : World) (hr : Rd w r p) (hp0 : 0 ≤ p) (hp : p ≤ 800000) (hn : n ≤ 1000000) :
    Calls Try.prog 56 #[.pointer (some ⟨r, 0, none⟩), .int .i64 n] w (CodePost r p w) := by
  have hlt := hr.lt
  go_enter Try.func56, Try.ntmps56
  go_wp2_with fail
  refine (odd_any r p n _ hr hp0 (by omega) hn).mono ?_; rintro e w1 ⟨v1, q1, rfl, a1, b1, hr1, ho1, hs1⟩
  cases v1 with
  | true =>
    have hr2 := hr1.alloc (.cells #[.string ⟨#[50]⟩, .string ⟨#[48, 120, 49]⟩, .string ⟨#[32]⟩] 9)
    have rs2 := RowS.new w1 #[.string ⟨#[50]⟩, .string ⟨#[48, 120, 49]⟩, .string ⟨#[32]⟩]
    have ho2 := ho1.alloc (.cells #[.string ⟨#[50]⟩, .string ⟨#[48, 120, 49]⟩, .string ⟨#[32]⟩] 9)
    have hg : w1.heap.size ≠ r := by omega
    rw [hs1] at rs2 hg
    go_wp2_with fail
    refine (pick_any r q1 3 _ hr2 (by omega) (by omega) (by omega)).mono ?_; rintro e w3 ⟨v3, rfl, a3, b3, hr3, ho3, hs3⟩
    have rs3 := rs2.onlyR ho3 hg
    have ho4 := ho2.trans ho3
    have k0 : w3.cell? ⟨w.heap.size, 0, none⟩ = some (.string ⟨#[50]⟩) := rs3.cell 0
    have k1 : w3.cell? ⟨w.heap.size, 1, none⟩ = some (.string ⟨#[48, 120, 49]⟩) := rs3.cell 1
    have k2 : w3.cell? ⟨w.heap.size, 2, none⟩ = some (.string ⟨#[32]⟩) := rs3.cell 2
    have hv : v3 = 0 ∨ v3 = 1 ∨ v3 = 2 := by omega
    clear rs3 rs2 hr2 ho2 ho3 a3 b3 hr1 ho1
    rcases hv with rfl | rfl | rfl
    · go_wp2
      go_ret
      exact ⟨_, q1 + 1, rfl, by decide, by omega, by omega, hr3, ho4⟩
    · go_wp2
      go_ret
      exact ⟨_, q1 + 1, rfl, by decide, by omega, by omega, hr3, ho4⟩
    · go_wp2
      go_ret
      exact ⟨_, q1 + 1, rfl, by decide, by omega, by omega, hr3, ho4⟩
  | false =>
    go_wp2_with fail
    refine (l20Turn_any r q1 0 _ hr1 (by omega) (by omega) (by omega)).mono ?_
    rintro e w2 ⟨N, S, q2, rfl, n0, n1, s0, s1, a2, b2, hr2, ho2⟩
    have t3 : Two (w2.alloc (.cells #[.int .i64 N, .int .i64 S] 24)) w2.heap.size (.int .i64 N) (.int .i64 S) 24 := Two.new _ _ _ _
    have hr3 := hr2.alloc (.cells #[.int .i64 N, .int .i64 S] 24)
    have ho3 := (ho1.trans ho2).alloc (.cells #[.int .i64 N, .int .i64 S] 24)
    have hT : w2.heap.size ≠ r := by have := hr2.lt; omega
    have hz := ho3.size
    clear hr2 ho2 hr1 ho1
    go_wp2_with fail
    generalize w2.alloc (.cells #[.int .i64 N, .int .i64 S] 24) = w3 at *
    generalize w2.heap.size = T at *
    have c0 := t3.cell0
    have c1 := t3.cell1
    have hw1 : IntKind.i64.wrap (N + 1) = N + 1 := IntWalk.i64_in _ (by omega)
    go_region_held3 (fun w' => w'.cell? ⟨T, 0, none⟩ = some (.int .i64 N) ∧ w'.cell? ⟨T, 1, none⟩ = some (.int .i64 S))
      (first | go_keep | exact ⟨c0', c1'⟩)
      (first
        | (go_at_call 55; refine (pick_any r _ _ _ (by assumption) (by omega) (by omega) (by first | omega | (rw [hw1]; omega))).mono ?_; rintro e w' ⟨v, rfl, a, b, r', o', s'⟩; have t' := o'.two (by assumption : Two _ T (.int .i64 N) (.int .i64 S) 24) hT; have c0' := t'.cell0; have c1' := t'.cell1)
        | (go_at_call 57; refine (specCodeOf_any _ _ _ _ _).mono ?_; rintro e w' ⟨rfl, b'⟩; have t' := Two.below (b := T) (x := .int .i64 N) (y := .int .i64 S) (T := 24) (by assumption) b' (Two.lt (by assumption : Two _ T (.int .i64 N) (.int .i64 S) 24)); have c0' := t'.cell0; have c1' := t'.cell1))
    have r9 := r'.below b'
    have o9 := (((ho3.drewN 1).trans (by assumption)).trans o').ofBelow b'
    have hs9 : ∀ x y, (txtB (codeF N S x y)).size ≤ 60 := fun x y => by rw [txtB_size]; exact codeF_len _ _ _ _
    generalize hw9 : txtB (codeF N S _ v) = U at *
    have hUs : U.size ≤ 60 := by rw [← hw9]; exact hs9 _ _
    clear hs9 hw9 t' c0' c1' b' r' o' t3 c0 c1 hr3 ho3 hr
    rename_i wz _
    go_wp2_with fail
    refine (pick_any r _ 3 _ r9 (by omega) (by omega) (by omega)).mono ?_; rintro e w5 ⟨v5, rfl, a5, b5, hr5, ho5, hs5⟩
    have o5 := o9.trans ho5
    clear ho5 o9 r9
    by_cases h5 : v5 = 0 ∧ 0 < U.size
    · obtain ⟨rfl, hU0⟩ := h5
      have hU0' : (0 : Int) < U.size := by omega
      go_wp2_with fail
      refine (pick_any r _ U.size _ hr5 (by omega) (by omega) (by omega)).mono ?_; rintro e w6 ⟨v6, rfl, a6, b6, hr6, ho6, hs6⟩
      have o6 := o5.trans ho6
      clear ho6 o5 hr5
      obtain ⟨k, rfl⟩ := Int.eq_ofNat_of_zero_le a6
      have hk : k < U.size := by omega
      go_wp2_with fail
      have hw2 : IntKind.i64.wrap ((k : Int) + 1) = (k : Int) + 1 := IntWalk.i64_in _ (by omega)
      have hw3 : ((k : Int) + 1).toNat = k + 1 := by omega
      have hx1 : (U.extract 0 k).size = k := by rw [ByteArray.size_extract]; omega
      have hx2 : (U.extract (k + 1) U.size).size = U.size - (k + 1) := by rw [ByteArray.size_extract]; omega
      have hg6 : w6.heap.size ≠ r := by have := hr6.lt; omega
      have kk0 : (0 : Int) ≤ k := by omega
      have kk1 : (k : Int) ≤ U.size := by omega
      have kk2 : (k : Int) + 1 ≤ U.size := by omega
      have kk3 : (0 : Int) ≤ (k : Int) + 1 := by omega
      clear t' c0' c1' a b a5 b5 b6 n0 n1 s0 s1 hs5 hs6
      have hrA : Rd (w6.alloc (.cells #[.string ⟨#[48]⟩, .string ⟨#[49]⟩] 9)).drew r _ := Rd.drewN (Rd.alloc hr6 _) 1
      have rsA : RowS (w6.alloc (.cells #[.string ⟨#[48]⟩, .string ⟨#[49]⟩] 9)).drew w6.heap.size #[.string ⟨#[48]⟩, .string ⟨#[49]⟩] := RowS.new w6 _
      have hrB : Rd w6.drew r _ := Rd.drewN hr6 1
      have q0 : 0 ≤ q2 := by omega
      have q1' : q2 ≤ 900000 := by omega
      go_region_with (go_at_call 55; refine (pick2_any r _ _ (by assumption) (by omega) (by omega)).mono ?_; rintro e w' ⟨j, rfl, hj, r', o'⟩; have hj0 : (0 : Int) ≤ j := (by omega); have hj1 : (j : Int) < 2 := (by omega); have hds := digS_size j; have hn : (w'.alloc (.cells #[.string ⟨#[48]⟩, .string ⟨#[49]⟩] 9)).cell? ⟨w'.heap.size, j, none⟩ = some (.string (digS j)) := dig_cell (RowS.new w' #[.string ⟨#[48]⟩, .string ⟨#[49]⟩]) j hj; try (have hy : w'.cell? ⟨w6.heap.size, j, none⟩ = some (.string (digS j)) := dig_cell (RowS.onlyR rsA o' hg6) j hj))
      all_goals (
        go_wp2_with fail
        go_ret
        refine ⟨_, q2 + 1 + 1 + 1 + 1 + 1, rfl, (by simp only [ByteArray.size_append]; omega), (by omega), (by omega), ?_, ?_⟩
        · first | exact r' | exact r'.alloc _
        · first | exact ((o6.alloc _).drewN 1).trans o' | exact ((o6.drewN 1).trans o').alloc _)
    · by_cases h6 : v5 = 0
      · subst h6
        have hU0' : ¬ (0 : Int) < U.size := by omega
        go_wp2
        go_ret
        exact ⟨_, _, rfl, by omega, by omega, by omega, hr5, o5⟩
      · have h6' : (v5 == 0) = false := by simpa using h6
        go_wp2
        go_ret
        exact ⟨_, _, rfl, by omega, by omega, by omega, hr5, o5⟩
end Go.Proofs.Ytejofckfnieolaa
