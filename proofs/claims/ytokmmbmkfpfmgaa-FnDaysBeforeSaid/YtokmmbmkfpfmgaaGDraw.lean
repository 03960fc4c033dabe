/- Contracts of the drawers that come before a law: l20Open, l20At, l20Many, and the Draw functions of chapter 1. Each gives some value in bounds, and changes nothing that was there. Contracts of the Draw functions of chapter 1: each gives some value in bounds, and changes nothing that was there. Contracts of l20Many and DrawFirstPoints. -/
import Derived.Test.YtokmmbmkfpfmgaaDraw
set_option linter.unusedVariables false
namespace Go.Proofs.Ytokmmbmkfpfmgaa
set_option maxRecDepth 4000
open Go.ChangeShapes Go.WideShapes Go.ChangeAt Go.RowKit Go.Joins

/-- the bytes that a law takes -/
def CodeIn (w : World) (a : Option Addr) (len cap : Nat) : Prop :=
  len = 0 ∨ ∃ b off, a = some ⟨b, off, none⟩ ∧ 0 < len ∧ len ≤ cap ∧ b < w.heap.size ∧ ∀ i, i < len → ∃ z : Nat, z < 256 ∧ w.cell? ⟨b, off + i, none⟩ = some (.int .u8 z)

theorem CodeIn.of {w : World} {a : Option Addr} {len cap : Nat} {zs : List Int} (h : IsRow .u8 w a len cap zs) : CodeIn w a len cap := by
  rcases h with ⟨_, h, _, _⟩ | ⟨x, rfl, hl, hm, hz, hc, hw⟩
  · exact .inl h
  · by_cases h0 : len = 0
    · exact .inl h0
    · right
      obtain ⟨b, off, spot⟩ := x
      have h1 := hc 0 (by omega)
      have hspot : spot = none := by simpa [Addr.add] using World.cell?_spot h1
      subst hspot
      refine ⟨b, off, rfl, by omega, hl, World.block_lt_of_cell? w _ h1, fun i hi => ?_⟩
      have h2 := hc i (by omega)
      have hmem : zs.getD i 0 ∈ zs := by
        rw [List.getD_eq_getElem?_getD, List.getElem?_eq_getElem (by omega)]
        simp
      have hwf := hw _ hmem
      clear hmem
      generalize zs.getD i 0 = z at h2 hwf
      simp [Lit.wf, IntKind.min, IntKind.max, IntKind.bits, IntKind.signed] at hwf
      refine ⟨z.toNat, by omega, ?_⟩
      rw [Int.toNat_of_nonneg hwf.1]
      by_cases hi0 : i = 0 <;> simpa [Addr.add, hi0] using h2

theorem CodeIn.below {w w' : World} {a : Option Addr} {len cap : Nat} (h : CodeIn w a len cap) (hb : Below w.heap.size w w') : CodeIn w' a len cap := by
  rcases h with h | ⟨b, off, h1, h2, h3, h4, h5⟩
  · exact .inl h
  · exact .inr ⟨b, off, h1, h2, h3, Nat.lt_of_lt_of_le h4 hb.size, fun i hi => by
      obtain ⟨z, hz, hc⟩ := h5 i hi
      exact ⟨z, hz, (hb.cell (p := ⟨b, off + i, none⟩) h4).trans hc⟩⟩

def OpenPost (w : World) (e : Ending) (w' : World) : Prop :=
  ∃ r, e = .returned (.pointer (some ⟨r, 0, none⟩)) ∧ w.heap.size ≤ r ∧ Rd w' r 0 ∧ Below w.heap.size w w'

set_option maxHeartbeats 400000 in
theorem l20Open_any (a : Option Addr) (len cap : Nat) (w : World) (hc : CodeIn w a len cap) (hl : len ≤ 1048576) :
    Calls Try.prog 38 #[.slice a len cap] w (OpenPost w) := by
  rcases hc with rfl | ⟨b, off, rfl, h0, hcap, hb, hcell⟩
  · go_enter Try.func38, Try.ntmps38
    go_wp2
    go_ret
    exact ⟨w.heap.size, rfl, Nat.le_refl _, ⟨_, Two.new _ _ _ _, .inl ⟨a, cap, rfl⟩⟩, (by repeat (first | exact Below.refl _ _ | assumption | (refine Below.trans ?_ (Below.mono (by assumption) (by first | omega | (simp <;> omega)))) | (refine Below.alloc ?_ (by first | omega | (simp <;> omega)) _) | (refine below_drewN ?_ _) | (refine Below.drew ?_) | (refine Below.setCell ?_ (by first | omega | (simp <;> omega)) _)))⟩
  · by_cases hl2 : 2000 < len
    · have hl3 : (2000 : Int) < len := by omega
      have hcap2 : (2000 : Int) ≤ cap := by omega
      go_enter Try.func38, Try.ntmps38
      go_wp2
      go_ret
      refine ⟨w.heap.size, rfl, Nat.le_refl _, ⟨_, Two.new _ _ _ _, .inr ⟨b, off, 2000, cap, rfl, by omega, by omega, hb, fun i hi => ?_⟩⟩, (by repeat (first | exact Below.refl _ _ | assumption | (refine Below.trans ?_ (Below.mono (by assumption) (by first | omega | (simp <;> omega)))) | (refine Below.alloc ?_ (by first | omega | (simp <;> omega)) _) | (refine below_drewN ?_ _) | (refine Below.drew ?_) | (refine Below.setCell ?_ (by first | omega | (simp <;> omega)) _)))⟩
      obtain ⟨z, hz, hcz⟩ := hcell i (by omega)
      exact ⟨z, hz, (World.cell?_of_block (w := w) (Below.heap_alloc _ _ _ hb)).trans hcz⟩
    · have hl3 : ¬ (2000 : Int) < len := by omega
      go_enter Try.func38, Try.ntmps38
      go_wp2
      go_ret
      refine ⟨w.heap.size, rfl, Nat.le_refl _, ⟨_, Two.new _ _ _ _, .inr ⟨b, off, len, cap, rfl, by omega, by omega, hb, fun i hi => ?_⟩⟩, (by repeat (first | exact Below.refl _ _ | assumption | (refine Below.trans ?_ (Below.mono (by assumption) (by first | omega | (simp <;> omega)))) | (refine Below.alloc ?_ (by first | omega | (simp <;> omega)) _) | (refine below_drewN ?_ _) | (refine Below.drew ?_) | (refine Below.setCell ?_ (by first | omega | (simp <;> omega)) _)))⟩
      obtain ⟨z, hz, hcz⟩ := hcell i (by omega)
      exact ⟨z, hz, (World.cell?_of_block (w := w) (Below.heap_alloc _ _ _ hb)).trans hcz⟩

theorem at_bound (v1 v2 v3 m : Int) (h1 : 0 ≤ v1) (h2 : v1 < m ∨ v1 = 0) (h3 : m ≤ 1000) (h4 : 0 ≤ v2) (h5 : v2 < 30 ∨ v2 = 0) (h6 : 0 ≤ v3) (h7 : v3 < 30 ∨ v3 = 0) :
    -2000 ≤ IntKind.i64.wrap (IntKind.i64.wrap (v1 + IntKind.i64.wrap (IntKind.i64.wrap (v2.tdiv 29) * 60)) - IntKind.i64.wrap (IntKind.i64.wrap (v3.tdiv 29) * 61)) ∧
    IntKind.i64.wrap (IntKind.i64.wrap (v1 + IntKind.i64.wrap (IntKind.i64.wrap (v2.tdiv 29) * 60)) - IntKind.i64.wrap (IntKind.i64.wrap (v3.tdiv 29) * 61)) ≤ 2000 := by
  rw [Int.tdiv_eq_ediv_of_nonneg h4, Int.tdiv_eq_ediv_of_nonneg h6]
  rw [IntWalk.i64_in (v2 / 29) (by omega), IntWalk.i64_in (v3 / 29) (by omega), IntWalk.i64_in (v2 / 29 * 60) (by omega), IntWalk.i64_in (v3 / 29 * 61) (by omega), IntWalk.i64_in (v1 + v2 / 29 * 60) (by omega), IntWalk.i64_in _ (by omega)]
  omega

def TurnIntPost (r : Nat) (p : Int) (w : World) (e : Ending) (w' : World) : Prop :=
  ∃ (n s k q : Int), e = .returned (.tuple #[(.agg #[.int .i64 (n), .int .i64 (s)]), .int .i64 k]) ∧ -2 ≤ n ∧ n ≤ 100 ∧ -2 ≤ s ∧ s ≤ 100 ∧ -2000 ≤ k ∧ k ≤ 2000 ∧ p ≤ q ∧ q ≤ p + 10 ∧ Rd w' r q ∧ OnlyR r w w'

end Go.Proofs.Ytokmmbmkfpfmgaa

set_option linter.unusedVariables false
namespace Go.Proofs.Ytokmmbmkfpfmgaa
open Go.ChangeShapes Go.WideShapes Go.ChangeAt Go.RowKit Go.Joins

def DTPost (w : World) (e : Ending) (w' : World) : Prop :=
  ∃ (n s : Int), e = .returned (.agg #[.int .i64 (n), .int .i64 (s)]) ∧ -2 ≤ n ∧ n ≤ 100 ∧ -2 ≤ s ∧ s ≤ 100 ∧ Below w.heap.size w w'

def DTIPost (w : World) (e : Ending) (w' : World) : Prop :=
  ∃ (n s k : Int), e = .returned (.tuple #[(.agg #[.int .i64 (n), .int .i64 (s)]), .int .i64 k]) ∧ -2 ≤ n ∧ n ≤ 100 ∧ -2 ≤ s ∧ s ≤ 100 ∧ -2000 ≤ k ∧ k ≤ 2000 ∧ Below w.heap.size w w'

end Go.Proofs.Ytokmmbmkfpfmgaa

set_option linter.unusedVariables false
namespace Go.Proofs.Ytokmmbmkfpfmgaa
open Go.ChangeShapes Go.WideShapes Go.ChangeAt Go.RowKit Go.Joins

theorem many_bound (v1 v2 v3 m : Int) (h1 : 0 ≤ v1) (h2 : v1 < m ∨ v1 = 0) (h3 : m ≤ 1000) (h4 : 0 ≤ v2) (h5 : v2 < 30 ∨ v2 = 0) (h6 : 0 ≤ v3) (h7 : v3 < 40 ∨ v3 = 0) :
    -2000 ≤ IntKind.i64.wrap (IntKind.i64.wrap (IntKind.i64.wrap (1 + v1) + IntKind.i64.wrap (IntKind.i64.wrap (v2.tdiv 29) * 60)) - IntKind.i64.wrap (IntKind.i64.wrap (v3.tdiv 39) * 61)) ∧
    IntKind.i64.wrap (IntKind.i64.wrap (IntKind.i64.wrap (1 + v1) + IntKind.i64.wrap (IntKind.i64.wrap (v2.tdiv 29) * 60)) - IntKind.i64.wrap (IntKind.i64.wrap (v3.tdiv 39) * 61)) ≤ 2000 := by
  rw [Int.tdiv_eq_ediv_of_nonneg h4, Int.tdiv_eq_ediv_of_nonneg h6]
  rw [IntWalk.i64_in (v2 / 29) (by omega), IntWalk.i64_in (v3 / 39) (by omega), IntWalk.i64_in (v2 / 29 * 60) (by omega), IntWalk.i64_in (v3 / 39 * 61) (by omega), IntWalk.i64_in (1 + v1) (by omega), IntWalk.i64_in (1 + v1 + v2 / 29 * 60) (by omega), IntWalk.i64_in _ (by omega)]
  omega

end Go.Proofs.Ytokmmbmkfpfmgaa
