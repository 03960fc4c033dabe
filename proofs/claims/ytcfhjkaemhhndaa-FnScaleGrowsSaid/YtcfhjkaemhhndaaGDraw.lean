/- Contracts of the drawers that come before a law: l20Open, l20At, l20Many, and the Draw functions of chapter 1. Each gives some value in bounds, and changes nothing that was there. Contracts of the Draw functions of chapter 1: each gives some value in bounds, and changes nothing that was there. Contracts of l20Many and DrawFirstPoints. -/
import Derived.Test.YtcfhjkaemhhndaaDraw
set_option linter.unusedVariables false
namespace Go.Proofs.Ytcfhjkaemhhndaa
open Go.ChangeShapes Go.WideShapes Go.ChangeAt Go.RowKit Go.Joins

/-- the bytes that a law takes -/
def CodeIn (w : World) (a : Option Addr) (len cap : Nat) : Prop :=
  len = 0 ∨ ∃ b off, a = some ⟨b, off, none⟩ ∧ 0 < len ∧ len ≤ cap ∧ b < w.heap.size ∧ ∀ i, i < len → ∃ z : Nat, z < 256 ∧ w.cell? ⟨b, off + i, none⟩ = some (.int .u8 z)

theorem CodeIn.of {w : World} {a : Option Addr} {len cap : Nat} {zs : List Int} (h : IsRow .u8 w a len cap zs) : CodeIn w a len cap := by
  rcases h with ⟨_, h, _, _⟩ | ⟨x, rfl, hl, hm, hz, hc, hw⟩
  · exact .inl h
  · by_cases h0 : len = 0
    · exact .inl h0
    · right
      obtain ⟨b, off, spot⟩ := x
      have h1 := hc 0 (by omega)
      have hspot : spot = none := by simpa [Addr.add] using World.cell?_spot h1
      subst hspot
      refine ⟨b, off, rfl, by omega, hl, World.block_lt_of_cell? w _ h1, fun i hi => ?_⟩
      have h2 := hc i (by omega)
      have hmem : zs.getD i 0 ∈ zs := by
        rw [List.getD_eq_getElem?_getD, List.getElem?_eq_getElem (by omega)]
        simp
      have hwf := hw _ hmem
      clear hmem
      generalize zs.getD i 0 = z at h2 hwf
      simp [Lit.wf, IntKind.min, IntKind.max, IntKind.bits, IntKind.signed] at hwf
      refine ⟨z.toNat, by omega, ?_⟩
      rw [Int.toNat_of_nonneg hwf.1]
      by_cases hi0 : i = 0 <;> simpa [Addr.add, hi0] using h2

theorem CodeIn.below {w w' : World} {a : Option Addr} {len cap : Nat} (h : CodeIn w a len cap) (hb : Below w.heap.size w w') : CodeIn w' a len cap := by
  rcases h with h | ⟨b, off, h1, h2, h3, h4, h5⟩
  · exact .inl h
  · exact .inr ⟨b, off, h1, h2, h3, Nat.lt_of_lt_of_le h4 hb.size, fun i hi => by
      obtain ⟨z, hz, hc⟩ := h5 i hi
      exact ⟨z, hz, (hb.cell (p := ⟨b, off + i, none⟩) h4).trans hc⟩⟩

def OpenPost (w : World) (e : Ending) (w' : World) : Prop :=
  ∃ r, e = .returned (.pointer (some ⟨r, 0, none⟩)) ∧ w.heap.size ≤ r ∧ Rd w' r 0 ∧ Below w.heap.size w w'

set_option maxHeartbeats 400000 in
theorem l20Open_any (a : Option Addr) (len cap : Nat) (w : World) (hc : CodeIn w a len cap) (hl : len ≤ 1048576) :
    Calls Try.prog 38 #[.slice a len cap] w (OpenPost w) := by
  rcases hc with rfl | ⟨b, off, rfl, h0, hcap, hb, hcell⟩
  · go_enter Try.func38, Try.ntmps38
    go_wp2
    go_ret
    exact ⟨w.heap.size, rfl, Nat.le_refl _, ⟨_, Two.new _ _ _ _, .inl ⟨a, cap, rfl⟩⟩, (by repeat (first | exact Below.refl _ _ | assumption | (refine Below.trans ?_ (Below.mono (by assumption) (by first | omega | (simp <;> omega)))) | (refine Below.alloc ?_ (by first | omega | (simp <;> omega)) _) | (refine below_drewN ?_ _) | (refine Below.drew ?_) | (refine Below.setCell ?_ (by first | omega | (simp <;> omega)) _)))⟩
  · by_cases hl2 : 2000 < len
    · have hl3 : (2000 : Int) < len := by omega
      have hcap2 : (2000 : Int) ≤ cap := by omega
      go_enter Try.func38, Try.ntmps38
      go_wp2
      go_ret
      refine ⟨w.heap.size, rfl, Nat.le_refl _, ⟨_, Two.new _ _ _ _, .inr ⟨b, off, 2000, cap, rfl, by omega, by omega, hb, fun i hi => ?_⟩⟩, (by repeat (first | exact Below.refl _ _ | assumption | (refine Below.trans ?_ (Below.mono (by assumption) (by first | omega | (simp <;> omega)))) | (refine Below.alloc ?_ (by first | omega | (simp <;> omega)) _) | (refine below_drewN ?_ _) | (refine Below.drew ?_) | (refine Below.setCell ?_ (by first | omega | (simp <;> omega)) _)))⟩
      obtain ⟨z, hz, hcz⟩ := hcell i (by omega)
      exact ⟨z, hz, (World.cell?_of_block (w := w) (Below.heap_alloc _ _ _ hb)).trans hcz⟩
    · have hl3 : ¬ (2000 : Int) < len := by omega
      go_enter Try.func38, Try.ntmps38
      go_wp2
      go_ret
      refine ⟨w.heap.size, rfl, Nat.le_refl _, ⟨_, Two.new _ _ _ _, .inr ⟨b, off, len, cap, rfl, by omega, by omega, hb, fun i hi => ?_⟩⟩, (by repeat (first | exact Below.refl _ _ | assumption | (refine Below.trans ?_ (Below.mono (by assumption) (by first | omega | (simp <;> omega)))) | (refine Below.alloc ?_ (by first | omega | (simp <;> omega)) _) | (refine below_drewN ?_ _) | (refine Below.drew ?_) | (refine Below.setCell ?_ (by first | omega | (simp <;> omega)) _)))⟩
      obtain ⟨z, hz, hcz⟩ := hcell i (by omega)
      exact ⟨z, hz, (World.cell?_of_block (w := w) (Below.heap_alloc _ _ _ hb)).trans hcz⟩

theorem at_bound (v1 v2 v3 m : Int) (h1 : 0 ≤ v1) (h2 : v1 < m ∨ v1 = 0) (h3 : m ≤ 1000) (h4 : 0 ≤ v2) (h5 : v2 < 30 ∨ v2 = 0) (h6 : 0 ≤ v3) (h7 : v3 < 30 ∨ v3 = 0) :
    -2000 ≤ IntKind.i64.wrap (IntKind.i64.wrap (v1 + IntKind.i64.wrap (IntKind.i64.wrap (v2.tdiv 29) * 60)) - IntKind.i64.wrap (IntKind.i64.wrap (v3.tdiv 29) * 61)) ∧
    IntKind.i64.wrap (IntKind.i64.wrap (v1 + IntKind.i64.wrap (IntKind.i64.wrap (v2.tdiv 29) * 60)) - IntKind.i64.wrap (IntKind.i64.wrap (v3.tdiv 29) * 61)) ≤ 2000 := by
  rw [Int.tdiv_eq_ediv_of_nonneg h4, Int.tdiv_eq_ediv_of_nonneg h6]
  rw [IntWalk.i64_in (v2 / 29) (by omega), IntWalk.i64_in (v3 / 29) (by omega), IntWalk.i64_in (v2 / 29 * 60) (by omega), IntWalk.i64_in (v3 / 29 * 61) (by omega), IntWalk.i64_in (v1 + v2 / 29 * 60) (by omega), IntWalk.i64_in _ (by omega)]
  omega

def TurnIntPost (r : Nat) (p : Int) (w : World) (e : Ending) (w' : World) : Prop :=
  ∃ (n s k q : Int), e = .returned (.tuple #[(.agg #[.int .i64 (n), .int .i64 (s)]), .int .i64 k]) ∧ -2 ≤ n ∧ n ≤ 100 ∧ -2 ≤ s ∧ s ≤ 100 ∧ -2000 ≤ k ∧ k ≤ 2000 ∧ p ≤ q ∧ q ≤ p + 10 ∧ Rd w' r q ∧ OnlyR r w w'

end Go.Proofs.Ytcfhjkaemhhndaa

set_option linter.unusedVariables false
namespace Go.Proofs.Ytcfhjkaemhhndaa
open Go.ChangeShapes Go.WideShapes Go.ChangeAt Go.RowKit Go.Joins

def DTPost (w : World) (e : Ending) (w' : World) : Prop :=
  ∃ (n s : Int), e = .returned (.agg #[.int .i64 (n), .int .i64 (s)]) ∧ -2 ≤ n ∧ n ≤ 100 ∧ -2 ≤ s ∧ s ≤ 100 ∧ Below w.heap.size w w'

def DTIPost (w : World) (e : Ending) (w' : World) : Prop :=
  ∃ (n s k : Int), e = .returned (.tuple #[(.agg #[.int .i64 (n), .int .i64 (s)]), .int .i64 k]) ∧ -2 ≤ n ∧ n ≤ 100 ∧ -2 ≤ s ∧ s ≤ 100 ∧ -2000 ≤ k ∧ k ≤ 2000 ∧ Below w.heap.size w w'

end Go.Proofs.Ytcfhjkaemhhndaa

set_option linter.unusedVariables false
namespace Go.Proofs.Ytcfhjkaemhhndaa
open Go.ChangeShapes Go.WideShapes Go.ChangeAt Go.RowKit Go.Joins

theorem many_bound (v1 v2 v3 m : Int) (h1 : 0 ≤ v1) (h2 : v1 < m ∨ v1 = 0) (h3 : m ≤ 1000) (h4 : 0 ≤ v2) (h5 : v2 < 30 ∨ v2 = 0) (h6 : 0 ≤ v3) (h7 : v3 < 40 ∨ v3 = 0) :
    -2000 ≤ IntKind.i64.wrap (IntKind.i64.wrap (IntKind.i64.wrap (1 + v1) + IntKind.i64.wrap (IntKind.i64.wrap (v2.tdiv 29) * 60)) - IntKind.i64.wrap (IntKind.i64.wrap (v3.tdiv 39) * 61)) ∧
    IntKind.i64.wrap (IntKind.i64.wrap (IntKind.i64.wrap (1 + v1) + IntKind.i64.wrap (IntKind.i64.wrap (v2.tdiv 29) * 60)) - IntKind.i64.wrap (IntKind.i64.wrap (v3.tdiv 39) * 61)) ≤ 2000 := by
  rw [Int.tdiv_eq_ediv_of_nonneg h4, Int.tdiv_eq_ediv_of_nonneg h6]
  rw [IntWalk.i64_in (v2 / 29) (by omega), IntWalk.i64_in (v3 / 39) (by omega), IntWalk.i64_in (v2 / 29 * 60) (by omega), IntWalk.i64_in (v3 / 39 * 61) (by omega), IntWalk.i64_in (1 + v1) (by omega), IntWalk.i64_in (1 + v1 + v2 / 29 * 60) (by omega), IntWalk.i64_in _ (by omega)]
  omega

set_option maxHeartbeats 2000000 in
theorem l20Many_any (r : Nat) (p : Int) (w : World) (hr : Rd w r p) (hp0 : 0 ≤ p) (hp : p ≤ 800000) :
    Calls Try.prog 62 #[.pointer (some ⟨r, 0, none⟩)] w (TurnIntPost r p w) := by
  have hlt := hr.lt
  have hA : w.heap.size ≠ r := by omega
  go_enter Try.func62, Try.ntmps62
  go_wp2_with fail
  refine (l20Turn_any r p 12 _ (hr.alloc _) hp0 (by omega) (by omega)).mono ?_
  rintro e w1 ⟨n, s, q, rfl, n0, n1, s0, s1, q0, q1, hr1, ho1⟩
  have u1 := ho1.two (Two.new _ _ _ _) hA
  have hz1 := ho1.size
  simp at hz1
  go_wp2_with fail
  have t2 : Two (w1.alloc (Obj.cells #[Value.int IntKind.i64 n, Value.int IntKind.i64 s] 24)) w1.heap.size (.int .i64 n) (.int .i64 s) 24 := Two.new _ _ _ _
  have u2 := u1.alloc (Obj.cells #[Value.int IntKind.i64 n, Value.int IntKind.i64 s] 24)
  have r2 := hr1.alloc (Obj.cells #[Value.int IntKind.i64 n, Value.int IntKind.i64 s] 24)
  have o2 : OnlyR r w (w1.alloc (Obj.cells #[Value.int IntKind.i64 n, Value.int IntKind.i64 s] 24)) := (((OnlyR.refl r w).alloc _).trans ho1).alloc _
  have hT : w1.heap.size ≠ r := by omega
  have hTA : w1.heap.size ≠ w.heap.size := by omega
  clear u1 hr1 ho1
  generalize w1.alloc (Obj.cells #[Value.int IntKind.i64 n, Value.int IntKind.i64 s] 24) = w2 at *
  generalize w1.heap.size = T at *
  have c0 := t2.cell0
  have c1 := t2.cell1
  have d0 := u2.cell0
  have d1 := u2.cell1
  have f0 := u2.free 0
  have f1 := u2.free 1
  by_cases hn1 : n < 1
  · skip
    go_region_held3 (fun w' => w'.cell? ⟨T, 0, none⟩ = some (.int .i64 n) ∧ w'.cell? ⟨T, 1, none⟩ = some (.int .i64 s))
      (first | go_keep | exact ⟨c0', c1'⟩ | exact ⟨((t'.set (b := w.heap.size) (Ne.symm hTA) 0 _).set (b := w.heap.size) (Ne.symm hTA) 1 _).cell0, ((t'.set (b := w.heap.size) (Ne.symm hTA) 0 _).set (b := w.heap.size) (Ne.symm hTA) 1 _).cell1⟩)
      (first | (go_at_call 52; refine (pick_any r _ _ _ (by assumption) (by omega) (by omega) (by omega)).mono ?_; rintro e w' ⟨v, rfl, a, b, r', o', s'⟩; have t' := o'.two (by assumption : Two _ T (.int .i64 n) (.int .i64 s) 24) hT; have u' := o'.two (by assumption : Two _ w.heap.size (.int .i64 0) (.int .i64 0) 24) hA; have c0' := t'.cell0; have c1' := t'.cell1; have d0' := u'.cell0; have d1' := u'.cell1; have f0' := u'.free 0; have f1' := u'.free 1))
    have u9 := (u'.set0 (.int .i64 n)).set1 (.int .i64 s)
    have e0 := u9.cell0
    have e1 := u9.cell1
    have hs' := o'.size
    go_wp2
    refine bodyPost_ret (v := .tuple #[(.agg #[.int .i64 (n), .int .i64 (s)]), .int .i64 _]) (by simp [results, Try.results62, go_sem, e0, e1]; rfl) rfl ?_
    refine ⟨n, s, _, q + 1 + 1 + 1, rfl, by omega, by omega, by omega, by omega, ?_, ?_, by omega, by omega, ?_, ?_⟩
    · refine (many_bound _ _ _ 1 ?_ ?_ ?_ ?_ ?_ ?_ ?_).1 <;> first | assumption | omega
    · refine (many_bound _ _ _ 1 ?_ ?_ ?_ ?_ ?_ ?_ ?_).2 <;> first | assumption | omega
    · exact (r'.set (b := w.heap.size) hlt 0 _).set (b := w.heap.size) hlt 1 _
    · exact ((((o2.drewN 1).trans (by assumption)).trans (by assumption)).trans o').setAbove (Nat.le_refl _) 0 _ |>.setAbove (Nat.le_refl _) 1 _
  · skip
    go_region_held3 (fun w' => w'.cell? ⟨T, 0, none⟩ = some (.int .i64 n) ∧ w'.cell? ⟨T, 1, none⟩ = some (.int .i64 s))
      (first | go_keep | exact ⟨c0', c1'⟩ | exact ⟨((t'.set (b := w.heap.size) (Ne.symm hTA) 0 _).set (b := w.heap.size) (Ne.symm hTA) 1 _).cell0, ((t'.set (b := w.heap.size) (Ne.symm hTA) 0 _).set (b := w.heap.size) (Ne.symm hTA) 1 _).cell1⟩)
      (first | (go_at_call 52; refine (pick_any r _ _ _ (by assumption) (by omega) (by omega) (by omega)).mono ?_; rintro e w' ⟨v, rfl, a, b, r', o', s'⟩; have t' := o'.two (by assumption : Two _ T (.int .i64 n) (.int .i64 s) 24) hT; have u' := o'.two (by assumption : Two _ w.heap.size (.int .i64 0) (.int .i64 0) 24) hA; have c0' := t'.cell0; have c1' := t'.cell1; have d0' := u'.cell0; have d1' := u'.cell1; have f0' := u'.free 0; have f1' := u'.free 1))
    have u9 := (u'.set0 (.int .i64 n)).set1 (.int .i64 s)
    have e0 := u9.cell0
    have e1 := u9.cell1
    have hs' := o'.size
    go_wp2
    refine bodyPost_ret (v := .tuple #[(.agg #[.int .i64 (n), .int .i64 (s)]), .int .i64 _]) (by simp [results, Try.results62, go_sem, e0, e1]; rfl) rfl ?_
    refine ⟨n, s, _, q + 1 + 1 + 1, rfl, by omega, by omega, by omega, by omega, ?_, ?_, by omega, by omega, ?_, ?_⟩
    · refine (many_bound _ _ _ n ?_ ?_ ?_ ?_ ?_ ?_ ?_).1 <;> first | assumption | omega
    · refine (many_bound _ _ _ n ?_ ?_ ?_ ?_ ?_ ?_ ?_).2 <;> first | assumption | omega
    · exact (r'.set (b := w.heap.size) hlt 0 _).set (b := w.heap.size) hlt 1 _
    · exact ((((o2.drewN 1).trans (by assumption)).trans (by assumption)).trans o').setAbove (Nat.le_refl _) 0 _ |>.setAbove (Nat.le_refl _) 1 _

end Go.Proofs.Ytcfhjkaemhhndaa
