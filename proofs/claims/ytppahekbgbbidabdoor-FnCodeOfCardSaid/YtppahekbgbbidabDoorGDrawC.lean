/- Contracts of the Draw functions of chapter 5. Contracts of DrawTurnOfCode, DrawOnesUpTo and DrawPartsOf. Contracts of DrawCodeOk, DrawBalancedOk and DrawCodeOf. -/
import Derived.Test.YtppahekbgbbidabDoorGTxt
import Derived.Test.YtppahekbgbbidabDoorGWord
import Derived.Test.YtppahekbgbbidabDoorDraw9
import Derived.Deep.RegionHeld3
import Derived.Deep.RegionWith
import Derived.Deep.Cut
set_option linter.unusedVariables false
namespace Go.Proofs.YtppahekbgbbidabDoor

set_option maxRecDepth 4000
open Go.ChangeShapes Go.WideShapes Go.ChangeAt Go.RowKit Go.Joins

def digS (j : Nat) : ByteArray := if j = 0 then ⟨#[48]⟩ else ⟨#[49]⟩

theorem digS_size (j : Nat) : (digS j).size = 1 := by unfold digS; split <;> rfl

theorem dig_cell {w : World} {g : Nat} (h : RowS w g #[.string ⟨#[48]⟩, .string ⟨#[49]⟩]) (j : Nat) (hj : j < 2) : w.cell? ⟨g, j, none⟩ = some (.string (digS j)) := by
  rw [h.cell j]
  match j, hj with
  | 0, _ => rfl
  | 1, _ => rfl

theorem pick2_any (r : Nat) (p : Int) (w : World) (hr : Rd w r p) (hp0 : 0 ≤ p) (hp : p ≤ 1000000) :
    Calls Tryd.prog 12 #[.pointer (some ⟨r, 0, none⟩), .int .i64 2] w fun e w' => ∃ j : Nat, e = .returned (.int .i64 j) ∧ j < 2 ∧ Rd w' r (p + 1) ∧ OnlyR r w w' := by
  refine (pick_any r p 2 w hr hp0 hp (by omega)).mono ?_
  rintro e w' ⟨v, rfl, a, b, r', o', s'⟩
  obtain ⟨j, rfl⟩ := Int.eq_ofNat_of_zero_le a
  exact ⟨j, rfl, by omega, r', o'⟩

def CodePost (r : Nat) (p : Int) (w : World) (e : Ending) (w' : World) : Prop :=
  ∃ (u : ByteArray) (q : Int), e = .returned (.string u) ∧ u.size ≤ 100 ∧ p ≤ q ∧ q ≤ p + 20 ∧ Rd w' r q ∧ OnlyR r w w'

end Go.Proofs.YtppahekbgbbidabDoor

set_option linter.unusedVariables false
namespace Go.Proofs.YtppahekbgbbidabDoor

set_option maxRecDepth 4000
open Go.ChangeShapes Go.WideShapes Go.ChangeAt Go.RowKit Go.Joins

/-- a turn and a number come back -/
def DTJPost (w : World) (e : Ending) (w' : World) : Prop :=
  ∃ (n s k : Int), e = .returned (.tuple #[(.agg #[.int .i64 (n), .int .i64 (s)]), .int .i64 k]) ∧ -2 ≤ n ∧ n ≤ 100 ∧ -2 ≤ s ∧ s ≤ 100 ∧ -3000 ≤ k ∧ k ≤ 3000 ∧ Below w.heap.size w w'

/-- a text of at most 100 bytes comes back -/
def DSPost (w : World) (e : Ending) (w' : World) : Prop := ∃ u : ByteArray, e = .returned (.string u) ∧ u.size ≤ 100 ∧ Below w.heap.size w w'

end Go.Proofs.YtppahekbgbbidabDoor

set_option linter.unusedVariables false
namespace Go.Proofs.YtppahekbgbbidabDoor

set_option maxRecDepth 4000
open Go.ChangeShapes Go.WideShapes Go.ChangeAt Go.RowKit Go.Joins

def DTII0Post (w : World) (e : Ending) (w' : World) : Prop :=
  ∃ (n s k m : Int), e = .returned (.tuple #[(.agg #[.int .i64 (n), .int .i64 (s)]), .int .i64 k, .int .i64 m]) ∧ Below w.heap.size w w'

set_option maxHeartbeats 2000000 in
theorem drawCodeOf_any (a : Option Addr) (len cap : Nat) (w : World) (hc : CodeIn w a len cap) (hl : len ≤ 1048576) :
    Calls Tryd.prog 4 #[.slice a len cap] w (DTII0Post w) := by
  have hb0 : Below w.heap.size w (w.alloc (.cells #[.int .i64 0, .int .i64 0] 24)) := (by repeat (first | exact Below.refl _ _ | assumption | (refine Below.trans ?_ (Below.mono (by assumption) (by first | omega | (simp <;> omega)))) | (refine Below.alloc ?_ (by first | omega | (simp <;> omega)) _) | (refine below_drewN ?_ _) | (refine Below.drew ?_) | (refine Below.setCell ?_ (by first | omega | (simp <;> omega)) _)))
  go_enter Tryd.func4, Tryd.ntmps4
  go_wp2_with fail
  refine (l20Open_any a len cap _ (hc.below hb0) hl).mono ?_; rintro e w1 ⟨r, rfl, hr, hr1, hb1⟩
  simp at hr
  have hA : w.heap.size ≠ r := by omega
  have u1 := (Two.new w (.int .i64 0) (.int .i64 0) 24).same (hb1.block _ (by simp))
  have hB1 := hb0.trans (hb1.mono (by simp))
  clear hb1
  go_wp2_with fail
  refine (l20At_any r 0 _ hr1 (by omega) (by omega)).mono ?_
  rintro e w3 ⟨n, s, k, q, rfl, n0, n1, s0, s1, k0, k1, q0, q1, hr3, ho3⟩
  have u3 := ho3.two u1 hA
  have hB3 := hB1.trans (ho3.below (by omega) hB1.size)
  have hz3 := u3.lt
  have hzr := hr3.lt
  have u4 := u3.alloc (.cells #[.int .i64 n, .int .i64 s] 24)
  have t4 : Two (w3.alloc (.cells #[.int .i64 n, .int .i64 s] 24)) w3.heap.size (.int .i64 n) (.int .i64 s) 24 := Two.new _ _ _ _
  have hB4 := hB3.alloc hB3.size (.cells #[.int .i64 n, .int .i64 s] 24)
  have hr4 := hr3.alloc (.cells #[.int .i64 n, .int .i64 s] 24)
  have hT : w3.heap.size ≠ r := by omega
  have hTA : w3.heap.size ≠ w.heap.size := by omega
  clear ho3 u1 hr1 hr3 u3 hB3
  go_wp2_with fail
  generalize w3.alloc (.cells #[.int .i64 n, .int .i64 s] 24) = w4 at *
  generalize w3.heap.size = T at *
  have c0 := t4.cell0
  have c1 := t4.cell1
  have d0 := u4.cell0
  have d1 := u4.cell1
  have f0 := u4.free 0
  have f1 := u4.free 1
  go_region_held3 (fun w' => w'.cell? ⟨T, 0, none⟩ = some (.int .i64 n) ∧ w'.cell? ⟨T, 1, none⟩ = some (.int .i64 s))
    (first | go_keep | exact ⟨c0', c1'⟩ | exact ⟨((t'.set (b := w.heap.size) (Ne.symm hTA) 0 _).set (b := w.heap.size) (Ne.symm hTA) 1 _).cell0, ((t'.set (b := w.heap.size) (Ne.symm hTA) 0 _).set (b := w.heap.size) (Ne.symm hTA) 1 _).cell1⟩)
    (first | (go_at_call 12; refine (pick_any r _ _ _ (by assumption) (by omega) (by omega) (by omega)).mono ?_; rintro e w' ⟨v, rfl, a, b, r', o', s'⟩; have t' := o'.two (by assumption : Two _ T (.int .i64 n) (.int .i64 s) 24) hT; have u' := o'.two (by assumption : Two _ w.heap.size (.int .i64 0) (.int .i64 0) 24) hA; have c0' := t'.cell0; have c1' := t'.cell1; have d0' := u'.cell0; have d1' := u'.cell1; have f0' := u'.free 0; have f1' := u'.free 1))
  have u9 := (u'.set0 (.int .i64 n)).set1 (.int .i64 s)
  have e0 := u9.cell0
  have e1 := u9.cell1
  have hs' := o'.size
  have hB9 := hB4.trans (((((OnlyR.drewN (OnlyR.refl r _) 1).trans (by assumption)).trans (by assumption)).trans o').below (by omega : w.heap.size ≤ r) hB4.size)
  go_wp2
  refine bodyPost_ret (v := .tuple #[(.agg #[.int .i64 (n), .int .i64 (s)]), .int .i64 k, .int .i64 _]) (by simp [results, Tryd.results4, go_sem, e0, e1]; rfl) rfl ?_
  exact ⟨n, s, k, _, rfl, (hB9.setCell (Nat.le_refl _) _).setCell (Nat.le_refl _) _⟩
end Go.Proofs.YtppahekbgbbidabDoor
