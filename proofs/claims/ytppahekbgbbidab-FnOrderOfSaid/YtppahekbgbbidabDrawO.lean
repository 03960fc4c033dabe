/- Contracts of DrawOrderBy, DrawTurnedPairs and DrawPlaceIn. -/
import Derived.Test.YtppahekbgbbidabDraw6
import Derived.Test.YtppahekbgbbidabDraw9
import Derived.Test.YtppahekbgbbidabGOrdC
import Derived.Test.YtppahekbgbbidabGNear
set_option linter.unusedVariables false
namespace Go.Proofs.Ytppahekbgbbidab

set_option maxRecDepth 4000
open Go.ChangeShapes Go.WideShapes Go.ChangeAt Go.RowKit Go.Joins

theorem ownL_onlyR {w w' : World} {b r : Nat} {v : Value} {xs : List Int} (h : OwnL w b v xs) (ho : OnlyR r w w') (hr : r < b) : OwnL w' b v xs := by
  refine World.ownsRow.kept h (row := some r) ⟨ho.os, ho.tape, ho.output, ho.size, fun k hk hne => ho.block k hk (fun e => hne (by rw [e]))⟩ ?_
  cases e : v.ownBlock with
  | none => exact .inl rfl
  | some g =>
    right
    have := (World.ownsRow.lt h g e).1
    intro e2
    simp at e2
    omega

/-- three numbers come back -/
def D3Post (w : World) (e : Ending) (w' : World) : Prop := ∃ m u d : Int, e = .returned (.tuple #[.int .i64 m, .int .i64 u, .int .i64 d]) ∧ Below w.heap.size w w'

/-- a list of at most 70 numbers of the call's own comes back -/
def DLPost (w : World) (e : Ending) (w' : World) : Prop := ∃ v xs, e = .returned v ∧ OwnL w' w.heap.size v xs ∧ xs.length ≤ 70 ∧ Below w.heap.size w w'

set_option maxHeartbeats 1000000 in
theorem drawPlaceIn_any (a : Option Addr) (len cap : Nat) (w : World) (hc : CodeIn w a len cap) (hl : len ≤ 1048576) :
    Calls Try.prog 42 #[.slice a len cap] w (DTIIPost w) := by
  have hb0 : Below w.heap.size w (w.alloc (.cells #[.int .i64 0, .int .i64 0] 24)) := (by repeat (first | exact Below.refl _ _ | assumption | (refine Below.trans ?_ (Below.mono (by assumption) (by first | omega | (simp <;> omega)))) | (refine Below.alloc ?_ (by first | omega | (simp <;> omega)) _) | (refine below_drewN ?_ _) | (refine Below.drew ?_) | (refine Below.setCell ?_ (by first | omega | (simp <;> omega)) _)))
  go_enter Try.func42, Try.ntmps42
  go_wp2_with fail
  refine (drawNextAfter_any a len cap _ (hc.below hb0) hl).mono ?_
  rintro e w1 ⟨n, s, k, i, rfl, n0, n1, s0, s1, k0, k1, i0, i1, hb1⟩
  have u1 := (Two.new w (.int .i64 0) (.int .i64 0) 24).same (hb1.block _ (by simp))
  have hB1 := hb0.trans (hb1.mono (by simp))
  clear hb1
  have c0 := u1.cell0
  have c1 := u1.cell1
  have f0 := u1.free 0
  have f1 := u1.free 1
  have u5 := (u1.set0 (.int .i64 n)).set1 (.int .i64 s)
  have e0 := u5.cell0
  have e1 := u5.cell1
  go_wp2
  refine bodyPost_ret (v := .tuple #[(.agg #[.int .i64 (n), .int .i64 (s)]), .int .i64 k, .int .i64 i]) (by simp [results, Try.results42, go_sem, e0, e1]) rfl ?_
  exact ⟨n, s, k, i, rfl, n0, n1, s0, s1, k0, k1, i0, i1, (hB1.setCell (Nat.le_refl _) _).setCell (Nat.le_refl _) _⟩

end Go.Proofs.Ytppahekbgbbidab
