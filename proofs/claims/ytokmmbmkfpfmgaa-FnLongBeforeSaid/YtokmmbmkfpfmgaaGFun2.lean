/- Contracts: alive, and the turn the opposite and the other way, of the program and the model. Contracts of OppositeOf and of BothSteps, of the program and of the model; and of eqTurn. Contracts of BothSteps, of the program and of the model. Small laws for drawn regions that make a block of two cells between calls. -/
import Derived.Test.YtokmmbmkfpfmgaaGFun
set_option linter.unusedVariables false
namespace Go.Proofs.Ytokmmbmkfpfmgaa
set_option maxRecDepth 4000
open Go.ChangeShapes Go.WideShapes Go.ChangeAt Go.RowKit Go.Joins

theorem tok_52 : tok 5 2 = true := by decide

theorem tok_00 : tok 0 0 = false := by decide

set_option maxHeartbeats 1000000 in
theorem alive_any (w : World) :
    Calls Try.prog 19 #[] w fun e w' => e = .returned (.bool true) ∧ Below w.heap.size w w' := by
  have t1 := tok_52
  have t2 := tok_00
  go_enter Try.func19, Try.ntmps19
  go_wp2_with fail
  refine (turnOk_any _ _ _).mono ?_; rintro e w1 ⟨rfl, hb1⟩
  have hz1 := hb1.size
  try simp at hz1
  rw [t1]
  go_wp2_with fail
  refine (turnOk_any _ _ _).mono ?_; rintro e w2 ⟨rfl, hb2⟩
  have hz2 := hb2.size
  try simp at hz2
  rw [t2]
  go_wp2
  go_ret
  exact ⟨rfl, (by repeat (first | exact Below.refl _ _ | assumption | (refine Below.trans ?_ (Below.mono (by assumption) (by first | omega | (simp <;> omega)))) | (refine Below.alloc ?_ (by first | omega | (simp <;> omega)) _) | (refine below_drewN ?_ _) | (refine Below.drew ?_) | (refine Below.setCell ?_ (by first | omega | (simp <;> omega)) _)))⟩

/-- the turn the opposite way, and the other way -/
def oppT (n s : Int) : Int × Int := if tok n s = true then (n, invF n s) else (0, 0)

def backT (n s : Int) : Int × Int := if tok n s = true then (n, n - s) else (0, 0)

theorem oppT_yes {n s : Int} (h : tok n s = true) : oppT n s = (n, invF n s) := if_pos h

theorem oppT_no {n s : Int} (h : ¬ tok n s = true) : oppT n s = (0, 0) := if_neg h

theorem backT_yes {n s : Int} (h : tok n s = true) : backT n s = (n, n - s) := if_pos h

theorem backT_no {n s : Int} (h : ¬ tok n s = true) : backT n s = (0, 0) := if_neg h

end Go.Proofs.Ytokmmbmkfpfmgaa

set_option linter.unusedVariables false
namespace Go.Proofs.Ytokmmbmkfpfmgaa
open Go.ChangeShapes Go.WideShapes Go.ChangeAt Go.RowKit Go.Joins

end Go.Proofs.Ytokmmbmkfpfmgaa

set_option linter.unusedVariables false
namespace Go.Proofs.Ytokmmbmkfpfmgaa
open Go.ChangeShapes Go.WideShapes Go.ChangeAt Go.RowKit Go.Joins

def bothT (n s m r : Int) : (Int × Int) × Bool := if tok n s = true ∧ tok m r = true ∧ n = m then ((n, s * r % n), true) else ((0, 0), false)

theorem bothT_yes {n s r : Int} (h : tok n s = true) (h' : tok n r = true) : bothT n s n r = ((n, s * r % n), true) := if_pos ⟨h, h', rfl⟩

theorem bothT_no {n s m r : Int} (h : ¬ (tok n s = true ∧ tok m r = true ∧ n = m)) : bothT n s m r = ((0, 0), false) := if_neg h

end Go.Proofs.Ytokmmbmkfpfmgaa

set_option linter.unusedVariables false
namespace Go.Proofs.Ytokmmbmkfpfmgaa
open Go.ChangeShapes Go.WideShapes Go.ChangeAt Go.RowKit Go.Joins

theorem set_away {w : World} {A g : Nat} (h : ¬ g = A) (o : Nat) (x y : Value) (p q : Nat) : ((w.setCell ⟨A, p, none⟩ x).setCell ⟨A, q, none⟩ y).cell? ⟨g, o, none⟩ = w.cell? ⟨g, o, none⟩ := by
  rw [World.cell?_of_block (w := w.setCell ⟨A, p, none⟩ x) (Below.heap_setCell _ _ _ _ h), World.cell?_of_block (w := w) (Below.heap_setCell _ _ _ _ h)]

theorem Two.drew1 {w : World} {b : Nat} {x y : Value} {T : TypeId} (h : Two w b x y T) : Two w.drew b x y T := h

theorem Two.ofA {W w' : World} {N : Nat} {x y : Value} {T : TypeId} (h : Below N (W.alloc (.cells #[x, y] T)) w') (hN : W.heap.size < N) : Two w' W.heap.size x y T := Two.below (Two.new W x y T) h hN

theorem Two.ofD {W w' : World} {N : Nat} {x y : Value} {T : TypeId} (h : Below N (W.alloc (.cells #[x, y] T)).drew w') (hN : W.heap.size < N) : Two w' W.heap.size x y T := Two.below (Two.drew1 (Two.new W x y T)) h hN

/-- behind the stores into the new block -/
theorem Two.put {w : World} {B : Nat} {x y p q : Value} {T : TypeId} (h : Two w B x y T) : Two ((w.setCell ⟨B, 0, none⟩ p).setCell ⟨B, 1, none⟩ q) B p q T := (h.set0 p).set1 q

theorem Two.past {w : World} {B b : Nat} {x y p q : Value} {T : TypeId} (h : Two w b x y T) (hb : b ≠ B) : Two ((w.setCell ⟨B, 0, none⟩ p).setCell ⟨B, 1, none⟩ q) b x y T := (h.set (Ne.symm hb) 0 p).set (Ne.symm hb) 1 q

theorem Two.after {w : World} {B b : Nat} {x y x' y' : Value} {T T' : TypeId} (p q : Value) (v : Two w B x y T) (h : Two w b x' y' T') (hb : b < B) : Two ((w.setCell ⟨B, 0, none⟩ p).setCell ⟨B, 1, none⟩ q) b x' y' T' := h.past (Nat.ne_of_lt hb)

theorem Two.before {w : World} {B b : Nat} {x y x' y' : Value} {T T' : TypeId} (p q : Value) (v : Two w B x y T) (h : Two w b x' y' T') (hb : B < b) : Two ((w.setCell ⟨B, 0, none⟩ p).setCell ⟨B, 1, none⟩ q) b x' y' T' := h.past (Nat.ne_of_gt hb)

theorem Two.putB {w w0 : World} {B C : Nat} {x y : Value} {T : TypeId} (p q : Value) (v : Two w B x y T) (h : Below C w0 w) (hb : C ≤ B) : Below C w0 ((w.setCell ⟨B, 0, none⟩ p).setCell ⟨B, 1, none⟩ q) := (h.setCell hb p).setCell hb q

theorem Two.nm {w : World} {b : Nat} {x y : Value} {T : TypeId} (h : Two w b x y T) : ∃ B, b = B := ⟨b, rfl⟩
end Go.Proofs.Ytokmmbmkfpfmgaa
