/- Contract of the model's BalancedOk. -/
import Derived.Test.YtejofckfnieolaaDoorOkS
set_option linter.unusedVariables false
namespace Go.Proofs.YtejofckfnieolaaDoor

set_option maxRecDepth 4000
open Go.ChangeShapes Go.WideShapes Go.ChangeAt Go.RowKit Go.Joins

def BalP (u : ByteArray) : Prop := ∃ v : List Bool, v.length ≤ 60 ∧ txtB v = u ∧ Bal v

theorem balP_code {u : ByteArray} (h : BalP u) : CodeP u := by
  obtain ⟨v, hv, rfl, _⟩ := h
  exact codeP_txt hv

theorem txtB_inj' {u v : List Bool} (h : txtB u = txtB v) : u = v := by
  have := congrArg bitsOf h
  rwa [bits_txt, bits_txt] at this

theorem balP_txt {v : List Bool} (hv : v.length ≤ 60) : BalP (txtB v) ↔ Bal v := by
  constructor
  · rintro ⟨u, _, e, h⟩
    rwa [txtB_inj' e] at h
  · intro h
    exact ⟨v, hv, rfl, h⟩

def BalPost (u : ByteArray) (e : Ending) : Prop := ∃ c : Bool, e = .returned (.bool c) ∧ (c = true ↔ BalP u)

theorem winO_zero (v : List Bool) (i : Nat) : winO v i 0 = 0 := by unfold winO; simp

theorem winO_succ {v : List Bool} {i j : Nat} (h : i + j < v.length) : winO v i (j + 1) = winO v i j + (v.getD (i + j) false).toNat := by
  unfold winO
  rw [List.take_add_one, List.getElem?_drop, List.getElem?_eq_getElem h, List.count_append, List.getD_eq_getElem?_getD, List.getElem?_eq_getElem h]
  cases v[i + j] <;> rfl

/-- all shorter lengths are even -/
def EvenTo (v : List Bool) (l : Nat) : Prop := ∀ k, 1 ≤ k → k < l → mostW v k (v.length + 1 - k) ≤ leastW v k (v.length + 1 - k) + 1

theorem EvenTo.next {v : List Bool} {l : Nat} (h : EvenTo v l) (e : mostW v l (v.length + 1 - l) ≤ leastW v l (v.length + 1 - l) + 1) : EvenTo v (l + 1) := by
  intro k h1 h2
  by_cases c : k = l
  · subst c; exact e
  · exact h k h1 (by omega)

theorem EvenTo.bal {v : List Bool} {l : Nat} (h : EvenTo v l) (hl : v.length < l) : Bal v := (bal_iff v).2 fun k h1 h2 => h k h1 (by omega)

end Go.Proofs.YtejofckfnieolaaDoor
