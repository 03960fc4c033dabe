/- Contract of the model's RunsText. -/
import Derived.Test.YtckkgjgfjnfeoaaGreatDoorMovT
import Derived.Test.YtckkgjgfjnfeoaaGreatDoorNumT
set_option linter.unusedVariables false
namespace Go.Proofs.YtckkgjgfjnfeoaaGreatDoor
set_option maxRecDepth 4000

set_option maxRecDepth 4000
open Go.ChangeShapes Go.WideShapes Go.ChangeAt Go.RowKit Go.Joins

/-- after k letters: the runs so far, and c letters of the run that goes on -/
def RunInv (u : List Bool) (k : Nat) (rs : List (Bool × Nat)) (c : Nat) : Prop :=
  runsM u = rs ++ runsM (List.replicate c (u.getD k false) ++ u.drop k) ∧ (k = u.length → c = 0) ∧ c ≤ k

theorem RunInv.first (u : List Bool) : RunInv u 0 [] 0 := ⟨rfl, fun _ => rfl, Nat.le_refl _⟩

theorem rep_more (x : Bool) (c : Nat) (d : List Bool) : List.replicate c x ++ x :: d = List.replicate (c + 1) x ++ d := by
  rw [List.replicate_succ', List.append_assoc]; rfl

theorem drop_more {u : List Bool} {k : Nat} (h : k < u.length) : u.drop k = u.getD k false :: u.drop (k + 1) := by
  rw [List.drop_eq_getElem_cons h, List.getD_eq_getElem?_getD, List.getElem?_eq_getElem h]; rfl

theorem RunInv.close {u : List Bool} {k c : Nat} {rs : List (Bool × Nat)} (h : RunInv u k rs c) (hk : k < u.length) (hd : k + 1 = u.length ∨ u.getD (k + 1) false ≠ u.getD k false) :
    RunInv u (k + 1) (rs ++ [(u.getD k false, c + 1)]) 0 := by
  obtain ⟨h1, h2, h3⟩ := h
  refine ⟨?_, fun _ => rfl, Nat.zero_le _⟩
  rw [h1, drop_more hk, rep_more, runsM_run]
  · rw [List.append_assoc]; rfl
  · by_cases e : k + 1 = u.length
    · exact .inl (by rw [e]; exact List.drop_length)
    · right
      have hk1 : k + 1 < u.length := by omega
      rw [drop_more hk1]
      have := hd.resolve_left e
      show some _ = some _
      congr 1
      cases hx : u.getD (k + 1) false <;> cases hy : u.getD k false <;> rw [hx, hy] at this <;> first | rfl | exact absurd rfl this

theorem RunInv.more {u : List Bool} {k c : Nat} {rs : List (Bool × Nat)} (h : RunInv u k rs c) (hk : k + 1 < u.length) (hd : u.getD (k + 1) false = u.getD k false) :
    RunInv u (k + 1) rs (c + 1) := by
  obtain ⟨h1, h2, h3⟩ := h
  refine ⟨?_, fun e => by omega, by omega⟩
  rw [h1, drop_more (by omega : k < u.length), rep_more, hd]

theorem RunInv.done {u : List Bool} {c : Nat} {rs : List (Bool × Nat)} (h : RunInv u u.length rs c) : runsM u = rs := by
  obtain ⟨h1, h2, h3⟩ := h
  rw [h2 rfl, List.drop_length] at h1
  rw [h1]; exact List.append_nil _

theorem RunInv.size {u : List Bool} {k c : Nat} {rs : List (Bool × Nat)} (h : RunInv u k rs c) (hu : u.length ≤ 58) : (txtL (runsB rs)).size ≤ 174 := by
  have a := runsB_len (runsM u) (runsM_pos u) (by rw [expR_runs]; exact hu)
  rw [expR_runs] at a
  rw [h.1, runsB_app, List.length_append] at a
  rw [txtL_size]
  omega

end Go.Proofs.YtckkgjgfjnfeoaaGreatDoor
