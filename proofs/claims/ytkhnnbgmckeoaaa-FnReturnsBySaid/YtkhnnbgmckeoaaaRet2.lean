/- Plain numbers: the first time in an arc is a record; returns in numbers; the times of return as a list. -/
import Derived.Test.YtkhnnbgmckeoaaaRet
import Derived.Test.YtkhnnbgmckeoaaaRec
import Derived.Test.YtkhnnbgmckeoaaaKinds
set_option linter.unusedVariables false
namespace Go.Proofs.Ytkhnnbgmckeoaaa
open N

/-- the records above are the times that are nearer than all before -/
theorem rec_up_mem {n s : Nat} (h0 : 0 < n) (m : Nat) : (∀ j, 1 ≤ j → j < m → (recSt true n s m).1 ≤ j * s % n) ∧ ((recSt true n s m).1 = n ∨ ∃ j, 1 ≤ j ∧ j < m ∧ (recSt true n s m).1 = j * s % n) ∧
    ∀ k, k ∈ (recSt true n s m).2 ↔ (1 ≤ k ∧ k < m ∧ ∀ j, 1 ≤ j → j < k → k * s % n < j * s % n) := by
  induction m with
  | zero => exact ⟨fun j _ h => by omega, .inl rfl, fun k => ⟨fun h => (by cases h), fun h => (by omega)⟩⟩
  | succ m ih =>
    obtain ⟨a, b, c⟩ := ih
    rw [recSt_succ, recStep]
    generalize hst : recSt true n s m = st at *
    by_cases h : 1 ≤ m ∧ (if true then m * s % n < st.1 else st.1 < m * s % n)
    · rw [if_pos h]
      obtain ⟨h1, h2⟩ := h
      have h2' : m * s % n < st.1 := h2
      refine ⟨fun j j1 j2 => ?_, .inr ⟨m, h1, by omega, rfl⟩, fun k => ?_⟩
      · by_cases e : j = m
        · subst e; exact Nat.le_refl _
        · have := a j j1 (by omega); show m * s % n ≤ _; omega
      · show k ∈ st.2 ++ [m] ↔ _
        rw [List.mem_append, List.mem_singleton, c]
        constructor
        · rintro (⟨k1, k2, k3⟩ | rfl)
          · exact ⟨k1, by omega, k3⟩
          · exact ⟨h1, by omega, fun j j1 j2 => by have := a j j1 j2; omega⟩
        · rintro ⟨k1, k2, k3⟩
          by_cases e : k = m
          · exact .inr e
          · exact .inl ⟨k1, by omega, k3⟩
    · rw [if_neg h]
      have h' : 1 ≤ m → st.1 ≤ m * s % n := fun h1 => by
        by_cases c1 : m * s % n < st.1
        · exact absurd ⟨h1, c1⟩ h
        · omega
      refine ⟨fun j j1 j2 => ?_, ?_, fun k => ?_⟩
      · by_cases e : j = m
        · subst e; exact h' j1
        · exact a j j1 (by omega)
      · rcases b with b | ⟨j, j1, j2, j3⟩
        · exact .inl b
        · exact .inr ⟨j, j1, by omega, j3⟩
      · rw [c]
        constructor
        · rintro ⟨k1, k2, k3⟩; exact ⟨k1, by omega, k3⟩
        · rintro ⟨k1, k2, k3⟩
          refine ⟨k1, ?_, k3⟩
          by_cases e : k = m
          · exfalso
            subst e
            have h1 := h' k1
            rcases b with b | ⟨j, j1, j2, j3⟩
            · have := Nat.mod_lt (k * s) h0; omega
            · have := k3 j j1 j2; omega
          · omega

/-- the first time in an arc from 0 on is a record above -/
theorem up_record {n s : Nat} (ht : tokN n s = true) {w : Int} (w2 : 2 ≤ w) (hw : w ≤ n) {k : Nat} (hk : retB n (invF n s) w 0 = k) : k ∈ recL true n s := by
  have hI := tok_of_tokN ht
  have hb := tok_bd hI
  have a := (ret_is hI (by omega : 1 ≤ w) hw (Int.le_refl 0) (by omega)).1
  have hlt : retB (n : Int) (invF n s) w 0 < n := by rw [ret_zero (tok_inv hI) w2 hw]; exact pt_hi _ _ (by omega)
  rw [hk] at a hlt
  have e : ∀ j : Nat, (0 + (j : Int) * s) % n = ((j * s % n : Nat) : Int) := fun j => by rw [Int.zero_add]; simp
  show k ∈ (recSt true n s n).2
  rw [(rec_up_mem (by omega) n).2.2]
  have hp := a.pos
  refine ⟨by omega, by omega, fun j j1 j2 => ?_⟩
  have h1 := a.hit
  have h2 := a.miss j (by omega) (by omega)
  rw [e] at h1 h2
  omega

/-- how many points return after a time -/
theorem ret_count {n u : Int} (hu : tok n u = true) {w : Nat} (w1 : 1 ≤ w) (hw : (w : Int) ≤ n) (x : Int) : (List.range w).countP (fun p : Nat => retB n u w p == x) = (gapsT n u w).count x := by
  rw [(ret_perm hu w1 hw).count_eq, List.count, List.countP_map]
  rfl

/-- each once, in ascending order: the kinds of gaps of the opposite turn -/
theorem ret_kinds {n u : Int} (hu : tok n u = true) {w : Nat} (w1 : 1 ≤ w) (hw : (w : Int) ≤ n) : kindsL ((List.range w).map fun p : Nat => retB n u w p) = kindsL (gapsT n u w) := by
  have a := kindsL_is ((List.range w).map fun p : Nat => retB n u w p)
  have b := kindsL_is (gapsT n u w)
  exact asc_ext a.1 b.1 fun x => by rw [a.2, b.2, (ret_perm hu w1 hw).mem_iff]

/-- at most three; the greatest one is both others -/
theorem ret_three {n u : Int} (hu : tok n u = true) {w : Nat} (w1 : 1 ≤ w) (hw : (w : Int) ≤ n) : (kindsL (gapsT n u w)).length ≤ 3 ∧ ((kindsL (gapsT n u w)).length = 3 → (kindsL (gapsT n u w)).getD 2 0 = (kindsL (gapsT n u w)).getD 0 0 + (kindsL (gapsT n u w)).getD 1 0) := by
  have hb := tok_bd hu
  have k := kindsL_is (gapsT n u w)
  by_cases c : w = 1
  · subst c
    rw [gaps_one (turns_of hu)]
    have : (kindsL [n]).length ≤ 1 := kindsL_le [n]
    exact ⟨by omega, fun h => by omega⟩
  · have p := nearA_is hu (by omega : (2 : Int) ≤ w) hw
    have q := nearB_is hu (by omega : (2 : Int) ≤ w) hw
    have hp := (turns_of hu).pos p.1 (by have := p.2.1; omega)
    have hq := pt_hi (n := n) u (nearB n u w) (by omega)
    exact kinds_three (A := pt n u (nearA n u w)) (B := n - pt n u (nearB n u w)) (by omega) (by omega) k.1 fun x hx => gaps_mem hu hw p q ((k.2 x).1 hx)

/-- the three times and how often each is, in numbers -/
theorem ret_by_count {n u : Int} (hu : tok n u = true) {w : Nat} (w2 : 2 ≤ w) (hw : (w : Int) ≤ n) (x : Int) :
    (((gapsT n u w).count x : Nat) : Int) = (if pt n u (nearA n u w) = x then (w : Int) - nearA n u w else 0) + (if n - pt n u (nearB n u w) = x then (w : Int) - nearB n u w else 0) + (if pt n u (nearA n u w) + (n - pt n u (nearB n u w)) = x then nearA n u w + nearB n u w - w else 0) :=
  gaps_count hu hw (nearA_is hu (by omega : (2 : Int) ≤ w) hw) (nearB_is hu (by omega : (2 : Int) ≤ w) hw) x
end Go.Proofs.Ytkhnnbgmckeoaaa
