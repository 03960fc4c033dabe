/- The greatest and the least gap: what they are, and what the laws say of them. -/
import Derived.Test.YtokmmbmkfpfmgaaGOrd
import Derived.Test.YtokmmbmkfpfmgaaGKinds
import Derived.Test.YtokmmbmkfpfmgaaGNear
set_option linter.unusedVariables false
namespace Go.Proofs.Ytokmmbmkfpfmgaa
set_option maxRecDepth 4000

set_option maxRecDepth 4000
open N

/-- the greatest of the first k; -1 of none -/
def grK (L : List Int) : Nat → Int
  | 0 => -1
  | k + 1 => max (grK L k) (L.getD k 0)

/-- the least of the first k; -1 of none -/
def leK (L : List Int) : Nat → Int
  | 0 => -1
  | k + 1 => if leK L k < 0 ∨ L.getD k 0 < leK L k then L.getD k 0 else leK L k

theorem grK_succ (L : List Int) (k : Nat) : grK L (k + 1) = max (grK L k) (L.getD k 0) := rfl

theorem leK_succ (L : List Int) (k : Nat) : leK L (k + 1) = if leK L k < 0 ∨ L.getD k 0 < leK L k then L.getD k 0 else leK L k := rfl

theorem grK_ge (L : List Int) : ∀ k j, j < k → L.getD j 0 ≤ grK L k := by
  intro k
  induction k with
  | zero => intro j h; omega
  | succ k ih =>
    intro j hj
    rw [grK_succ]
    by_cases c : j = k
    · subst c; omega
    · have := ih j (by omega); omega

theorem grK_at {L : List Int} : ∀ k, 1 ≤ k → (∀ j, j < k → 1 ≤ L.getD j 0) → ∃ j, j < k ∧ grK L k = L.getD j 0 := by
  intro k
  induction k with
  | zero => intro h; omega
  | succ k ih =>
    intro _ hp
    rw [grK_succ]
    have hk := hp k (by omega)
    by_cases c : k = 0
    · subst c
      exact ⟨0, by omega, by show max (-1) _ = _; omega⟩
    · obtain ⟨j, hj, e⟩ := ih (by omega) fun j hj => hp j (by omega)
      by_cases d : grK L k ≤ L.getD k 0
      · exact ⟨k, by omega, by omega⟩
      · exact ⟨j, by omega, by omega⟩

theorem leK_is {L : List Int} : ∀ k, 1 ≤ k → (∀ j, j < k → 1 ≤ L.getD j 0) → (∃ j, j < k ∧ leK L k = L.getD j 0) ∧ ∀ j, j < k → leK L k ≤ L.getD j 0 := by
  intro k
  induction k with
  | zero => intro h; omega
  | succ k ih =>
    intro _ hp
    rw [leK_succ]
    by_cases c : k = 0
    · subst c
      have e : leK L 0 < 0 := by show (-1 : Int) < 0; omega
      rw [if_pos (.inl e)]
      exact ⟨⟨0, by omega, rfl⟩, fun j hj => by obtain rfl : j = 0 := by omega
                                                exact Int.le_refl _⟩
    · obtain ⟨⟨j, hj, e⟩, h⟩ := ih (by omega) fun j hj => hp j (by omega)
      have hj1 := hp j (by omega)
      by_cases d : L.getD k 0 < leK L k
      · rw [if_pos (.inr d)]
        refine ⟨⟨k, by omega, rfl⟩, fun i hi => ?_⟩
        by_cases q : i = k
        · subst q; omega
        · have := h i (by omega); omega
      · rw [if_neg (by omega)]
        refine ⟨⟨j, by omega, e⟩, fun i hi => ?_⟩
        by_cases q : i = k
        · subst q; omega
        · exact h i (by omega)

theorem grK_bd {L : List Int} {B : Int} (h0 : -1 ≤ B) : ∀ k, (∀ j, j < k → L.getD j 0 ≤ B) → grK L k ≤ B := by
  intro k
  induction k with
  | zero => intro _; exact h0
  | succ k ih =>
    intro h
    have a := ih fun j hj => h j (by omega)
    have b := h k (by omega)
    rw [grK_succ]; omega

def greatF (n s m : Int) : Int := grK (gapsF n s m) (gapsF n s m).length

def leastF (n s m : Int) : Int := leK (gapsF n s m) (gapsF n s m).length

theorem greatF_no {n s m : Int} (h : ¬ (tok n s = true ∧ 1 ≤ m ∧ m ≤ n)) : greatF n s m = -1 := by unfold greatF; rw [gapsF_no h]; rfl

theorem leastF_no {n s m : Int} (h : ¬ (tok n s = true ∧ 1 ≤ m ∧ m ≤ n)) : leastF n s m = -1 := by unfold leastF; rw [gapsF_no h]; rfl

theorem greatF_yes {n s : Int} {m : Nat} (h : tok n s = true) (h0 : 1 ≤ m) (h1 : (m : Int) ≤ n) : greatF n s m = grK (gapsT n s m) m := by unfold greatF; rw [gapsF_yes h h0 h1, gapsT_length]

theorem leastF_yes {n s : Int} {m : Nat} (h : tok n s = true) (h0 : 1 ≤ m) (h1 : (m : Int) ≤ n) : leastF n s m = leK (gapsT n s m) m := by unfold leastF; rw [gapsF_yes h h0 h1, gapsT_length]

theorem gaps_facts {n s : Int} (ht : tok n s = true) {m : Nat} (h1 : 1 ≤ m) (hm : (m : Int) ≤ n) :
    (∀ j, j < m → 1 ≤ (gapsT n s m).getD j 0) ∧ (∃ j, j < m ∧ grK (gapsT n s m) m = (gapsT n s m).getD j 0) ∧ (∃ j, j < m ∧ leK (gapsT n s m) m = (gapsT n s m).getD j 0) ∧
    (∀ j, j < m → leK (gapsT n s m) m ≤ (gapsT n s m).getD j 0) ∧ ∀ j, j < m → (gapsT n s m).getD j 0 ≤ grK (gapsT n s m) m := by
  have hp : ∀ j, j < m → 1 ≤ (gapsT n s m).getD j 0 := fun j hj => (gaps_pos (turns_of ht) hm hj 0).1
  obtain ⟨a, b⟩ := leK_is m h1 hp
  exact ⟨hp, grK_at m h1 hp, a, b, grK_ge _ m⟩

theorem great_bd {n s : Int} (ht : tok n s = true) {m : Nat} (h1 : 1 ≤ m) (hm : (m : Int) ≤ n) : 1 ≤ greatF n s m ∧ greatF n s m ≤ n := by
  obtain ⟨_, ⟨j, hj, e⟩, _⟩ := gaps_facts ht h1 hm
  rw [greatF_yes ht h1 hm, e]
  exact gaps_pos (turns_of ht) hm hj 0

theorem least_bd {n s : Int} (ht : tok n s = true) {m : Nat} (h1 : 1 ≤ m) (hm : (m : Int) ≤ n) : 1 ≤ leastF n s m ∧ leastF n s m ≤ n := by
  obtain ⟨_, _, ⟨j, hj, e⟩, _⟩ := gaps_facts ht h1 hm
  rw [leastF_yes ht h1 hm, e]
  exact gaps_pos (turns_of ht) hm hj 0

theorem least_great {n s : Int} (ht : tok n s = true) {m : Nat} (h1 : 1 ≤ m) (hm : (m : Int) ≤ n) : leastF n s m ≤ greatF n s m := by
  obtain ⟨_, _, _, a, b⟩ := gaps_facts ht h1 hm
  rw [greatF_yes ht h1 hm, leastF_yes ht h1 hm]
  have := a 0 (by omega)
  have := b 0 (by omega)
  omega

theorem great_times {n s : Int} (ht : tok n s = true) {m : Nat} (h1 : 1 ≤ m) (hm : (m : Int) ≤ n) : n ≤ greatF n s m * m := by
  obtain ⟨_, _, _, _, b⟩ := gaps_facts ht h1 hm
  rw [greatF_yes ht h1 hm]
  have e := gaps_total (turns_of ht) h1 hm
  generalize grK (gapsT n s m) m = G at *
  have step : ∀ k, k ≤ m → sumT (gapsT n s m) k ≤ G * k := by
    intro k
    induction k with
    | zero => intro _; simp [sumT]
    | succ k ih =>
      intro hk
      rw [sumT_succ _ (by rw [gapsT_length]; omega), show ((k + 1 : Nat) : Int) = (k : Int) + 1 by omega, Int.mul_add, Int.mul_one]
      have := ih (by omega)
      have := b k (by omega)
      omega
  have := step m (Nat.le_refl _)
  omega

theorem least_times {n s : Int} (ht : tok n s = true) {m : Nat} (h1 : 1 ≤ m) (hm : (m : Int) ≤ n) : leastF n s m * m ≤ n := by
  obtain ⟨_, _, _, b, _⟩ := gaps_facts ht h1 hm
  rw [leastF_yes ht h1 hm]
  have e := gaps_total (turns_of ht) h1 hm
  generalize leK (gapsT n s m) m = G at *
  have step : ∀ k, k ≤ m → G * k ≤ sumT (gapsT n s m) k := by
    intro k
    induction k with
    | zero => intro _; simp [sumT]
    | succ k ih =>
      intro hk
      rw [sumT_succ _ (by rw [gapsT_length]; omega), show ((k + 1 : Nat) : Int) = (k : Int) + 1 by omega, Int.mul_add, Int.mul_one]
      have := ih (by omega)
      have := b k (by omega)
      omega
  have := step m (Nat.le_refl _)
  omega

/-- with one point more no gap is greater -/
theorem great_more {n s : Int} (ht : tok n s = true) {m : Nat} (h1 : 1 ≤ m) (hm : (m : Int) < n) : greatF n s ((m + 1 : Nat) : Int) ≤ greatF n s m := by
  obtain ⟨_, _, _, _, b⟩ := gaps_facts ht h1 (by omega)
  obtain ⟨hp, _⟩ := gaps_facts (m := m + 1) ht (by omega) (by omega)
  have hb := great_bd ht h1 (by omega : (m : Int) ≤ n)
  rw [greatF_yes ht h1 (by omega)] at hb ⊢
  rw [greatF_yes (m := m + 1) ht (by omega) (by omega)]
  refine grK_bd (by omega) _ fun j hj => ?_
  have hJ := lessT_le n s (pt n s m) m
  have hJ1 := (parts_greatest ht h1 hm).1
  by_cases c1 : j + 1 < lessT n s (pt n s m) m
  · have e := (parted ht h1 hm (k := j) (by omega)).1 c1
    have := b j (by omega)
    omega
  · by_cases c2 : j + 1 = lessT n s (pt n s m) m
    · have e := ((parted ht h1 hm (k := j) (by omega)).2.1 c2).1
      have := b j (by omega)
      have := hp (j + 1) (by omega)
      omega
    · obtain ⟨k, rfl⟩ : ∃ k, j = k + 1 := ⟨j - 1, by omega⟩
      by_cases c3 : k + 1 = lessT n s (pt n s m) m
      · have e := ((parted ht h1 hm (k := k) (by omega)).2.1 c3).1
        have := b k (by omega)
        have := hp k (by omega)
        omega
      · have e := (parted ht h1 hm (k := k) (by omega)).2.2 (by omega)
        have := b k (by omega)
        omega

theorem least_more {n s : Int} (ht : tok n s = true) {m : Nat} (h1 : 1 ≤ m) (hm : (m : Int) < n) : leastF n s ((m + 1 : Nat) : Int) ≤ leastF n s m := by
  obtain ⟨_, _, ⟨k, hk, e0⟩, _⟩ := gaps_facts ht h1 (by omega : (m : Int) ≤ n)
  obtain ⟨hp, _, _, b, _⟩ := gaps_facts (m := m + 1) ht (by omega) (by omega)
  rw [leastF_yes ht h1 (by omega), e0, leastF_yes (m := m + 1) ht (by omega) (by omega)]
  have hJ1 := (parts_greatest ht h1 hm).1
  by_cases c1 : k + 1 < lessT n s (pt n s m) m
  · have e := (parted ht h1 hm (k := k) hk).1 c1
    have := b k (by omega)
    omega
  · by_cases c2 : k + 1 = lessT n s (pt n s m) m
    · have e := ((parted ht h1 hm (k := k) hk).2.1 c2).1
      have := b k (by omega)
      have := hp (k + 1) (by omega)
      omega
    · have e := (parted ht h1 hm (k := k) hk).2.2 (by omega)
      have := b (k + 1) (by omega)
      omega

/-- two points or more: by the nearest ones -/
theorem great_near {n s : Int} (ht : tok n s = true) {m : Nat} (h2 : 2 ≤ m) (hm : (m : Int) ≤ n) : greatF n s m ≤ pt n s (nearA n s m) + (n - pt n s (nearB n s m)) := by
  have h := turns_of ht
  obtain ⟨_, ⟨j, hj, e⟩, _⟩ := gaps_facts ht (by omega : 1 ≤ m) hm
  have hp := nearA_is ht (by omega : (2 : Int) ≤ m) hm
  have hq := nearB_is ht (by omega : (2 : Int) ≤ m) hm
  rw [greatF_yes ht (by omega) hm, e]
  have hx := gaps_mem ht hm hp hq (getD_mem' (xs := gapsT n s m) 0 (by rw [gapsT_length]; exact hj))
  have p0 := pt_lo (n := n) s (nearA n s m) h.n2
  have q0 := pt_hi (n := n) s (nearB n s m) h.n2
  omega

theorem least_near {n s : Int} (ht : tok n s = true) {m : Nat} (h2 : 2 ≤ m) (hm : (m : Int) ≤ n) : leastF n s m = min (pt n s (nearA n s m)) (n - pt n s (nearB n s m)) := by
  have h := turns_of ht
  obtain ⟨_, _, ⟨j, hj, e⟩, b, _⟩ := gaps_facts ht (by omega : 1 ≤ m) hm
  have hp := nearA_is ht (by omega : (2 : Int) ≤ m) hm
  have hq := nearB_is ht (by omega : (2 : Int) ≤ m) hm
  rw [leastF_yes ht (by omega) hm]
  have hx := gaps_mem ht hm hp hq (getD_mem' (xs := gapsT n s m) 0 (by rw [gapsT_length]; exact hj))
  rw [← e] at hx
  have p0 := pt_lo (n := n) s (nearA n s m) h.n2
  have q0 := pt_hi (n := n) s (nearB n s m) h.n2
  have perm := gaps_perm ht hm hp hq
  generalize nearA n s m = p at *
  generalize nearB n s m = q at *
  obtain ⟨p1, p2, _⟩ := hp
  obtain ⟨q1, q2, _⟩ := hq
  have inA : pt n s p ∈ gapsT n s m := perm.mem_iff.2 (List.mem_map.2 ⟨0, by simp; omega, by unfold gapAt; rw [if_pos (by omega)]⟩)
  have inB : n - pt n s q ∈ gapsT n s m := perm.mem_iff.2 (List.mem_map.2 ⟨m - 1, by simp; omega, by unfold gapAt; rw [if_neg (by omega), if_pos (by omega)]⟩)
  have useB : ∀ x ∈ gapsT n s m, leK (gapsT n s m) m ≤ x := fun x hx => by
    obtain ⟨i, hi, ei⟩ := mem_getD 0 hx
    rw [gapsT_length] at hi
    rw [← ei]; exact b i hi
  have a1 := useB _ inA
  have a2 := useB _ inB
  omega

theorem great_kind {n s : Int} (ht : tok n s = true) {m : Nat} (h1 : 1 ≤ m) (hm : (m : Int) ≤ n) : greatF n s m ∈ kindsF n s m := by
  obtain ⟨_, ⟨j, hj, e⟩, _⟩ := gaps_facts ht h1 hm
  rw [greatF_yes ht h1 hm, e]
  unfold kindsF
  rw [gapsF_yes ht h1 hm]
  exact ((kindsL_is _).2 _).2 (getD_mem' 0 (by rw [gapsT_length]; exact hj))
end Go.Proofs.Ytokmmbmkfpfmgaa
