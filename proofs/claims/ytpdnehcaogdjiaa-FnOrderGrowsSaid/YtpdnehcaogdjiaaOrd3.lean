/- Plain lists: an order that is told by two numbers closes, has all numbers, and is, from behind, the order with both exchanged. -/
import Derived.Test.YtpdnehcaogdjiaaOrd2
set_option linter.unusedVariables false
namespace Go.Proofs.Ytpdnehcaogdjiaa
variable {m u d : Int}

theorem rule_inv (hm : m ≤ u + d) {x : Int} (x0 : 0 ≤ x) (x1 : x < m) : ruleBy m d u (ruleBy m u d x) = x := by
  unfold ruleBy
  by_cases c1 : x + u < m
  · rw [if_pos c1, if_neg (by omega), if_pos (by omega)]; omega
  · rw [if_neg c1]
    by_cases c2 : 0 ≤ x - d
    · rw [if_pos c2, if_pos (by omega)]; omega
    · rw [if_neg c2, if_neg (by omega), if_neg (by omega)]; omega

theorem by_all (h : okBy m u d) : ∀ x : Int, 0 ≤ x → x < m → ∃ k : Nat, k < m.toNat ∧ nowBy m u d k = x := by
  intro x x0 x1
  obtain ⟨_, _, _, _, _, _, g, _⟩ := h
  obtain ⟨k, hk, e⟩ := pigeon (fun k => (nowBy m u d k).toNat) m.toNat (fun k hk => by have := g k hk; show (nowBy m u d k).toNat < _; omega)
    (fun j k hjk hk => by
      have a := g k hk
      have b := g j (by omega)
      have c := a.2.2 j hjk
      show (nowBy m u d j).toNat ≠ (nowBy m u d k).toNat
      omega) x.toNat (by omega)
  have a := g k hk
  have e' : (nowBy m u d k).toNat = x.toNat := e
  exact ⟨k, hk, by omega⟩

theorem by_inj (h : okBy m u d) {x y : Int} (x0 : 0 ≤ x) (x1 : x < m) (y0 : 0 ≤ y) (y1 : y < m) (e : ruleBy m u d x = ruleBy m u d y) : x = y := by
  have hall := by_all h
  obtain ⟨h1, _, _, _, _, _, g, g0⟩ := h
  obtain ⟨j, hj, rfl⟩ := hall x x0 x1
  obtain ⟨k, hk, rfl⟩ := hall y y0 y1
  have e' : nowBy m u d (j + 1) = nowBy m u d (k + 1) := e
  have key : ∀ j k : Nat, j < k → k < m.toNat → nowBy m u d (j + 1) ≠ nowBy m u d (k + 1) := by
    intro j k hjk hk e
    by_cases c : k + 1 < m.toNat
    · exact (g (k + 1) c).2.2 (j + 1) (by omega) e
    · have : k + 1 = m.toNat := by omega
      rw [this, g0] at e
      have := (g (j + 1) (by omega)).2.2 0 (by omega)
      exact this e.symm
  rcases Nat.lt_trichotomy j k with c | c | c
  · exact absurd e' (key j k c hk)
  · rw [c]
  · exact absurd e'.symm (key k j c hj)

theorem by_sum (h : okBy m u d) : m ≤ u + d := by
  have hi := @by_inj m u d h
  obtain ⟨h1, _, u1, _, d1, _, _, _⟩ := h
  by_cases c : m ≤ u + d
  · exact c
  · exfalso
    by_cases c2 : u ≤ m - u - d
    · have := hi (x := m - u - d - u) (y := m - u) (by omega) (by omega) (by omega) (by omega) (by
        unfold ruleBy
        rw [if_pos (by omega), if_neg (by omega), if_pos (by omega)]
        omega)
      omega
    · have := hi (x := 0) (y := u + d) (by omega) (by omega) (by omega) (by omega) (by
        unfold ruleBy
        rw [if_pos (by omega), if_neg (by omega), if_pos (by omega)]
        omega)
      omega

/-- the other way round -/
theorem by_back (h : okBy m u d) : okBy m d u ∧ ∀ k : Nat, 1 ≤ k → k ≤ m.toNat → nowBy m d u k = nowBy m u d (m.toNat - k) := by
  have hs := by_sum h
  obtain ⟨h1, h60, u1, u60, d1, d60, g, g0⟩ := h
  have key : ∀ k : Nat, 1 ≤ k → k ≤ m.toNat → nowBy m d u k = nowBy m u d (m.toNat - k) := by
    intro k
    induction k with
    | zero => intro h; omega
    | succ k ih =>
      intro _ hk
      have a := g (m.toNat - (k + 1)) (by omega)
      have e : ruleBy m u d (nowBy m u d (m.toNat - (k + 1))) = nowBy m d u k := by
        show nowBy m u d (m.toNat - (k + 1) + 1) = _
        rw [show m.toNat - (k + 1) + 1 = m.toNat - k by omega]
        by_cases c : k = 0
        · subst c; rw [Nat.sub_zero, g0]; rfl
        · exact (ih (by omega) (by omega)).symm
      show ruleBy m d u (nowBy m d u k) = _
      rw [← e]
      exact rule_inv hs a.1 a.2.1
  refine ⟨⟨h1, h60, d1, d60, u1, u60, fun k hk => ?_, ?_⟩, key⟩
  · by_cases c : k = 0
    · subst c
      exact ⟨Int.le_refl _, by show (0 : Int) < m; omega, fun j hj => by omega⟩
    · rw [key k (by omega) (by omega)]
      have a := g (m.toNat - k) (by omega)
      refine ⟨a.1, a.2.1, fun j hj => ?_⟩
      by_cases c2 : j = 0
      · subst c2
        exact (a.2.2 0 (by omega))
      · rw [key j (by omega) (by omega)]
        exact ((g (m.toNat - j) (by omega)).2.2 (m.toNat - k) (by omega)).symm
  · rw [key m.toNat (by omega) (Nat.le_refl _), Nat.sub_self]; rfl
end Go.Proofs.Ytpdnehcaogdjiaa
