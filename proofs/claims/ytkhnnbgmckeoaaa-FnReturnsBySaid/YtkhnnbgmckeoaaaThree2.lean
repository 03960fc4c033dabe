/- Plain lists: how often each gap comes; and a further point parts a greatest gap. -/
import Derived.Test.YtkhnnbgmckeoaaaGapsF
set_option linter.unusedVariables false
namespace Go.Proofs.Ytkhnnbgmckeoaaa
open N

theorem count_range (m p q A B x : Int) (h : m ≤ p + q) (p0 : 1 ≤ p) (p1 : p < m) (q0 : 1 ≤ q) (q1 : q < m) (j : Nat) (hj : (j : Int) ≤ m) :
    ((((List.range j).map fun t : Nat => gapAt m p q A B t).count x : Nat) : Int) = (if A = x then min (j : Int) (m - p) else 0) + (if B = x then max 0 ((j : Int) - q) else 0) + (if A + B = x then min (j : Int) q - min (j : Int) (m - p) else 0) := by
  induction j with
  | zero =>
    have e1 : min (0 : Int) (m - p) = 0 := by omega
    have e3 : min (0 : Int) q = 0 := by omega
    simp [e1, e3]
    omega
  | succ j ih =>
    have ih := ih (by omega)
    rw [List.range_succ, List.map_append, List.count_append, Int.natCast_add, ih, List.map_singleton, List.count_singleton]
    unfold gapAt
    by_cases c1 : (j : Int) + p < m
    · rw [if_pos c1]
      have e1 : min ((j : Int)) (m - p) = j := by omega
      have e2 : min (((j + 1 : Nat) : Int)) (m - p) = j + 1 := by omega
      have e3 : max 0 ((j : Int) - q) = 0 := by omega
      have e4 : max 0 (((j + 1 : Nat) : Int) - q) = 0 := by omega
      have e5 : min (j : Int) q = j := by omega
      have e6 : min ((j + 1 : Nat) : Int) q = j + 1 := by omega
      rw [e1, e2, e3, e4, e5, e6]
      simp only [beq_iff_eq]
      (repeat' split) <;> omega
    · rw [if_neg c1]
      by_cases c2 : 0 ≤ (j : Int) - q
      · rw [if_pos c2]
        have e1 : min ((j : Int)) (m - p) = m - p := by omega
        have e2 : min (((j + 1 : Nat) : Int)) (m - p) = m - p := by omega
        have e3 : max 0 ((j : Int) - q) = j - q := by omega
        have e4 : max 0 (((j + 1 : Nat) : Int) - q) = j - q + 1 := by omega
        have e5 : min (j : Int) q = q := by omega
        have e6 : min ((j + 1 : Nat) : Int) q = q := by omega
        rw [e1, e2, e3, e4, e5, e6]
        simp only [beq_iff_eq]
        (repeat' split) <;> omega
      · rw [if_neg c2]
        have e1 : min ((j : Int)) (m - p) = m - p := by omega
        have e2 : min (((j + 1 : Nat) : Int)) (m - p) = m - p := by omega
        have e3 : max 0 ((j : Int) - q) = 0 := by omega
        have e4 : max 0 (((j + 1 : Nat) : Int) - q) = 0 := by omega
        have e5 : min (j : Int) q = j := by omega
        have e6 : min ((j + 1 : Nat) : Int) q = j + 1 := by omega
        rw [e1, e2, e3, e4, e5, e6]
        simp only [beq_iff_eq]
        (repeat' split) <;> omega

theorem gaps_count {n s : Int} (ht : tok n s = true) {m : Nat} {p q : Int} (hm : (m : Int) ≤ n) (hp : IsMin n s m p) (hq : IsMax n s m q) (x : Int) :
    (((gapsT n s m).count x : Nat) : Int) = (if pt n s p = x then (m : Int) - p else 0) + (if n - pt n s q = x then (m : Int) - q else 0) + (if pt n s p + (n - pt n s q) = x then p + q - m else 0) := by
  have hs := near_sum (turns_of ht) hm hp hq
  rw [(gaps_perm ht hm hp hq).count_eq, count_range m p q _ _ x hs hp.1 hp.2.1 hq.1 hq.2.1 m (Int.le_refl _)]
  have p1 := hp.1; have p2 := hp.2.1; have q1 := hq.1; have q2 := hq.2.1
  have e1 : min ((m : Int)) (m - p) = m - p := by omega
  have e2 : max 0 ((m : Int) - q) = m - q := by omega
  have e3 : min (m : Int) q = q := by omega
  rw [e1, e2, e3]
  have e4 : q - ((m : Int) - p) = p + q - m := by omega
  rw [e4]
end Go.Proofs.Ytkhnnbgmckeoaaa
