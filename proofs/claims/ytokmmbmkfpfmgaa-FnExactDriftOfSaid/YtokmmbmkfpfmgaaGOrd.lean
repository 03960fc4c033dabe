/- Plain lists: how often each gap comes; and a further point parts a greatest gap. Plain lists: a further point parts a greatest gap, and all others are as before. Plain lists: the order of times round the circle, places in it, and the order the other way round. Plain lists: turned pairs; and orders that are told by two numbers. Plain lists: an order that is told by two numbers closes, has all numbers, and is, from behind, the order with both exchanged. -/
import Derived.Test.YtokmmbmkfpfmgaaGKinds
import Derived.Test.YtokmmbmkfpfmgaaGMath
set_option linter.unusedVariables false
namespace Go.Proofs.Ytokmmbmkfpfmgaa
set_option maxRecDepth 4000
open N

theorem count_range (m p q A B x : Int) (h : m ≤ p + q) (p0 : 1 ≤ p) (p1 : p < m) (q0 : 1 ≤ q) (q1 : q < m) (j : Nat) (hj : (j : Int) ≤ m) :
    ((((List.range j).map fun t : Nat => gapAt m p q A B t).count x : Nat) : Int) = (if A = x then min (j : Int) (m - p) else 0) + (if B = x then max 0 ((j : Int) - q) else 0) + (if A + B = x then min (j : Int) q - min (j : Int) (m - p) else 0) := by
  induction j with
  | zero =>
    have e1 : min (0 : Int) (m - p) = 0 := by omega
    have e3 : min (0 : Int) q = 0 := by omega
    simp [e1, e3]
    omega
  | succ j ih =>
    have ih := ih (by omega)
    rw [List.range_succ, List.map_append, List.count_append, Int.natCast_add, ih, List.map_singleton, List.count_singleton]
    unfold gapAt
    by_cases c1 : (j : Int) + p < m
    · rw [if_pos c1]
      have e1 : min ((j : Int)) (m - p) = j := by omega
      have e2 : min (((j + 1 : Nat) : Int)) (m - p) = j + 1 := by omega
      have e3 : max 0 ((j : Int) - q) = 0 := by omega
      have e4 : max 0 (((j + 1 : Nat) : Int) - q) = 0 := by omega
      have e5 : min (j : Int) q = j := by omega
      have e6 : min ((j + 1 : Nat) : Int) q = j + 1 := by omega
      rw [e1, e2, e3, e4, e5, e6]
      simp only [beq_iff_eq]
      (repeat' split) <;> omega
    · rw [if_neg c1]
      by_cases c2 : 0 ≤ (j : Int) - q
      · rw [if_pos c2]
        have e1 : min ((j : Int)) (m - p) = m - p := by omega
        have e2 : min (((j + 1 : Nat) : Int)) (m - p) = m - p := by omega
        have e3 : max 0 ((j : Int) - q) = j - q := by omega
        have e4 : max 0 (((j + 1 : Nat) : Int) - q) = j - q + 1 := by omega
        have e5 : min (j : Int) q = q := by omega
        have e6 : min ((j + 1 : Nat) : Int) q = q := by omega
        rw [e1, e2, e3, e4, e5, e6]
        simp only [beq_iff_eq]
        (repeat' split) <;> omega
      · rw [if_neg c2]
        have e1 : min ((j : Int)) (m - p) = m - p := by omega
        have e2 : min (((j + 1 : Nat) : Int)) (m - p) = m - p := by omega
        have e3 : max 0 ((j : Int) - q) = 0 := by omega
        have e4 : max 0 (((j + 1 : Nat) : Int) - q) = 0 := by omega
        have e5 : min (j : Int) q = j := by omega
        have e6 : min ((j + 1 : Nat) : Int) q = j + 1 := by omega
        rw [e1, e2, e3, e4, e5, e6]
        simp only [beq_iff_eq]
        (repeat' split) <;> omega

theorem gaps_count {n s : Int} (ht : tok n s = true) {m : Nat} {p q : Int} (hm : (m : Int) ≤ n) (hp : IsMin n s m p) (hq : IsMax n s m q) (x : Int) :
    (((gapsT n s m).count x : Nat) : Int) = (if pt n s p = x then (m : Int) - p else 0) + (if n - pt n s q = x then (m : Int) - q else 0) + (if pt n s p + (n - pt n s q) = x then p + q - m else 0) := by
  have hs := near_sum (turns_of ht) hm hp hq
  rw [(gaps_perm ht hm hp hq).count_eq, count_range m p q _ _ x hs hp.1 hp.2.1 hq.1 hq.2.1 m (Int.le_refl _)]
  have p1 := hp.1; have p2 := hp.2.1; have q1 := hq.1; have q2 := hq.2.1
  have e1 : min ((m : Int)) (m - p) = m - p := by omega
  have e2 : max 0 ((m : Int) - q) = m - q := by omega
  have e3 : min (m : Int) q = q := by omega
  rw [e1, e2, e3]
  have e4 : q - ((m : Int) - p) = p + q - m := by omega
  rw [e4]
end Go.Proofs.Ytokmmbmkfpfmgaa

set_option linter.unusedVariables false
namespace Go.Proofs.Ytokmmbmkfpfmgaa
open N

/-- how many of the first so many points are less than a number -/
def lessT (n s P : Int) (k : Nat) : Nat := (List.range k).countP fun i : Nat => decide (pt n s i < P)

theorem lessT_zero (n s P : Int) : lessT n s P 0 = 0 := rfl

theorem lessT_yes {n s P : Int} {k : Nat} (h : pt n s k < P) : lessT n s P (k + 1) = lessT n s P k + 1 := by
  unfold lessT; rw [List.range_succ, List.countP_append]; simp [h]

theorem lessT_no {n s P : Int} {k : Nat} (h : ¬ pt n s k < P) : lessT n s P (k + 1) = lessT n s P k := by
  unfold lessT; rw [List.range_succ, List.countP_append]; simp [h]

theorem lessT_le (n s P : Int) (k : Nat) : lessT n s P k ≤ k := by
  unfold lessT
  have := List.countP_le_length (p := fun i : Nat => decide (pt n s i < P)) (l := List.range k)
  rwa [List.length_range] at this

theorem countP_asc {S : List Int} (h : S.Pairwise (· < ·)) (P : Int) : ∀ i, i < S.length → (i < S.countP (fun x => decide (x < P)) ↔ S.getD i 0 < P) := by
  induction S with
  | nil => intro i hi; simp at hi
  | cons x r ih =>
    rw [List.pairwise_cons] at h
    intro i hi
    rw [List.countP_cons]
    by_cases hx : x < P
    · rw [if_pos (by simpa using hx)]
      cases i with
      | zero => simp [hx]
      | succ i =>
        have := ih h.2 i (by simpa using hi)
        simp only [List.getD_cons_succ]
        rw [← this]
        omega
    · rw [if_neg (by simpa using hx)]
      have h0 : r.countP (fun x => decide (x < P)) = 0 := by
        rw [List.countP_eq_zero]
        intro y hy
        have := h.1 y hy
        simp; omega
      rw [h0]
      cases i with
      | zero => simp; omega
      | succ i =>
        simp only [List.getD_cons_succ]
        have hm : r.getD i 0 ∈ r := getD_mem' 0 (by simpa using hi)
        have := h.1 _ hm
        omega

theorem lessT_srt {n s : Int} (h : Turns n s) {m : Nat} (hm : (m : Int) ≤ n) (P : Int) : (srt n s m).countP (fun x => decide (x < P)) = lessT n s P m := by
  unfold srt
  rw [(isort_perm _).countP_eq, ptsL, List.countP_map]
  rfl

theorem less_iff {n s : Int} (h : Turns n s) {m : Nat} (hm : (m : Int) ≤ n) (P : Int) {i : Nat} (hi : i < m) (d : Int) : i < lessT n s P m ↔ (srt n s m).getD i d < P := by
  rw [← lessT_srt h hm, countP_asc (srt_asc h hm) P i (by rw [srt_length]; exact hi), srt_d hi d 0]

/-- the points with one more -/
theorem srt_more {n s : Int} (h : Turns n s) {m : Nat} (hm : (m : Int) < n) : srt n s (m + 1) = (srt n s m).take (lessT n s (pt n s m) m) ++ pt n s m :: (srt n s m).drop (lessT n s (pt n s m) m) := by
  have e : srt n s (m + 1) = ins (pt n s m) (srt n s m) := by
    unfold srt
    rw [ptsL_succ]
    exact isort_snoc _ _
  have hl := srt_length n s m
  have hj := lessT_le n s (pt n s m) m
  rw [e]
  have hb := ins_below (pt n s m) ((srt n s m).take (lessT n s (pt n s m) m)) ((srt n s m).drop (lessT n s (pt n s m) m)) ?_ ?_
  · rwa [List.take_append_drop] at hb
  · intro x hx
    obtain ⟨i, hi, rfl⟩ := mem_getD 0 hx
    rw [List.length_take] at hi
    have := (less_iff (m := m) h (by omega) (pt n s m) (by omega : i < m) 0).1 (by omega)
    rw [List.getD_eq_getElem?_getD, List.getElem?_take_of_lt (by omega), ← List.getD_eq_getElem?_getD]
    exact this
  · intro y hy
    rw [List.head?_drop] at hy
    by_cases hjm : lessT n s (pt n s m) m < m
    · have c : ¬ (srt n s m).getD (lessT n s (pt n s m) m) 0 < pt n s m := fun c => by
        have := (less_iff (m := m) h (by omega) (pt n s m) hjm 0).2 c
        omega
      rw [List.getD_eq_getElem?_getD] at c
      rw [Option.mem_def] at hy
      rw [hy] at c
      simp at c
      omega
    · rw [List.getElem?_eq_none (by omega)] at hy
      simp at hy

theorem more_getD {S : List Int} {m j : Nat} (hl : S.length = m) (hj : j ≤ m) (P d : Int) (i : Nat) : (S.take j ++ P :: S.drop j).getD i d = if i < j then S.getD i d else if i = j then P else S.getD (i - 1) d := by
  rw [List.getD_eq_getElem?_getD]
  by_cases h : i < j
  · rw [if_pos h, List.getElem?_append_left (by rw [List.length_take]; omega), List.getElem?_take_of_lt h, List.getD_eq_getElem?_getD]
  · rw [if_neg h, List.getElem?_append_right (by rw [List.length_take]; omega)]
    have hl : (S.take j).length = j := by rw [List.length_take]; omega
    rw [hl]
    by_cases h3 : i = j
    · rw [if_pos h3]; subst h3; simp
    · rw [if_neg h3]
      obtain ⟨k, rfl⟩ : ∃ k, i = j + k + 1 := ⟨i - j - 1, by omega⟩
      have e1 : j + k + 1 - j = k + 1 := by omega
      rw [e1, List.getElem?_cons_succ, List.getElem?_drop, List.getD_eq_getElem?_getD]
      rfl

/-- the nearest point below the new one -/
theorem pred_is {n s : Int} (h : Turns n s) {m t : Nat} (hm : (m : Int) < n) (ht : t < m) (h1 : pt n s t < pt n s m) (h2 : ∀ k : Nat, k < m → pt n s k < pt n s m → pt n s k ≤ pt n s t) :
    1 ≤ lessT n s (pt n s m) m ∧ pt n s t = (srt n s m).getD (lessT n s (pt n s m) m - 1) n := by
  have hj := lessT_le n s (pt n s m) m
  obtain ⟨i, hi, e⟩ := mem_getD n (srt_mem.2 ⟨t, ht, rfl⟩ : pt n s t ∈ srt n s m)
  rw [srt_length] at hi
  have hij := (less_iff (m := m) h (by omega) (pt n s m) hi n).2 (by omega)
  refine ⟨by omega, ?_⟩
  obtain ⟨k, hk, ek⟩ := srt_at (n := n) (s := s) (by omega : lessT n s (pt n s m) m - 1 < m) n
  have hlt := (less_iff (m := m) h (by omega) (pt n s m) (by omega : lessT n s (pt n s m) m - 1 < m) n).1 (by omega)
  have a := h2 k hk (by omega)
  by_cases c : i = lessT n s (pt n s m) m - 1
  · rw [← c, e]
  · have b := asc_getD (srt_asc (m := m) h (by omega)) n (by omega : i < lessT n s (pt n s m) m - 1) (by rw [srt_length]; omega)
    omega

theorem next_pred {n s : Int} {m : Nat} {t : Int} (h : IsNext n s (m + 1) t m) (hm : 1 ≤ m) : pt n s t < pt n s m ∧ ∀ k : Nat, k < m → pt n s k < pt n s m → pt n s k ≤ pt n s t := by
  rcases h with ⟨e, _⟩ | ⟨_, _, h1, h2⟩
  · omega
  · refine ⟨h1, fun k hk hlt => ?_⟩
    by_cases c : pt n s t < pt n s k
    · have := h2 k (by omega) (by omega) c
      omega
    · omega

/-- what is parted is a greatest gap -/
theorem parts_greatest {n s : Int} (ht : tok n s = true) {m : Nat} (h1 : 1 ≤ m) (hm : (m : Int) < n) :
    1 ≤ lessT n s (pt n s m) m ∧ ∀ x ∈ gapsT n s m, x ≤ (gapsT n s m).getD (lessT n s (pt n s m) m - 1) 0 := by
  have h := turns_of ht
  have hj := lessT_le n s (pt n s m) m
  by_cases hm1 : m = 1
  · subst hm1
    have hp := h.pos (k := 1) (by omega) (by omega)
    have hl : lessT n s (pt n s (1 : Nat)) 1 = 1 := by
      rw [lessT_yes (k := 0) (by rw [Int.natCast_zero, pt0]; exact hp), lessT_zero]
    rw [hl, gaps_one h]
    simp
  · have hp := nearA_is ht (by omega : (2 : Int) ≤ m) (by omega)
    have hq := nearB_is ht (by omega : (2 : Int) ≤ m) (by omega)
    generalize nearA n s m = p at *
    generalize nearB n s m = q at *
    have hs := near_sum h (by omega) hp hq
    have hstep := near_step h hm (by omega) hp hq
    have hp' := hp
    have hq' := hq
    obtain ⟨p1, p2, p3⟩ := hp'
    obtain ⟨q1, q2, q3⟩ := hq'
    have pp := h.pos (k := p) p1 (by omega)
    have qp := h.pos (k := q) q1 (by omega)
    have pn := pt_hi (n := n) s p h.n2
    have qn := pt_hi (n := n) s q h.n2
    have mn := pt_hi (n := n) s m h.n2
    have mp := h.pos (k := (m : Int)) (by omega) hm
    -- all gaps are told by times
    have all : ∀ x ∈ gapsT n s m, ∃ t : Nat, t < m ∧ x = gapAt m p q (pt n s p) (n - pt n s q) t := by
      intro x hx
      rw [(gaps_perm ht (by omega) hp hq).mem_iff, List.mem_map] at hx
      obtain ⟨t, h1, rfl⟩ := hx
      exact ⟨t, by simpa using h1, rfl⟩
    have fin : ∀ t : Nat, t < m → pt n s t < pt n s m → (∀ k : Nat, k < m → pt n s k < pt n s m → pt n s k ≤ pt n s t) → (∀ t' : Nat, t' < m → gapAt m p q (pt n s p) (n - pt n s q) t' ≤ gapAt m p q (pt n s p) (n - pt n s q) t) →
        1 ≤ lessT n s (pt n s m) m ∧ ∀ x ∈ gapsT n s m, x ≤ (gapsT n s m).getD (lessT n s (pt n s m) m - 1) 0 := by
      intro t ht1 h1 h2 h3
      obtain ⟨a, b⟩ := pred_is h hm ht1 h1 h2
      refine ⟨a, fun x hx => ?_⟩
      obtain ⟨t', ht', rfl⟩ := all x hx
      rw [gapsT_getD n s (by omega), gap_at h (by omega) hp hq (by omega) ht1 b]
      exact h3 t' ht'
    by_cases hpq : (m : Int) = p + q
    · rcases pt_add s p q h.n2 with ⟨c1, c2⟩ | ⟨c1, c2⟩
      · -- the new point is the greatest
        rw [← hpq] at c2
        obtain ⟨qq, rfl⟩ := Int.eq_ofNat_of_zero_le (by omega : 0 ≤ q)
        refine fin qq (by omega) (by omega) (fun k hk _ => q3 k (by omega) (by omega)) (fun t' ht' => ?_)
        unfold gapAt
        rw [if_neg (by omega : ¬ (qq : Int) + p < m), if_pos (by omega : (0 : Int) ≤ qq - qq)]
        split
        · omega
        · split <;> omega
      · rw [← hpq] at c2
        refine fin 0 (by omega) (by rw [Int.natCast_zero, pt0]; exact mp) (fun k hk hlt => ?_) (fun t' ht' => ?_)
        · rw [Int.natCast_zero, pt0]
          by_cases hk0 : k = 0
          · subst hk0; rw [Int.natCast_zero, pt0]; omega
          · have := p3 k (by omega) (by omega)
            omega
        · unfold gapAt
          rw [if_pos (by omega : ((0 : Nat) : Int) + p < m)]
          split
          · omega
          · split <;> omega
    · rcases hstep with ⟨a, b⟩ | ⟨a, _⟩ | ⟨a, _⟩
      · obtain ⟨r1, _⟩ := next_rule h (m := (m : Int) + 1) (by omega) a b (t := (m : Int) - p) (by omega) (by omega)
        rw [if_pos (by omega : (m : Int) - p + p < m + 1), Int.sub_add_cancel] at r1
        obtain ⟨u1, u2⟩ := next_pred r1 h1
        obtain ⟨t, ht1⟩ := Int.eq_ofNat_of_zero_le (by omega : 0 ≤ (m : Int) - p)
        rw [ht1] at u1 u2
        refine fin t (by omega) u1 u2 (fun t' ht' => ?_)
        unfold gapAt
        rw [if_neg (by omega : ¬ (t : Int) + p < m), if_neg (by omega : ¬ (0 : Int) ≤ t - q)]
        split
        · omega
        · split <;> omega
      · omega
      · omega

theorem last_is {ks : List Int} (h : ks.Pairwise (· < ·)) {v : Int} (hv : v ∈ ks) (hmax : ∀ x ∈ ks, x ≤ v) : ks.getD (ks.length - 1) 0 = v := by
  obtain ⟨i, hi, e⟩ := mem_getD 0 hv
  by_cases c : i = ks.length - 1
  · rw [← c]; exact e
  · have a := asc_getD h 0 (by omega : i < ks.length - 1) (by omega)
    have b := hmax _ (getD_mem' (xs := ks) 0 (i := ks.length - 1) (by omega))
    omega

theorem parted {n s : Int} (ht : tok n s = true) {m : Nat} (h1 : 1 ≤ m) (hm : (m : Int) < n) {k : Nat} (hk : k < m) :
    (k + 1 < lessT n s (pt n s m) m → (gapsT n s (m + 1)).getD k 0 = (gapsT n s m).getD k 0) ∧
    (k + 1 = lessT n s (pt n s m) m → (gapsT n s (m + 1)).getD k 0 + (gapsT n s (m + 1)).getD (k + 1) 0 = (gapsT n s m).getD k 0 ∧ (kindsL (gapsT n s m)).getD ((kindsL (gapsT n s m)).length - 1) 0 = (gapsT n s m).getD k 0) ∧
    (lessT n s (pt n s m) m < k + 1 → (gapsT n s (m + 1)).getD (k + 1) 0 = (gapsT n s m).getD k 0) := by
  have h := turns_of ht
  have hj := lessT_le n s (pt n s m) m
  have hl := srt_length n s m
  have e := fun i => more_getD hl hj (pt n s m) n i
  rw [← srt_more h hm] at e
  obtain ⟨j1, hmax⟩ := parts_greatest ht h1 hm
  rw [gapsT_getD n s (m := m + 1) (i := k) (by omega), gapsT_getD n s (m := m + 1) (i := k + 1) (by omega), gapsT_getD n s (m := m) hk, e k, e (k + 1), e (k + 1 + 1)]
  refine ⟨fun c => ?_, fun c => ⟨?_, ?_⟩, fun c => ?_⟩
  · rw [if_pos (by omega), if_pos (by omega)]
  · have c1 : k < lessT n s (pt n s m) m := by omega
    have c2 : ¬ k + 1 < lessT n s (pt n s m) m := by omega
    have c4 : ¬ k + 1 + 1 < lessT n s (pt n s m) m := by omega
    have c5 : ¬ k + 1 + 1 = lessT n s (pt n s m) m := by omega
    have c6 : k + 1 + 1 - 1 = k + 1 := by omega
    simp only [if_pos c1, if_neg c2, if_pos c, if_neg c4, if_neg c5, c6]
    omega
  · have hg := gapsT_getD n s hk 0
    rw [← hg]
    have e2 : lessT n s (pt n s m) m - 1 = k := by omega
    rw [e2] at hmax
    obtain ⟨a, b⟩ := kindsL_is (gapsT n s m)
    exact last_is a ((b _).2 (getD_mem' 0 (by rw [gapsT_length]; exact hk))) (fun x hx => hmax x ((b x).1 hx))
  · rw [if_neg (by omega), if_neg (by omega)]
    have e1 : k + 1 + 1 - 1 = k + 1 := by omega
    have e2 : k + 1 - 1 = k := by omega
    by_cases c2 : k + 1 = lessT n s (pt n s m) m
    · omega
    · rw [if_neg (by omega), if_neg c2, e1, e2]
end Go.Proofs.Ytokmmbmkfpfmgaa

set_option linter.unusedVariables false
namespace Go.Proofs.Ytokmmbmkfpfmgaa
open N
variable {n s : Int}

/-- the times in the order of their points -/
def ordT (n s : Int) (m : Nat) : List Int := (srt n s m).map (timeF n s)

theorem ordT_length (n s : Int) (m : Nat) : (ordT n s m).length = m := by rw [ordT, List.length_map, srt_length]

theorem ordT_at (ht : tok n s = true) {m : Nat} (hm : (m : Int) ≤ n) {i : Nat} (hi : i < m) :
    ∃ t : Nat, t < m ∧ (ordT n s m).getD i 0 = t ∧ pt n s t = (srt n s m).getD i n := by
  obtain ⟨t, h1, h2⟩ := srt_at (n := n) (s := s) hi n
  refine ⟨t, h1, ?_, h2⟩
  unfold ordT
  rw [List.getD_eq_getElem?_getD, List.getElem?_map, List.getElem?_eq_getElem (by rw [srt_length]; exact hi)]
  show timeF n s ((srt n s m)[i]'(by rw [srt_length]; exact hi)) = t
  rw [List.getD_eq_getElem?_getD, List.getElem?_eq_getElem (by rw [srt_length]; exact hi)] at h2
  exact timeF_of ht (by omega) (by omega) h2

theorem ordT_unique (ht : tok n s = true) {m : Nat} (hm : (m : Int) ≤ n) {i t : Nat} (hi : i < m) (htm : t < m) (e : pt n s t = (srt n s m).getD i n) : (ordT n s m).getD i 0 = t := by
  obtain ⟨t', h1, h2, h3⟩ := ordT_at ht hm hi
  have := (turns_of ht).inj t t' (by omega) (by omega) (by omega) (by omega) (by omega)
  omega

theorem ordT_zero (ht : tok n s = true) {m : Nat} (h1 : 1 ≤ m) (hm : (m : Int) ≤ n) : (ordT n s m).getD 0 0 = 0 :=
  ordT_unique ht hm (t := 0) (by omega) (by omega) (by rw [srt_zero (turns_of ht) h1 hm, Int.natCast_zero, pt0])

/-- each next one is the next time, and behind the last one 0 -/
theorem ordT_next (ht : tok n s = true) {m : Nat} (h1 : 1 ≤ m) (hm : (m : Int) ≤ n) {i : Nat} (hi : i < m) {b : Int} (hb : IsNext n s m ((ordT n s m).getD i 0) b) :
    b = if i + 1 < m then (ordT n s m).getD (i + 1) 0 else 0 := by
  obtain ⟨t, t1, t2, t3⟩ := ordT_at ht hm hi
  rw [t2] at hb
  rcases srt_next (turns_of ht) hm hi t1 t3 hb with ⟨e, e2⟩ | ⟨b1, b2, e2⟩
  · by_cases c : i + 1 < m
    · obtain ⟨k, k1, k2⟩ := srt_at (n := n) (s := s) c n
      have := pt_hi (n := n) s k (turns_of ht).n2
      omega
    · rw [if_neg c]; exact e
  · by_cases c : i + 1 < m
    · rw [if_pos c]
      obtain ⟨b, rfl⟩ := Int.eq_ofNat_of_zero_le (by omega : 0 ≤ b)
      exact (ordT_unique ht hm c (by omega) e2.symm).symm
    · rw [getD_ge n (by rw [srt_length]; omega)] at e2
      have := pt_hi (n := n) s b (turns_of ht).n2
      omega

theorem ordT_step (ht : tok n s = true) {m : Nat} (h2 : 2 ≤ m) (hm : (m : Int) ≤ n) {i : Nat} (hi : i < m) {p q : Int} (hp : IsMin n s m p) (hq : IsMax n s m q) :
    (if (ordT n s m).getD i 0 + p < m then (ordT n s m).getD i 0 + p else if 0 ≤ (ordT n s m).getD i 0 - q then (ordT n s m).getD i 0 - q else (ordT n s m).getD i 0 + p - q) = if i + 1 < m then (ordT n s m).getD (i + 1) 0 else 0 := by
  obtain ⟨t, t1, t2, t3⟩ := ordT_at ht hm hi
  exact ordT_next ht (by omega) hm hi (next_rule (turns_of ht) hm hp hq (by omega) (by omega)).1

theorem ordT_ne (ht : tok n s = true) {m : Nat} (hm : (m : Int) ≤ n) {i j : Nat} (hij : i < j) (hj : j < m) : (ordT n s m).getD i 0 ≠ (ordT n s m).getD j 0 := by
  obtain ⟨t, t1, t2, t3⟩ := ordT_at ht hm (by omega : i < m)
  obtain ⟨u, u1, u2, u3⟩ := ordT_at ht hm hj
  have := asc_getD (srt_asc (turns_of ht) hm) n hij (by rw [srt_length]; exact hj)
  intro e
  have : t = u := by omega
  subst this
  omega

/-- of all points the points in order are all numbers -/
theorem srt_all (ht : tok n s = true) {m : Nat} (hm : (m : Int) = n) : srt n s m = (List.range m).map fun i : Nat => (i : Int) := by
  refine asc_ext (srt_asc (turns_of ht) (by omega)) ?_ fun x => ?_
  · rw [List.pairwise_map]
    refine List.pairwise_iff_getElem.2 fun i j hi hj hij => ?_
    simp only [List.getElem_range]
    omega
  · rw [srt_mem, List.mem_map]
    constructor
    · rintro ⟨k, hk, rfl⟩
      have a := pt_lo (n := n) s k (turns_of ht).n2
      have b := pt_hi (n := n) s k (turns_of ht).n2
      exact ⟨(pt n s k).toNat, by simp; omega, by omega⟩
    · rintro ⟨k, hk, rfl⟩
      simp at hk
      have hb := timeF_bd ht (p := (k : Int)) (by omega) (by omega)
      have he := pointF_timeF ht (p := (k : Int)) (by omega) (by omega)
      rw [pointF_yes ht hb.1 hb.2] at he
      refine ⟨(timeF n s k).toNat, by omega, ?_⟩
      rw [Int.toNat_of_nonneg hb.1]
      exact he

theorem srt_all_getD (ht : tok n s = true) {m : Nat} (hm : (m : Int) = n) {i : Nat} (hi : i < m) (d : Int) : (srt n s m).getD i d = i := by
  rw [srt_all ht hm]; simp [hi]

/-- of all points the order is the points of the opposite turn -/
theorem ordT_all (ht : tok n s = true) {m : Nat} (hm : (m : Int) = n) : ordT n s m = ptsL n (invF n s) m := by
  unfold ordT ptsL
  rw [srt_all ht hm, List.map_map]
  refine List.map_congr_left fun k hk => ?_
  simp at hk
  show timeF n s k = _
  rw [timeF_yes ht (by omega) (by omega)]

/-- the place of a time: how many points are less -/
theorem place_at (ht : tok n s = true) {m t : Nat} (hm : (m : Int) ≤ n) (htm : t < m) : lessT n s (pt n s t) m < m ∧ (ordT n s m).getD (lessT n s (pt n s t) m) 0 = t ∧ pt n s t = (srt n s m).getD (lessT n s (pt n s t) m) n := by
  have h := turns_of ht
  obtain ⟨i, hi, e⟩ := mem_getD n (srt_mem.2 ⟨t, htm, rfl⟩ : pt n s t ∈ srt n s m)
  rw [srt_length] at hi
  have hle := lessT_le n s (pt n s t) m
  have key : lessT n s (pt n s t) m = i := by
    have a := less_iff h hm (pt n s t) hi n
    rw [e] at a
    by_cases c : lessT n s (pt n s t) m < i
    · have b := (less_iff h hm (pt n s t) (by omega : lessT n s (pt n s t) m < m) n).2 (by have := asc_getD (srt_asc h hm) n c (by rw [srt_length]; exact hi); omega)
      omega
    · omega
  rw [key]
  exact ⟨hi, ordT_unique ht hm hi htm e.symm, e.symm⟩

theorem place_all (ht : tok n s = true) {m t : Nat} (hm : (m : Int) = n) (htm : t < m) : ((lessT n s (pt n s t) m : Nat) : Int) = pt n s t := by
  obtain ⟨a, b, c⟩ := place_at ht (by omega) htm
  rw [srt_all_getD ht hm a] at c
  exact c.symm

theorem place_zero (ht : tok n s = true) {m : Nat} (h1 : 1 ≤ m) (hm : (m : Int) ≤ n) : lessT n s (pt n s ((0 : Nat) : Int)) m = 0 := by
  have h := turns_of ht
  have hle := lessT_le n s (pt n s ((0 : Nat) : Int)) m
  by_cases c : lessT n s (pt n s ((0 : Nat) : Int)) m = 0
  · exact c
  · have a := (less_iff h hm (pt n s ((0 : Nat) : Int)) (by omega : 0 < m) n).1 (by omega)
    rw [srt_zero h h1 hm, Int.natCast_zero, pt0] at a
    omega

/-- the order of one point more is the order, with the last time put in -/
theorem ordT_more (ht : tok n s = true) {m : Nat} (h1 : 1 ≤ m) (hm : (m : Int) < n) :
    ordT n s (m + 1) = (ordT n s m).take (lessT n s (pt n s m) m) ++ (m : Int) :: (ordT n s m).drop (lessT n s (pt n s m) m) := by
  have e : timeF n s (pt n s m) = m := timeF_of ht (by omega) (by omega) rfl
  unfold ordT
  rw [srt_more (turns_of ht) hm, List.map_append, List.map_cons, e, List.map_take, List.map_drop]

/-- the other way round the order stands mirrored, but for 0 -/
theorem ordT_back (ht : tok n s = true) {m : Nat} (h1 : 1 ≤ m) (hm : (m : Int) ≤ n) {i : Nat} (i1 : 1 ≤ i) (hi : i < m) : (ordT n (n - s) m).getD i 0 = (ordT n s m).getD (m - i) 0 := by
  have ht' : tok n (n - s) = true := tok_back.trans ht
  obtain ⟨t, t1, t2, t3⟩ := ordT_at ht hm (by omega : m - i < m)
  rw [t2]
  refine ordT_unique ht' hm hi t1 ?_
  rw [srt_back ht h1 hm i (by omega), ← t3]
  have t0 : t ≠ 0 := by
    rintro rfl
    have a := asc_getD (srt_asc (turns_of ht) hm) n (by omega : 0 < m - i) (by rw [srt_length]; omega)
    rw [srt_zero (turns_of ht) h1 hm, ← t3, Int.natCast_zero, pt0] at a
    omega
  have e := back_points ht (k := (t : Int)) (by omega) (by omega)
  rw [pointF_yes ht (by omega) (by omega), pointF_yes ht' (by omega) (by omega)] at e
  unfold pt
  omega
end Go.Proofs.Ytokmmbmkfpfmgaa

set_option linter.unusedVariables false
namespace Go.Proofs.Ytokmmbmkfpfmgaa
open N

/-- how many pairs stand the other way round -/
def invL : List Int → Nat
  | [] => 0
  | x :: r => r.countP (fun y => decide (y < x)) + invL r

theorem invL_snoc (xs : List Int) (x : Int) : invL (xs ++ [x]) = invL xs + xs.countP (fun y => decide (x < y)) := by
  induction xs with
  | nil => simp [invL]
  | cons y r ih =>
    show ((r ++ [x]).countP (fun z => decide (z < y)) + invL (r ++ [x])) = (r.countP (fun z => decide (z < y)) + invL r) + (y :: r).countP (fun z => decide (x < z))
    rw [ih, List.countP_append, List.countP_cons, List.countP_cons, List.countP_nil]
    by_cases c : x < y
    · rw [if_pos (by simpa using c)]; omega
    · rw [if_neg (by simpa using c)]; omega

theorem count_both (xs : List Int) (x : Int) (h : x ∉ xs) : xs.countP (fun y => decide (x < y)) + xs.countP (fun y => decide (y < x)) = xs.length := by
  induction xs with
  | nil => rfl
  | cons y r ih =>
    have hy : x ≠ y := fun e => h (by simp [e])
    have := ih (fun hr => h (by simp [hr]))
    rw [List.countP_cons, List.countP_cons, List.length_cons]
    by_cases c : x < y
    · rw [if_pos (by simpa using c), if_neg (by simp; omega)]; omega
    · rw [if_neg (by simpa using c), if_pos (by simp; omega)]; omega

theorem sq_succ (L : Nat) : (L + 1) * (L + 1) = L * L + 2 * L + 1 := by
  rw [Nat.add_mul, Nat.mul_add]
  omega

theorem inv_both (xs : List Int) (h : xs.Nodup) : 2 * (invL xs + invL xs.reverse) + xs.length = xs.length * xs.length := by
  induction xs with
  | nil => rfl
  | cons x r ih =>
    rw [List.nodup_cons] at h
    have i := ih h.2
    rw [List.reverse_cons, invL_snoc, List.length_cons]
    show 2 * ((r.countP (fun y => decide (y < x)) + invL r) + (invL r.reverse + r.reverse.countP (fun y => decide (x < y)))) + (r.length + 1) = _
    rw [(List.reverse_perm r).countP_eq]
    have c := count_both r x h.1
    rw [sq_succ]
    omega

theorem inv_le (xs : List Int) : invL xs ≤ xs.length * xs.length := by
  induction xs with
  | nil => simp [invL]
  | cons x r ih =>
    have := List.countP_le_length (p := fun y => decide (y < x)) (l := r)
    show r.countP (fun y => decide (y < x)) + invL r ≤ (r.length + 1) * (r.length + 1)
    rw [sq_succ]
    omega

theorem inv_zero_cons {r : List Int} (h : ∀ y ∈ r, 0 ≤ y) : invL (0 :: r) = invL r := by
  show r.countP (fun y => decide (y < 0)) + invL r = invL r
  rw [List.countP_eq_zero.2 (fun y hy => by have := h y hy; simp; omega)]
  omega

variable {n s : Int}

theorem list_ext_getD {xs ys : List Int} (hl : xs.length = ys.length) (h : ∀ i, i < xs.length → xs.getD i 0 = ys.getD i 0) : xs = ys := by
  refine List.ext_getElem hl fun i h1 h2 => ?_
  have := h i h1
  rw [List.getD_eq_getElem?_getD, List.getD_eq_getElem?_getD, List.getElem?_eq_getElem h1, List.getElem?_eq_getElem h2] at this
  exact this

theorem ordT_cons (ht : tok n s = true) {m : Nat} (h1 : 1 ≤ m) (hm : (m : Int) ≤ n) : ordT n s m = 0 :: (ordT n s m).tail := by
  have hl := ordT_length n s m
  have h0 := ordT_zero ht h1 hm
  cases e : ordT n s m with
  | nil => rw [e] at hl; simp at hl; omega
  | cons x r => rw [e] at h0; simp at h0; rw [h0]; rfl

theorem ordT_tail_back (ht : tok n s = true) {m : Nat} (h1 : 1 ≤ m) (hm : (m : Int) ≤ n) : (ordT n (n - s) m).tail = (ordT n s m).tail.reverse := by
  have hl := ordT_length n s m
  have hl' := ordT_length n (n - s) m
  refine list_ext_getD (by simp [hl, hl']) fun i hi => ?_
  rw [List.length_tail, hl'] at hi
  have e1 : (ordT n (n - s) m).tail.getD i 0 = (ordT n (n - s) m).getD (i + 1) 0 := by
    rw [List.getD_eq_getElem?_getD, List.getElem?_tail, List.getD_eq_getElem?_getD]
  rw [e1, ordT_back ht h1 hm (by omega) (by omega), List.getD_eq_getElem?_getD, List.getD_eq_getElem?_getD, List.getElem?_reverse (by rw [List.length_tail, hl]; omega), List.getElem?_tail, List.length_tail, hl]
  congr 2
  omega

theorem ordT_nodup (ht : tok n s = true) {m : Nat} (hm : (m : Int) ≤ n) : (ordT n s m).Nodup := by
  rw [List.nodup_iff_pairwise_ne, List.pairwise_iff_getElem]
  intro i j hi hj hij
  rw [ordT_length] at hi hj
  have := ordT_ne ht hm hij hj
  rw [List.getD_eq_getElem?_getD, List.getD_eq_getElem?_getD, List.getElem?_eq_getElem (by rw [ordT_length]; exact hi), List.getElem?_eq_getElem (by rw [ordT_length]; exact hj)] at this
  exact this

theorem ordT_bd (ht : tok n s = true) {m : Nat} (hm : (m : Int) ≤ n) : ∀ y ∈ ordT n s m, 0 ≤ y ∧ y < m := by
  intro y hy
  obtain ⟨i, hi, e⟩ := mem_getD 0 hy
  rw [ordT_length] at hi
  obtain ⟨t, t1, t2, _⟩ := ordT_at ht hm hi
  omega

theorem inv_orders (ht : tok n s = true) {m : Nat} (h1 : 1 ≤ m) (hm : (m : Int) ≤ n) : 2 * (invL (ordT n s m) + invL (ordT n (n - s) m)) + (m - 1) = (m - 1) * (m - 1) := by
  have ht' : tok n (n - s) = true := tok_back.trans ht
  have e1 := ordT_cons ht h1 hm
  have e2 := ordT_cons ht' h1 hm
  have b1 := ordT_bd ht hm
  have b2 := ordT_bd ht' hm
  have nd := ordT_nodup ht hm
  have i1 : invL (ordT n s m) = invL (ordT n s m).tail := by
    rw [e1]; exact inv_zero_cons fun y hy => (b1 y (by rw [e1]; exact List.mem_cons_of_mem _ hy)).1
  have i2 : invL (ordT n (n - s) m) = invL (ordT n (n - s) m).tail := by
    rw [e2]; exact inv_zero_cons fun y hy => (b2 y (by rw [e2]; exact List.mem_cons_of_mem _ hy)).1
  rw [i1, i2, ordT_tail_back ht h1 hm]
  have nd2 : (ordT n s m).tail.Nodup := by rw [e1, List.nodup_cons] at nd; exact nd.2
  have := inv_both _ nd2
  rwa [List.length_tail, ordT_length] at this

/-- from a number to the next one -/
def ruleBy (m u d x : Int) : Int := if x + u < m then x + u else if 0 ≤ x - d then x - d else x + u - d

def nowBy (m u d : Int) : Nat → Int
  | 0 => 0
  | k + 1 => ruleBy m u d (nowBy m u d k)

def goodBy (m u d : Int) : Prop := (∀ k : Nat, k < m.toNat → 0 ≤ nowBy m u d k ∧ nowBy m u d k < m ∧ ∀ j : Nat, j < k → nowBy m u d j ≠ nowBy m u d k) ∧ nowBy m u d m.toNat = 0

def listBy (m u d : Int) (k : Nat) : List Int := (List.range k).map (nowBy m u d)

theorem listBy_succ (m u d : Int) (k : Nat) : listBy m u d (k + 1) = listBy m u d k ++ [nowBy m u d k] := by
  unfold listBy; rw [List.range_succ, List.map_append]; rfl

theorem listBy_len (m u d : Int) (k : Nat) : (listBy m u d k).length = k := by simp [listBy]

theorem listBy_getD (m u d : Int) {k i : Nat} (h : i < k) : (listBy m u d k).getD i 0 = nowBy m u d i := by
  simp [listBy, h]

def okBy (m u d : Int) : Prop := 1 ≤ m ∧ m ≤ 60 ∧ 1 ≤ u ∧ u ≤ 60 ∧ 1 ≤ d ∧ d ≤ 60 ∧ goodBy m u d
open Classical in
noncomputable def orderByF (m u d : Int) : List Int × Bool := if okBy m u d then (listBy m u d m.toNat, true) else ([], false)

theorem orderByF_yes {m u d : Int} (h : okBy m u d) : orderByF m u d = (listBy m u d m.toNat, true) := by unfold orderByF; rw [if_pos h]

theorem orderByF_no {m u d : Int} (h : ¬ okBy m u d) : orderByF m u d = ([], false) := by unfold orderByF; rw [if_neg h]

/-- the order of a turn is told by the times of its nearest points -/
theorem by_turn (ht : tok n s = true) {m : Nat} (h2 : 2 ≤ m) (hm : (m : Int) ≤ n) : okBy m (nearA n s m) (nearB n s m) ∧ listBy m (nearA n s m) (nearB n s m) m = ordT n s m := by
  have hb := tok_bd ht
  have hp := nearA_is ht (by omega : (2 : Int) ≤ m) hm
  have hq := nearB_is ht (by omega : (2 : Int) ≤ m) hm
  generalize nearA n s m = p at *
  generalize nearB n s m = q at *
  have key : ∀ k, k ≤ m → nowBy m p q k = if k < m then (ordT n s m).getD k 0 else 0 := by
    intro k
    induction k with
    | zero => intro _; rw [if_pos (by omega), ordT_zero ht (by omega) hm]; rfl
    | succ k ih =>
      intro hk
      rw [nowBy, ih (by omega), if_pos (by omega)]
      exact ordT_step ht h2 hm (by omega) hp hq
  have hl : listBy m p q m = ordT n s m := by
    refine list_ext_getD (by rw [listBy_len, ordT_length]) fun i hi => ?_
    rw [listBy_len] at hi
    rw [listBy_getD _ _ _ hi, key i (by omega), if_pos hi]
  refine ⟨⟨by omega, by omega, hp.1, by have := hp.2.1; omega, hq.1, by have := hq.2.1; omega, fun k hk => ?_, ?_⟩, hl⟩
  · rw [Int.toNat_natCast] at hk
    rw [key k (by omega), if_pos hk]
    obtain ⟨t, t1, t2, _⟩ := ordT_at ht hm hk
    refine ⟨by omega, by omega, fun j hj => ?_⟩
    rw [key j (by omega), if_pos (by omega)]
    exact ordT_ne ht hm hj hk
  · rw [Int.toNat_natCast, key m (Nat.le_refl _), if_neg (by omega)]

theorem nodup_le (m : Nat) : ∀ xs : List Nat, xs.Nodup → (∀ x ∈ xs, x < m) → xs.length ≤ m := by
  induction m with
  | zero =>
    intro xs _ h
    cases xs with
    | nil => simp
    | cons x r => have := h x (by simp); omega
  | succ m ih =>
    intro xs hn h
    have h2 := ih (xs.erase m) (hn.erase m) (fun x hx => by
      have := (hn.mem_erase_iff).1 hx
      have := h x this.2
      omega)
    by_cases c : m ∈ xs
    · rw [List.length_erase_of_mem c] at h2; omega
    · rw [List.erase_of_not_mem c] at h2; omega

/-- so many different numbers that are less are all of them -/
theorem pigeon (f : Nat → Nat) (m : Nat) (h : ∀ k, k < m → f k < m) (hd : ∀ j k, j < k → k < m → f j ≠ f k) : ∀ x, x < m → ∃ k, k < m ∧ f k = x := by
  have hn : ((List.range m).map f).Nodup := by
    rw [List.nodup_iff_pairwise_ne, List.pairwise_map, List.pairwise_iff_getElem]
    intro i j hi hj hij
    simp at hi hj ⊢
    exact hd i j hij hj
  intro x hx
  by_cases c : x ∈ (List.range m).map f
  · simpa using c
  · exfalso
    have hlt : ∀ y ∈ x :: (List.range m).map f, y < m := by
      intro y hy
      rcases List.mem_cons.1 hy with rfl | hy
      · exact hx
      · simp at hy
        obtain ⟨k, hk, rfl⟩ := hy
        exact h k hk
    have := nodup_le m (x :: (List.range m).map f) (List.nodup_cons.2 ⟨c, hn⟩) hlt
    rw [List.length_cons, List.length_map, List.length_range] at this
    omega
end Go.Proofs.Ytokmmbmkfpfmgaa

set_option linter.unusedVariables false
namespace Go.Proofs.Ytokmmbmkfpfmgaa
variable {m u d : Int}

theorem rule_inv (hm : m ≤ u + d) {x : Int} (x0 : 0 ≤ x) (x1 : x < m) : ruleBy m d u (ruleBy m u d x) = x := by
  unfold ruleBy
  by_cases c1 : x + u < m
  · rw [if_pos c1, if_neg (by omega), if_pos (by omega)]; omega
  · rw [if_neg c1]
    by_cases c2 : 0 ≤ x - d
    · rw [if_pos c2, if_pos (by omega)]; omega
    · rw [if_neg c2, if_neg (by omega), if_neg (by omega)]; omega

theorem by_all (h : okBy m u d) : ∀ x : Int, 0 ≤ x → x < m → ∃ k : Nat, k < m.toNat ∧ nowBy m u d k = x := by
  intro x x0 x1
  obtain ⟨_, _, _, _, _, _, g, _⟩ := h
  obtain ⟨k, hk, e⟩ := pigeon (fun k => (nowBy m u d k).toNat) m.toNat (fun k hk => by have := g k hk; show (nowBy m u d k).toNat < _; omega)
    (fun j k hjk hk => by
      have a := g k hk
      have b := g j (by omega)
      have c := a.2.2 j hjk
      show (nowBy m u d j).toNat ≠ (nowBy m u d k).toNat
      omega) x.toNat (by omega)
  have a := g k hk
  have e' : (nowBy m u d k).toNat = x.toNat := e
  exact ⟨k, hk, by omega⟩

theorem by_inj (h : okBy m u d) {x y : Int} (x0 : 0 ≤ x) (x1 : x < m) (y0 : 0 ≤ y) (y1 : y < m) (e : ruleBy m u d x = ruleBy m u d y) : x = y := by
  have hall := by_all h
  obtain ⟨h1, _, _, _, _, _, g, g0⟩ := h
  obtain ⟨j, hj, rfl⟩ := hall x x0 x1
  obtain ⟨k, hk, rfl⟩ := hall y y0 y1
  have e' : nowBy m u d (j + 1) = nowBy m u d (k + 1) := e
  have key : ∀ j k : Nat, j < k → k < m.toNat → nowBy m u d (j + 1) ≠ nowBy m u d (k + 1) := by
    intro j k hjk hk e
    by_cases c : k + 1 < m.toNat
    · exact (g (k + 1) c).2.2 (j + 1) (by omega) e
    · have : k + 1 = m.toNat := by omega
      rw [this, g0] at e
      have := (g (j + 1) (by omega)).2.2 0 (by omega)
      exact this e.symm
  rcases Nat.lt_trichotomy j k with c | c | c
  · exact absurd e' (key j k c hk)
  · rw [c]
  · exact absurd e'.symm (key k j c hj)

theorem by_sum (h : okBy m u d) : m ≤ u + d := by
  have hi := @by_inj m u d h
  obtain ⟨h1, _, u1, _, d1, _, _, _⟩ := h
  by_cases c : m ≤ u + d
  · exact c
  · exfalso
    by_cases c2 : u ≤ m - u - d
    · have := hi (x := m - u - d - u) (y := m - u) (by omega) (by omega) (by omega) (by omega) (by
        unfold ruleBy
        rw [if_pos (by omega), if_neg (by omega), if_pos (by omega)]
        omega)
      omega
    · have := hi (x := 0) (y := u + d) (by omega) (by omega) (by omega) (by omega) (by
        unfold ruleBy
        rw [if_pos (by omega), if_neg (by omega), if_pos (by omega)]
        omega)
      omega

/-- the other way round -/
theorem by_back (h : okBy m u d) : okBy m d u ∧ ∀ k : Nat, 1 ≤ k → k ≤ m.toNat → nowBy m d u k = nowBy m u d (m.toNat - k) := by
  have hs := by_sum h
  obtain ⟨h1, h60, u1, u60, d1, d60, g, g0⟩ := h
  have key : ∀ k : Nat, 1 ≤ k → k ≤ m.toNat → nowBy m d u k = nowBy m u d (m.toNat - k) := by
    intro k
    induction k with
    | zero => intro h; omega
    | succ k ih =>
      intro _ hk
      have a := g (m.toNat - (k + 1)) (by omega)
      have e : ruleBy m u d (nowBy m u d (m.toNat - (k + 1))) = nowBy m d u k := by
        show nowBy m u d (m.toNat - (k + 1) + 1) = _
        rw [show m.toNat - (k + 1) + 1 = m.toNat - k by omega]
        by_cases c : k = 0
        · subst c; rw [Nat.sub_zero, g0]; rfl
        · exact (ih (by omega) (by omega)).symm
      show ruleBy m d u (nowBy m d u k) = _
      rw [← e]
      exact rule_inv hs a.1 a.2.1
  refine ⟨⟨h1, h60, d1, d60, u1, u60, fun k hk => ?_, ?_⟩, key⟩
  · by_cases c : k = 0
    · subst c
      exact ⟨Int.le_refl _, by show (0 : Int) < m; omega, fun j hj => by omega⟩
    · rw [key k (by omega) (by omega)]
      have a := g (m.toNat - k) (by omega)
      refine ⟨a.1, a.2.1, fun j hj => ?_⟩
      by_cases c2 : j = 0
      · subst c2
        exact (a.2.2 0 (by omega))
      · rw [key j (by omega) (by omega)]
        exact ((g (m.toNat - j) (by omega)).2.2 (m.toNat - k) (by omega)).symm
  · rw [key m.toNat (by omega) (Nat.le_refl _), Nat.sub_self]; rfl
end Go.Proofs.Ytokmmbmkfpfmgaa
