/- Plain lists: a further point parts a greatest gap, and all others are as before. -/
import Derived.Test.YtkhnnbgmckeoaaaThree2
set_option linter.unusedVariables false
namespace Go.Proofs.Ytkhnnbgmckeoaaa
open N

/-- how many of the first so many points are less than a number -/
def lessT (n s P : Int) (k : Nat) : Nat := (List.range k).countP fun i : Nat => decide (pt n s i < P)

theorem lessT_zero (n s P : Int) : lessT n s P 0 = 0 := rfl

theorem lessT_yes {n s P : Int} {k : Nat} (h : pt n s k < P) : lessT n s P (k + 1) = lessT n s P k + 1 := by
  unfold lessT; rw [List.range_succ, List.countP_append]; simp [h]

theorem lessT_no {n s P : Int} {k : Nat} (h : ¬ pt n s k < P) : lessT n s P (k + 1) = lessT n s P k := by
  unfold lessT; rw [List.range_succ, List.countP_append]; simp [h]

theorem lessT_le (n s P : Int) (k : Nat) : lessT n s P k ≤ k := by
  unfold lessT
  have := List.countP_le_length (p := fun i : Nat => decide (pt n s i < P)) (l := List.range k)
  rwa [List.length_range] at this

theorem countP_asc {S : List Int} (h : S.Pairwise (· < ·)) (P : Int) : ∀ i, i < S.length → (i < S.countP (fun x => decide (x < P)) ↔ S.getD i 0 < P) := by
  induction S with
  | nil => intro i hi; simp at hi
  | cons x r ih =>
    rw [List.pairwise_cons] at h
    intro i hi
    rw [List.countP_cons]
    by_cases hx : x < P
    · rw [if_pos (by simpa using hx)]
      cases i with
      | zero => simp [hx]
      | succ i =>
        have := ih h.2 i (by simpa using hi)
        simp only [List.getD_cons_succ]
        rw [← this]
        omega
    · rw [if_neg (by simpa using hx)]
      have h0 : r.countP (fun x => decide (x < P)) = 0 := by
        rw [List.countP_eq_zero]
        intro y hy
        have := h.1 y hy
        simp; omega
      rw [h0]
      cases i with
      | zero => simp; omega
      | succ i =>
        simp only [List.getD_cons_succ]
        have hm : r.getD i 0 ∈ r := getD_mem' 0 (by simpa using hi)
        have := h.1 _ hm
        omega

theorem lessT_srt {n s : Int} (h : Turns n s) {m : Nat} (hm : (m : Int) ≤ n) (P : Int) : (srt n s m).countP (fun x => decide (x < P)) = lessT n s P m := by
  unfold srt
  rw [(isort_perm _).countP_eq, ptsL, List.countP_map]
  rfl

theorem less_iff {n s : Int} (h : Turns n s) {m : Nat} (hm : (m : Int) ≤ n) (P : Int) {i : Nat} (hi : i < m) (d : Int) : i < lessT n s P m ↔ (srt n s m).getD i d < P := by
  rw [← lessT_srt h hm, countP_asc (srt_asc h hm) P i (by rw [srt_length]; exact hi), srt_d hi d 0]

/-- the points with one more -/
theorem srt_more {n s : Int} (h : Turns n s) {m : Nat} (hm : (m : Int) < n) : srt n s (m + 1) = (srt n s m).take (lessT n s (pt n s m) m) ++ pt n s m :: (srt n s m).drop (lessT n s (pt n s m) m) := by
  have e : srt n s (m + 1) = ins (pt n s m) (srt n s m) := by
    unfold srt
    rw [ptsL_succ]
    exact isort_snoc _ _
  have hl := srt_length n s m
  have hj := lessT_le n s (pt n s m) m
  rw [e]
  have hb := ins_below (pt n s m) ((srt n s m).take (lessT n s (pt n s m) m)) ((srt n s m).drop (lessT n s (pt n s m) m)) ?_ ?_
  · rwa [List.take_append_drop] at hb
  · intro x hx
    obtain ⟨i, hi, rfl⟩ := mem_getD 0 hx
    rw [List.length_take] at hi
    have := (less_iff (m := m) h (by omega) (pt n s m) (by omega : i < m) 0).1 (by omega)
    rw [List.getD_eq_getElem?_getD, List.getElem?_take_of_lt (by omega), ← List.getD_eq_getElem?_getD]
    exact this
  · intro y hy
    rw [List.head?_drop] at hy
    by_cases hjm : lessT n s (pt n s m) m < m
    · have c : ¬ (srt n s m).getD (lessT n s (pt n s m) m) 0 < pt n s m := fun c => by
        have := (less_iff (m := m) h (by omega) (pt n s m) hjm 0).2 c
        omega
      rw [List.getD_eq_getElem?_getD] at c
      rw [Option.mem_def] at hy
      rw [hy] at c
      simp at c
      omega
    · rw [List.getElem?_eq_none (by omega)] at hy
      simp at hy

theorem more_getD {S : List Int} {m j : Nat} (hl : S.length = m) (hj : j ≤ m) (P d : Int) (i : Nat) : (S.take j ++ P :: S.drop j).getD i d = if i < j then S.getD i d else if i = j then P else S.getD (i - 1) d := by
  rw [List.getD_eq_getElem?_getD]
  by_cases h : i < j
  · rw [if_pos h, List.getElem?_append_left (by rw [List.length_take]; omega), List.getElem?_take_of_lt h, List.getD_eq_getElem?_getD]
  · rw [if_neg h, List.getElem?_append_right (by rw [List.length_take]; omega)]
    have hl : (S.take j).length = j := by rw [List.length_take]; omega
    rw [hl]
    by_cases h3 : i = j
    · rw [if_pos h3]; subst h3; simp
    · rw [if_neg h3]
      obtain ⟨k, rfl⟩ : ∃ k, i = j + k + 1 := ⟨i - j - 1, by omega⟩
      have e1 : j + k + 1 - j = k + 1 := by omega
      rw [e1, List.getElem?_cons_succ, List.getElem?_drop, List.getD_eq_getElem?_getD]
      rfl

/-- the nearest point below the new one -/
theorem pred_is {n s : Int} (h : Turns n s) {m t : Nat} (hm : (m : Int) < n) (ht : t < m) (h1 : pt n s t < pt n s m) (h2 : ∀ k : Nat, k < m → pt n s k < pt n s m → pt n s k ≤ pt n s t) :
    1 ≤ lessT n s (pt n s m) m ∧ pt n s t = (srt n s m).getD (lessT n s (pt n s m) m - 1) n := by
  have hj := lessT_le n s (pt n s m) m
  obtain ⟨i, hi, e⟩ := mem_getD n (srt_mem.2 ⟨t, ht, rfl⟩ : pt n s t ∈ srt n s m)
  rw [srt_length] at hi
  have hij := (less_iff (m := m) h (by omega) (pt n s m) hi n).2 (by omega)
  refine ⟨by omega, ?_⟩
  obtain ⟨k, hk, ek⟩ := srt_at (n := n) (s := s) (by omega : lessT n s (pt n s m) m - 1 < m) n
  have hlt := (less_iff (m := m) h (by omega) (pt n s m) (by omega : lessT n s (pt n s m) m - 1 < m) n).1 (by omega)
  have a := h2 k hk (by omega)
  by_cases c : i = lessT n s (pt n s m) m - 1
  · rw [← c, e]
  · have b := asc_getD (srt_asc (m := m) h (by omega)) n (by omega : i < lessT n s (pt n s m) m - 1) (by rw [srt_length]; omega)
    omega

theorem next_pred {n s : Int} {m : Nat} {t : Int} (h : IsNext n s (m + 1) t m) (hm : 1 ≤ m) : pt n s t < pt n s m ∧ ∀ k : Nat, k < m → pt n s k < pt n s m → pt n s k ≤ pt n s t := by
  rcases h with ⟨e, _⟩ | ⟨_, _, h1, h2⟩
  · omega
  · refine ⟨h1, fun k hk hlt => ?_⟩
    by_cases c : pt n s t < pt n s k
    · have := h2 k (by omega) (by omega) c
      omega
    · omega

/-- what is parted is a greatest gap -/
theorem parts_greatest {n s : Int} (ht : tok n s = true) {m : Nat} (h1 : 1 ≤ m) (hm : (m : Int) < n) :
    1 ≤ lessT n s (pt n s m) m ∧ ∀ x ∈ gapsT n s m, x ≤ (gapsT n s m).getD (lessT n s (pt n s m) m - 1) 0 := by
  have h := turns_of ht
  have hj := lessT_le n s (pt n s m) m
  by_cases hm1 : m = 1
  · subst hm1
    have hp := h.pos (k := 1) (by omega) (by omega)
    have hl : lessT n s (pt n s (1 : Nat)) 1 = 1 := by
      rw [lessT_yes (k := 0) (by rw [Int.natCast_zero, pt0]; exact hp), lessT_zero]
    rw [hl, gaps_one h]
    simp
  · have hp := nearA_is ht (by omega : (2 : Int) ≤ m) (by omega)
    have hq := nearB_is ht (by omega : (2 : Int) ≤ m) (by omega)
    generalize nearA n s m = p at *
    generalize nearB n s m = q at *
    have hs := near_sum h (by omega) hp hq
    have hstep := near_step h hm (by omega) hp hq
    have hp' := hp
    have hq' := hq
    obtain ⟨p1, p2, p3⟩ := hp'
    obtain ⟨q1, q2, q3⟩ := hq'
    have pp := h.pos (k := p) p1 (by omega)
    have qp := h.pos (k := q) q1 (by omega)
    have pn := pt_hi (n := n) s p h.n2
    have qn := pt_hi (n := n) s q h.n2
    have mn := pt_hi (n := n) s m h.n2
    have mp := h.pos (k := (m : Int)) (by omega) hm
    -- all gaps are told by times
    have all : ∀ x ∈ gapsT n s m, ∃ t : Nat, t < m ∧ x = gapAt m p q (pt n s p) (n - pt n s q) t := by
      intro x hx
      rw [(gaps_perm ht (by omega) hp hq).mem_iff, List.mem_map] at hx
      obtain ⟨t, h1, rfl⟩ := hx
      exact ⟨t, by simpa using h1, rfl⟩
    have fin : ∀ t : Nat, t < m → pt n s t < pt n s m → (∀ k : Nat, k < m → pt n s k < pt n s m → pt n s k ≤ pt n s t) → (∀ t' : Nat, t' < m → gapAt m p q (pt n s p) (n - pt n s q) t' ≤ gapAt m p q (pt n s p) (n - pt n s q) t) →
        1 ≤ lessT n s (pt n s m) m ∧ ∀ x ∈ gapsT n s m, x ≤ (gapsT n s m).getD (lessT n s (pt n s m) m - 1) 0 := by
      intro t ht1 h1 h2 h3
      obtain ⟨a, b⟩ := pred_is h hm ht1 h1 h2
      refine ⟨a, fun x hx => ?_⟩
      obtain ⟨t', ht', rfl⟩ := all x hx
      rw [gapsT_getD n s (by omega), gap_at h (by omega) hp hq (by omega) ht1 b]
      exact h3 t' ht'
    by_cases hpq : (m : Int) = p + q
    · rcases pt_add s p q h.n2 with ⟨c1, c2⟩ | ⟨c1, c2⟩
      · -- the new point is the greatest
        rw [← hpq] at c2
        obtain ⟨qq, rfl⟩ := Int.eq_ofNat_of_zero_le (by omega : 0 ≤ q)
        refine fin qq (by omega) (by omega) (fun k hk _ => q3 k (by omega) (by omega)) (fun t' ht' => ?_)
        unfold gapAt
        rw [if_neg (by omega : ¬ (qq : Int) + p < m), if_pos (by omega : (0 : Int) ≤ qq - qq)]
        split
        · omega
        · split <;> omega
      · rw [← hpq] at c2
        refine fin 0 (by omega) (by rw [Int.natCast_zero, pt0]; exact mp) (fun k hk hlt => ?_) (fun t' ht' => ?_)
        · rw [Int.natCast_zero, pt0]
          by_cases hk0 : k = 0
          · subst hk0; rw [Int.natCast_zero, pt0]; omega
          · have := p3 k (by omega) (by omega)
            omega
        · unfold gapAt
          rw [if_pos (by omega : ((0 : Nat) : Int) + p < m)]
          split
          · omega
          · split <;> omega
    · rcases hstep with ⟨a, b⟩ | ⟨a, _⟩ | ⟨a, _⟩
      · obtain ⟨r1, _⟩ := next_rule h (m := (m : Int) + 1) (by omega) a b (t := (m : Int) - p) (by omega) (by omega)
        rw [if_pos (by omega : (m : Int) - p + p < m + 1), Int.sub_add_cancel] at r1
        obtain ⟨u1, u2⟩ := next_pred r1 h1
        obtain ⟨t, ht1⟩ := Int.eq_ofNat_of_zero_le (by omega : 0 ≤ (m : Int) - p)
        rw [ht1] at u1 u2
        refine fin t (by omega) u1 u2 (fun t' ht' => ?_)
        unfold gapAt
        rw [if_neg (by omega : ¬ (t : Int) + p < m), if_neg (by omega : ¬ (0 : Int) ≤ t - q)]
        split
        · omega
        · split <;> omega
      · omega
      · omega

theorem last_is {ks : List Int} (h : ks.Pairwise (· < ·)) {v : Int} (hv : v ∈ ks) (hmax : ∀ x ∈ ks, x ≤ v) : ks.getD (ks.length - 1) 0 = v := by
  obtain ⟨i, hi, e⟩ := mem_getD 0 hv
  by_cases c : i = ks.length - 1
  · rw [← c]; exact e
  · have a := asc_getD h 0 (by omega : i < ks.length - 1) (by omega)
    have b := hmax _ (getD_mem' (xs := ks) 0 (i := ks.length - 1) (by omega))
    omega

theorem parted {n s : Int} (ht : tok n s = true) {m : Nat} (h1 : 1 ≤ m) (hm : (m : Int) < n) {k : Nat} (hk : k < m) :
    (k + 1 < lessT n s (pt n s m) m → (gapsT n s (m + 1)).getD k 0 = (gapsT n s m).getD k 0) ∧
    (k + 1 = lessT n s (pt n s m) m → (gapsT n s (m + 1)).getD k 0 + (gapsT n s (m + 1)).getD (k + 1) 0 = (gapsT n s m).getD k 0 ∧ (kindsL (gapsT n s m)).getD ((kindsL (gapsT n s m)).length - 1) 0 = (gapsT n s m).getD k 0) ∧
    (lessT n s (pt n s m) m < k + 1 → (gapsT n s (m + 1)).getD (k + 1) 0 = (gapsT n s m).getD k 0) := by
  have h := turns_of ht
  have hj := lessT_le n s (pt n s m) m
  have hl := srt_length n s m
  have e := fun i => more_getD hl hj (pt n s m) n i
  rw [← srt_more h hm] at e
  obtain ⟨j1, hmax⟩ := parts_greatest ht h1 hm
  rw [gapsT_getD n s (m := m + 1) (i := k) (by omega), gapsT_getD n s (m := m + 1) (i := k + 1) (by omega), gapsT_getD n s (m := m) hk, e k, e (k + 1), e (k + 1 + 1)]
  refine ⟨fun c => ?_, fun c => ⟨?_, ?_⟩, fun c => ?_⟩
  · rw [if_pos (by omega), if_pos (by omega)]
  · have c1 : k < lessT n s (pt n s m) m := by omega
    have c2 : ¬ k + 1 < lessT n s (pt n s m) m := by omega
    have c4 : ¬ k + 1 + 1 < lessT n s (pt n s m) m := by omega
    have c5 : ¬ k + 1 + 1 = lessT n s (pt n s m) m := by omega
    have c6 : k + 1 + 1 - 1 = k + 1 := by omega
    simp only [if_pos c1, if_neg c2, if_pos c, if_neg c4, if_neg c5, c6]
    omega
  · have hg := gapsT_getD n s hk 0
    rw [← hg]
    have e2 : lessT n s (pt n s m) m - 1 = k := by omega
    rw [e2] at hmax
    obtain ⟨a, b⟩ := kindsL_is (gapsT n s m)
    exact last_is a ((b _).2 (getD_mem' 0 (by rw [gapsT_length]; exact hk))) (fun x hx => hmax x ((b x).1 hx))
  · rw [if_neg (by omega), if_neg (by omega)]
    have e1 : k + 1 + 1 - 1 = k + 1 := by omega
    have e2 : k + 1 - 1 = k := by omega
    by_cases c2 : k + 1 = lessT n s (pt n s m) m
    · omega
    · rw [if_neg (by omega), if_neg c2, e1, e2]
end Go.Proofs.Ytkhnnbgmckeoaaa
