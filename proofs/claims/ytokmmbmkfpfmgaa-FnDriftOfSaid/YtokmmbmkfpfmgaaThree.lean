/- Plain lists: the gaps between the first points are of three lengths at most, told by two times; the other way round; and a further point. -/
import Derived.Test.YtokmmbmkfpfmgaaGMath
import Derived.Test.YtokmmbmkfpfmgaaGList
set_option linter.unusedVariables false
namespace Go.Proofs.Ytokmmbmkfpfmgaa
set_option maxRecDepth 4000
open N

theorem ptsL_mem {n s : Int} {m : Nat} {x : Int} : x ∈ ptsL n s m ↔ ∃ k : Nat, k < m ∧ pt n s k = x := by
  simp [ptsL, pt]

theorem ptsL_nodup {n s : Int} (h : Turns n s) {m : Nat} (hm : (m : Int) ≤ n) : (ptsL n s m).Nodup := by
  unfold ptsL
  rw [List.nodup_iff_pairwise_ne, List.pairwise_map]
  refine (List.pairwise_iff_getElem.2 fun i j hi hj hij => ?_)
  simp at hi hj ⊢
  exact h.ne (j := i) (k := j) (by omega) (by omega) (by omega) (by omega) (by omega)

/-- the points in ascending order -/
def srt (n s : Int) (m : Nat) : List Int := isort (ptsL n s m)

theorem srt_length (n s : Int) (m : Nat) : (srt n s m).length = m := by rw [srt, isort_length, ptsL_length]

theorem srt_asc {n s : Int} (h : Turns n s) {m : Nat} (hm : (m : Int) ≤ n) : (srt n s m).Pairwise (· < ·) :=
  asc_of (isort_wk _) ((isort_perm _).nodup_iff.2 (ptsL_nodup h hm))

theorem srt_mem {n s : Int} {m : Nat} {x : Int} : x ∈ srt n s m ↔ ∃ k : Nat, k < m ∧ pt n s k = x := by
  rw [srt, isort_mem, ptsL_mem]

theorem srt_at {n s : Int} {m i : Nat} (hi : i < m) (d : Int) : ∃ k : Nat, k < m ∧ pt n s k = (srt n s m).getD i d :=
  srt_mem.1 (getD_mem' d (by rw [srt_length]; exact hi))

theorem srt_d {n s : Int} {m i : Nat} (hi : i < m) (d d' : Int) : (srt n s m).getD i d = (srt n s m).getD i d' := by
  rw [List.getD_eq_getElem?_getD, List.getD_eq_getElem?_getD, List.getElem?_eq_getElem (by rw [srt_length]; exact hi)]; rfl

theorem srt_zero {n s : Int} (h : Turns n s) {m : Nat} (h1 : 1 ≤ m) (hm : (m : Int) ≤ n) (d : Int) : (srt n s m).getD 0 d = 0 := by
  obtain ⟨k, hk, e⟩ := srt_at (n := n) (s := s) (i := 0) (by omega : 0 < m) d
  have h0 : (0 : Int) ∈ srt n s m := srt_mem.2 ⟨0, by omega, pt0 n s⟩
  obtain ⟨i, hi, e2⟩ := mem_getD d h0
  by_cases hi0 : i = 0
  · subst hi0; exact e2
  · have a := asc_getD (srt_asc h hm) d (by omega : 0 < i) hi
    have b := pt_lo (n := n) s k h.n2
    omega

/-- behind a place stands the next greater number, or none -/
theorem srt_next {n s : Int} (h : Turns n s) {m i t : Nat} (hm : (m : Int) ≤ n) (hi : i < m) (ht : t < m) (e : pt n s t = (srt n s m).getD i n) {b : Int} (hb : IsNext n s m t b) :
    (b = 0 ∧ (srt n s m).getD (i + 1) n = n) ∨ (1 ≤ b ∧ b < m ∧ (srt n s m).getD (i + 1) n = pt n s b) := by
  have hasc := srt_asc h hm
  have hl := srt_length n s m
  by_cases hi1 : i + 1 < m
  · have lt := asc_getD hasc n (by omega : i < i + 1) (by omega)
    obtain ⟨k, hk, ek⟩ := srt_at (n := n) (s := s) hi1 n
    rcases hb with ⟨rfl, hb⟩ | ⟨b1, b2, b3, b4⟩
    · have := hb k (by omega) (by omega)
      omega
    · refine .inr ⟨b1, b2, ?_⟩
      have c := b4 k (by omega) (by omega) (by omega)
      obtain ⟨b, rfl⟩ := Int.eq_ofNat_of_zero_le (by omega : 0 ≤ b)
      have hbm : pt n s b ∈ srt n s m := srt_mem.2 ⟨b, by omega, rfl⟩
      obtain ⟨j, hj, ej⟩ := mem_getD n hbm
      by_cases hji : j ≤ i
      · by_cases hji' : j = i
        · subst hji'; omega
        · have := asc_getD hasc n (by omega : j < i) (by omega); omega
      · by_cases hj2 : j = i + 1
        · subst hj2; exact ej
        · have := asc_getD hasc n (by omega : i + 1 < j) hj; omega
  · rcases hb with ⟨rfl, hb⟩ | ⟨b1, b2, b3, b4⟩
    · exact .inl ⟨rfl, getD_ge n (by omega)⟩
    · exfalso
      obtain ⟨b, rfl⟩ := Int.eq_ofNat_of_zero_le (by omega : 0 ≤ b)
      have hbm : pt n s b ∈ srt n s m := srt_mem.2 ⟨b, by omega, rfl⟩
      obtain ⟨j, hj, ej⟩ := mem_getD n hbm
      by_cases hji : j = i
      · subst hji; omega
      · have := asc_getD hasc n (by omega : j < i) (by omega); omega

/-- the gap behind the point at a time -/
def gapAt (m p q A B t : Int) : Int := if t + p < m then A else if 0 ≤ t - q then B else A + B

theorem gap_at {n s : Int} (h : Turns n s) {m i t : Nat} {p q : Int} (hm : (m : Int) ≤ n) (hp : IsMin n s m p) (hq : IsMax n s m q) (hi : i < m) (ht : t < m) (e : pt n s t = (srt n s m).getD i n) :
    (srt n s m).getD (i + 1) n - (srt n s m).getD i n = gapAt m p q (pt n s p) (n - pt n s q) t := by
  obtain ⟨r1, r2⟩ := next_rule h hm hp hq (t := t) (by omega) (by omega)
  obtain ⟨p1, p2, p3⟩ := hp
  obtain ⟨q1, q2, q3⟩ := hq
  have hn := srt_next h hm hi ht e r1
  have hqt := q3 t (by omega) (by omega)
  have htq : pt n s t = pt n s q → (t : Int) = q := h.inj t q (by omega) (by omega) (by omega) (by omega)
  unfold gapAt
  by_cases c1 : (t : Int) + p < m
  · rw [if_pos c1] at *
    rcases hn with ⟨hb, e2⟩ | ⟨b1, b2, e2⟩
    · omega
    · rw [e2, r2]; omega
  · rw [if_neg c1] at *
    by_cases c2 : 0 ≤ (t : Int) - q
    · rw [if_pos c2] at *
      by_cases c3 : (t : Int) = q
      · rcases hn with ⟨hb, e2⟩ | ⟨b1, b2, e2⟩
        · rw [e2, ← e, c3]
        · omega
      · rw [if_neg c3] at r2
        rcases hn with ⟨hb, e2⟩ | ⟨b1, b2, e2⟩
        · omega
        · rw [e2, r2]; omega
    · rw [if_neg c2] at *
      rcases hn with ⟨hb, e2⟩ | ⟨b1, b2, e2⟩
      · rcases r1 with ⟨_, r1⟩ | ⟨a1, _⟩
        · have := r1 q (by omega) (by omega)
          have := htq (by omega)
          omega
        · omega
      · rw [e2, r2]; omega

/-- the gaps, in the order of points -/
def gapsT (n s : Int) (m : Nat) : List Int := gapsL n (srt n s m)

theorem gapsT_length (n s : Int) (m : Nat) : (gapsT n s m).length = m := by rw [gapsT, gapsL_length, srt_length]

theorem gapsT_getD (n s : Int) {m i : Nat} (hi : i < m) (d : Int) : (gapsT n s m).getD i d = (srt n s m).getD (i + 1) n - (srt n s m).getD i n :=
  gapsL_getD n _ d (by rw [srt_length]; exact hi)

/-- told by times, the gaps are the same, in another order -/
theorem gaps_perm {n s : Int} (ht : tok n s = true) {m : Nat} {p q : Int} (hm : (m : Int) ≤ n) (hp : IsMin n s m p) (hq : IsMax n s m q) :
    (gapsT n s m).Perm ((List.range m).map fun t : Nat => gapAt m p q (pt n s p) (n - pt n s q) t) := by
  have h := turns_of ht
  have e1 : gapsT n s m = (srt n s m).map fun x => gapAt m p q (pt n s p) (n - pt n s q) (timeF n s x) := by
    apply List.ext_getElem (by rw [gapsT_length, List.length_map, srt_length])
    intro i h1 h2
    rw [gapsT_length] at h1
    have a := gapsT_getD n s h1 0
    rw [List.getD_eq_getElem?_getD, List.getElem?_eq_getElem (by rw [gapsT_length]; exact h1)] at a
    obtain ⟨t, ht1, e⟩ := srt_at (n := n) (s := s) h1 n
    have b := gap_at h hm hp hq h1 ht1 e
    rw [List.getElem_map]
    have c : timeF n s ((srt n s m)[i]'(by rw [srt_length]; exact h1)) = t := by
      refine timeF_of ht (by omega) (by omega) ?_
      rw [List.getD_eq_getElem?_getD, List.getElem?_eq_getElem (by rw [srt_length]; exact h1)] at e
      exact e
    rw [c, ← b]
    exact a
  rw [e1]
  refine ((isort_perm _).map _).trans ?_
  unfold ptsL
  rw [List.map_map]
  refine List.Perm.of_eq (List.map_congr_left fun k hk => ?_)
  simp at hk
  show gapAt _ _ _ _ _ (timeF n s (pt n s k)) = _
  rw [timeF_of ht (k := (k : Int)) (p := pt n s k) (by omega) (by omega) rfl]

theorem gaps_one {n s : Int} (h : Turns n s) : gapsT n s 1 = [n] := by
  have h0 := srt_zero h (m := 1) (by omega) (by have := h.n2; omega) n
  have a := gapsT_getD n s (m := 1) (i := 0) (by omega) 0
  rw [h0, getD_ge n (by rw [srt_length]; omega)] at a
  have hl := gapsT_length n s 1
  match hg : gapsT n s 1, hl with
  | [x], _ => rw [hg] at a; simp at a; rw [a]

/-- all that is a gap is told by both points -/
theorem gaps_mem {n s : Int} (ht : tok n s = true) {m : Nat} {p q x : Int} (hm : (m : Int) ≤ n) (hp : IsMin n s m p) (hq : IsMax n s m q) (hx : x ∈ gapsT n s m) :
    x = pt n s p ∨ x = n - pt n s q ∨ x = pt n s p + (n - pt n s q) := by
  rw [(gaps_perm ht hm hp hq).mem_iff, List.mem_map] at hx
  obtain ⟨t, _, rfl⟩ := hx
  unfold gapAt
  split
  · exact .inl rfl
  · split
    · exact .inr (.inl rfl)
    · exact .inr (.inr rfl)

theorem gaps_pos {n s : Int} (h : Turns n s) {m : Nat} (hm : (m : Int) ≤ n) {i : Nat} (hi : i < m) (d : Int) : 1 ≤ (gapsT n s m).getD i d ∧ (gapsT n s m).getD i d ≤ n := by
  rw [gapsT_getD n s hi d]
  have hl := srt_length n s m
  obtain ⟨k, hk, e⟩ := srt_at (n := n) (s := s) hi n
  have b1 := pt_lo (n := n) s k h.n2
  have b2 := pt_hi (n := n) s k h.n2
  by_cases hi1 : i + 1 < m
  · have := asc_getD (srt_asc h hm) n (by omega : i < i + 1) (by omega)
    obtain ⟨k', hk', e'⟩ := srt_at (n := n) (s := s) hi1 n
    have b3 := pt_hi (n := n) s k' h.n2
    omega
  · rw [getD_ge n (by omega : (srt n s m).length ≤ i + 1)]
    omega

/-- the first so many numbers of a row together -/
def sumT (xs : List Int) (k : Nat) : Int := (xs.take k).sum

theorem sumT_succ (xs : List Int) {k : Nat} (hk : k < xs.length) : sumT xs (k + 1) = sumT xs k + xs.getD k 0 := by
  unfold sumT
  rw [List.take_succ_eq_append_getElem hk, List.sum_append, List.getD_eq_getElem?_getD, List.getElem?_eq_getElem hk]
  simp

theorem gaps_sum {n s : Int} (h : Turns n s) {m : Nat} (h1 : 1 ≤ m) (hm : (m : Int) ≤ n) : ∀ k, k ≤ m → sumT (gapsT n s m) k = (srt n s m).getD k n := by
  intro k
  induction k with
  | zero => intro _; rw [srt_zero h h1 hm]; rfl
  | succ k ih =>
    intro hk
    rw [sumT_succ _ (by rw [gapsT_length]; omega), ih (by omega), gapsT_getD n s (by omega)]
    omega

theorem gaps_total {n s : Int} (h : Turns n s) {m : Nat} (h1 : 1 ≤ m) (hm : (m : Int) ≤ n) : sumT (gapsT n s m) m = n := by
  rw [gaps_sum h h1 hm m (Nat.le_refl _), getD_ge n (by rw [srt_length]; omega)]

/-- of all points each gap is 1 -/
theorem gaps_all {n s : Int} (h : Turns n s) {m : Nat} (h1 : 1 ≤ m) (hm : (m : Int) = n) {i : Nat} (hi : i < m) : (gapsT n s m).getD i 0 = 1 := by
  have tot := gaps_total h h1 (by omega)
  have pos := fun i (hi : i < m) => (gaps_pos h (by omega : (m : Int) ≤ n) hi 0).1
  have up : ∀ k, k ≤ m → (k : Int) ≤ sumT (gapsT n s m) k ∧ (i < k → (k : Int) + (gapsT n s m).getD i 0 - 1 ≤ sumT (gapsT n s m) k) := by
    intro k
    induction k with
    | zero => intro _; exact ⟨by simp [sumT], by omega⟩
    | succ k ih =>
      intro hk
      obtain ⟨a, b⟩ := ih (by omega)
      rw [sumT_succ _ (by rw [gapsT_length]; omega)]
      have c := pos k (by omega)
      refine ⟨by omega, fun hik => ?_⟩
      by_cases e : i = k
      · subst e; omega
      · have := b (by omega); omega
  have a := (up m (Nat.le_refl _)).2 hi
  have b := pos i hi
  omega

/-- the other way round the points stand mirrored -/
theorem srt_back {n s : Int} (ht : tok n s = true) {m : Nat} (h1 : 1 ≤ m) (hm : (m : Int) ≤ n) : ∀ i, i ≤ m → (srt n (n - s) m).getD i n = n - (srt n s m).getD (m - i) n := by
  have h := turns_of ht
  have h' := turns_of (tok_back.trans ht : tok n (n - s) = true)
  have hl := srt_length n s m
  have hz := srt_zero h h1 hm n
  have hasc := srt_asc h hm
  have bp : ∀ k : Nat, 1 ≤ k → k < m → pt n (n - s) k = n - pt n s k := by
    intro k k1 km
    have e := back_points ht (k := (k : Int)) (by omega) (by omega)
    rw [pointF_yes ht (by omega) (by omega), pointF_yes (tok_back.trans ht) (by omega) (by omega)] at e
    unfold pt; omega
  have key : srt n (n - s) m = (List.range m).map fun i => n - (srt n s m).getD (m - i) n := by
    refine asc_ext (srt_asc h' hm) ?_ ?_
    · rw [List.pairwise_map]
      refine List.pairwise_iff_getElem.2 fun i j hi hj hij => ?_
      rw [List.length_range] at hi hj
      simp only [List.getElem_range]
      by_cases hi0 : i = 0
      · subst hi0
        obtain ⟨k, hk, e⟩ := srt_at (n := n) (s := s) (by omega : m - j < m) n
        have := pt_hi (n := n) s k h.n2
        rw [Nat.sub_zero, getD_ge n (by omega : (srt n s m).length ≤ m)]
        omega
      · have := asc_getD hasc n (by omega : m - j < m - i) (by omega)
        omega
    · intro x
      rw [srt_mem, List.mem_map]
      constructor
      · rintro ⟨k, hk, rfl⟩
        by_cases hk0 : k = 0
        · subst hk0
          refine ⟨0, by simp; omega, ?_⟩
          rw [Nat.sub_zero, getD_ge n (by omega : (srt n s m).length ≤ m)]
          have := pt0 n (n - s)
          simp [pt]
        · have hmem : pt n s k ∈ srt n s m := srt_mem.2 ⟨k, hk, rfl⟩
          obtain ⟨j, hj, e⟩ := mem_getD n hmem
          have hj0 : j ≠ 0 := by
            rintro rfl
            have := h.pos (k := (k : Int)) (by omega) (by omega)
            omega
          refine ⟨m - j, by simp; omega, ?_⟩
          rw [bp k (by omega) hk, (by omega : m - (m - j) = j), e]
      · rintro ⟨i, hi, rfl⟩
        simp at hi
        by_cases hi0 : i = 0
        · subst hi0
          refine ⟨0, by omega, ?_⟩
          rw [Nat.sub_zero, getD_ge n (by omega : (srt n s m).length ≤ m)]
          simp [pt]
        · obtain ⟨k, hk, e⟩ := srt_at (n := n) (s := s) (by omega : m - i < m) n
          have hk0 : k ≠ 0 := by
            rintro rfl
            have a := asc_getD hasc n (by omega : 0 < m - i) (by omega)
            rw [Int.natCast_zero, pt0] at e
            omega
          exact ⟨k, hk, by rw [bp k (by omega) hk, e]⟩
  intro i hi
  by_cases him : i = m
  · subst him
    rw [getD_ge n (by rw [srt_length]; omega), Nat.sub_self, hz]
    omega
  · rw [key, List.getD_eq_getElem?_getD]
    simp [(by omega : i < m)]

theorem gaps_back {n s : Int} (ht : tok n s = true) {m : Nat} (hm : (m : Int) ≤ n) {k : Nat} (hk : k < m) : (gapsT n (n - s) m).getD (m - 1 - k) 0 = (gapsT n s m).getD k 0 := by
  rw [gapsT_getD _ _ (by omega : m - 1 - k < m), gapsT_getD _ _ hk, srt_back ht (by omega) hm _ (by omega), srt_back ht (by omega) hm _ (by omega)]
  have e1 : m - (m - 1 - k + 1) = k := by omega
  have e2 : m - (m - 1 - k) = k + 1 := by omega
  rw [e1, e2]
  omega

/-- three kinds at most -/
theorem kinds_three {ks : List Int} {A B : Int} (hA : 1 ≤ A) (hB : 1 ≤ B) (h : ks.Pairwise (· < ·)) (hm : ∀ x ∈ ks, x = A ∨ x = B ∨ x = A + B) :
    ks.length ≤ 3 ∧ (ks.length = 3 → ks.getD 2 0 = ks.getD 0 0 + ks.getD 1 0) := by
  match ks, h, hm with
  | [], _, _ => simp
  | [a], _, _ => simp
  | [a, b], _, _ => simp
  | [a, b, c], h, hm =>
    have ha := hm a (by simp); have hb := hm b (by simp); have hc := hm c (by simp)
    simp at h
    simp
    omega
  | a :: b :: c :: d :: r, h, hm =>
    exfalso
    have ha := hm a (by simp); have hb := hm b (by simp); have hc := hm c (by simp); have hd := hm d (by simp)
    simp at h
    omega
end Go.Proofs.Ytokmmbmkfpfmgaa
