/- Plain lists: the order of times round the circle, places in it, and the order the other way round. -/
import Derived.Test.YtkhnnbgmckeoaaaPart
import Derived.Test.YtkhnnbgmckeoaaaMath2
set_option linter.unusedVariables false
namespace Go.Proofs.Ytkhnnbgmckeoaaa
open N
variable {n s : Int}

/-- the times in the order of their points -/
def ordT (n s : Int) (m : Nat) : List Int := (srt n s m).map (timeF n s)

theorem ordT_length (n s : Int) (m : Nat) : (ordT n s m).length = m := by rw [ordT, List.length_map, srt_length]

theorem ordT_at (ht : tok n s = true) {m : Nat} (hm : (m : Int) ≤ n) {i : Nat} (hi : i < m) :
    ∃ t : Nat, t < m ∧ (ordT n s m).getD i 0 = t ∧ pt n s t = (srt n s m).getD i n := by
  obtain ⟨t, h1, h2⟩ := srt_at (n := n) (s := s) hi n
  refine ⟨t, h1, ?_, h2⟩
  unfold ordT
  rw [List.getD_eq_getElem?_getD, List.getElem?_map, List.getElem?_eq_getElem (by rw [srt_length]; exact hi)]
  show timeF n s ((srt n s m)[i]'(by rw [srt_length]; exact hi)) = t
  rw [List.getD_eq_getElem?_getD, List.getElem?_eq_getElem (by rw [srt_length]; exact hi)] at h2
  exact timeF_of ht (by omega) (by omega) h2

theorem ordT_unique (ht : tok n s = true) {m : Nat} (hm : (m : Int) ≤ n) {i t : Nat} (hi : i < m) (htm : t < m) (e : pt n s t = (srt n s m).getD i n) : (ordT n s m).getD i 0 = t := by
  obtain ⟨t', h1, h2, h3⟩ := ordT_at ht hm hi
  have := (turns_of ht).inj t t' (by omega) (by omega) (by omega) (by omega) (by omega)
  omega

theorem ordT_zero (ht : tok n s = true) {m : Nat} (h1 : 1 ≤ m) (hm : (m : Int) ≤ n) : (ordT n s m).getD 0 0 = 0 :=
  ordT_unique ht hm (t := 0) (by omega) (by omega) (by rw [srt_zero (turns_of ht) h1 hm, Int.natCast_zero, pt0])

/-- each next one is the next time, and behind the last one 0 -/
theorem ordT_next (ht : tok n s = true) {m : Nat} (h1 : 1 ≤ m) (hm : (m : Int) ≤ n) {i : Nat} (hi : i < m) {b : Int} (hb : IsNext n s m ((ordT n s m).getD i 0) b) :
    b = if i + 1 < m then (ordT n s m).getD (i + 1) 0 else 0 := by
  obtain ⟨t, t1, t2, t3⟩ := ordT_at ht hm hi
  rw [t2] at hb
  rcases srt_next (turns_of ht) hm hi t1 t3 hb with ⟨e, e2⟩ | ⟨b1, b2, e2⟩
  · by_cases c : i + 1 < m
    · obtain ⟨k, k1, k2⟩ := srt_at (n := n) (s := s) c n
      have := pt_hi (n := n) s k (turns_of ht).n2
      omega
    · rw [if_neg c]; exact e
  · by_cases c : i + 1 < m
    · rw [if_pos c]
      obtain ⟨b, rfl⟩ := Int.eq_ofNat_of_zero_le (by omega : 0 ≤ b)
      exact (ordT_unique ht hm c (by omega) e2.symm).symm
    · rw [getD_ge n (by rw [srt_length]; omega)] at e2
      have := pt_hi (n := n) s b (turns_of ht).n2
      omega

theorem ordT_step (ht : tok n s = true) {m : Nat} (h2 : 2 ≤ m) (hm : (m : Int) ≤ n) {i : Nat} (hi : i < m) {p q : Int} (hp : IsMin n s m p) (hq : IsMax n s m q) :
    (if (ordT n s m).getD i 0 + p < m then (ordT n s m).getD i 0 + p else if 0 ≤ (ordT n s m).getD i 0 - q then (ordT n s m).getD i 0 - q else (ordT n s m).getD i 0 + p - q) = if i + 1 < m then (ordT n s m).getD (i + 1) 0 else 0 := by
  obtain ⟨t, t1, t2, t3⟩ := ordT_at ht hm hi
  exact ordT_next ht (by omega) hm hi (next_rule (turns_of ht) hm hp hq (by omega) (by omega)).1

theorem ordT_ne (ht : tok n s = true) {m : Nat} (hm : (m : Int) ≤ n) {i j : Nat} (hij : i < j) (hj : j < m) : (ordT n s m).getD i 0 ≠ (ordT n s m).getD j 0 := by
  obtain ⟨t, t1, t2, t3⟩ := ordT_at ht hm (by omega : i < m)
  obtain ⟨u, u1, u2, u3⟩ := ordT_at ht hm hj
  have := asc_getD (srt_asc (turns_of ht) hm) n hij (by rw [srt_length]; exact hj)
  intro e
  have : t = u := by omega
  subst this
  omega

/-- of all points the points in order are all numbers -/
theorem srt_all (ht : tok n s = true) {m : Nat} (hm : (m : Int) = n) : srt n s m = (List.range m).map fun i : Nat => (i : Int) := by
  refine asc_ext (srt_asc (turns_of ht) (by omega)) ?_ fun x => ?_
  · rw [List.pairwise_map]
    refine List.pairwise_iff_getElem.2 fun i j hi hj hij => ?_
    simp only [List.getElem_range]
    omega
  · rw [srt_mem, List.mem_map]
    constructor
    · rintro ⟨k, hk, rfl⟩
      have a := pt_lo (n := n) s k (turns_of ht).n2
      have b := pt_hi (n := n) s k (turns_of ht).n2
      exact ⟨(pt n s k).toNat, by simp; omega, by omega⟩
    · rintro ⟨k, hk, rfl⟩
      simp at hk
      have hb := timeF_bd ht (p := (k : Int)) (by omega) (by omega)
      have he := pointF_timeF ht (p := (k : Int)) (by omega) (by omega)
      rw [pointF_yes ht hb.1 hb.2] at he
      refine ⟨(timeF n s k).toNat, by omega, ?_⟩
      rw [Int.toNat_of_nonneg hb.1]
      exact he

theorem srt_all_getD (ht : tok n s = true) {m : Nat} (hm : (m : Int) = n) {i : Nat} (hi : i < m) (d : Int) : (srt n s m).getD i d = i := by
  rw [srt_all ht hm]; simp [hi]

/-- of all points the order is the points of the opposite turn -/
theorem ordT_all (ht : tok n s = true) {m : Nat} (hm : (m : Int) = n) : ordT n s m = ptsL n (invF n s) m := by
  unfold ordT ptsL
  rw [srt_all ht hm, List.map_map]
  refine List.map_congr_left fun k hk => ?_
  simp at hk
  show timeF n s k = _
  rw [timeF_yes ht (by omega) (by omega)]

/-- the place of a time: how many points are less -/
theorem place_at (ht : tok n s = true) {m t : Nat} (hm : (m : Int) ≤ n) (htm : t < m) : lessT n s (pt n s t) m < m ∧ (ordT n s m).getD (lessT n s (pt n s t) m) 0 = t ∧ pt n s t = (srt n s m).getD (lessT n s (pt n s t) m) n := by
  have h := turns_of ht
  obtain ⟨i, hi, e⟩ := mem_getD n (srt_mem.2 ⟨t, htm, rfl⟩ : pt n s t ∈ srt n s m)
  rw [srt_length] at hi
  have hle := lessT_le n s (pt n s t) m
  have key : lessT n s (pt n s t) m = i := by
    have a := less_iff h hm (pt n s t) hi n
    rw [e] at a
    by_cases c : lessT n s (pt n s t) m < i
    · have b := (less_iff h hm (pt n s t) (by omega : lessT n s (pt n s t) m < m) n).2 (by have := asc_getD (srt_asc h hm) n c (by rw [srt_length]; exact hi); omega)
      omega
    · omega
  rw [key]
  exact ⟨hi, ordT_unique ht hm hi htm e.symm, e.symm⟩

theorem place_all (ht : tok n s = true) {m t : Nat} (hm : (m : Int) = n) (htm : t < m) : ((lessT n s (pt n s t) m : Nat) : Int) = pt n s t := by
  obtain ⟨a, b, c⟩ := place_at ht (by omega) htm
  rw [srt_all_getD ht hm a] at c
  exact c.symm

theorem place_zero (ht : tok n s = true) {m : Nat} (h1 : 1 ≤ m) (hm : (m : Int) ≤ n) : lessT n s (pt n s ((0 : Nat) : Int)) m = 0 := by
  have h := turns_of ht
  have hle := lessT_le n s (pt n s ((0 : Nat) : Int)) m
  by_cases c : lessT n s (pt n s ((0 : Nat) : Int)) m = 0
  · exact c
  · have a := (less_iff h hm (pt n s ((0 : Nat) : Int)) (by omega : 0 < m) n).1 (by omega)
    rw [srt_zero h h1 hm, Int.natCast_zero, pt0] at a
    omega

/-- the order of one point more is the order, with the last time put in -/
theorem ordT_more (ht : tok n s = true) {m : Nat} (h1 : 1 ≤ m) (hm : (m : Int) < n) :
    ordT n s (m + 1) = (ordT n s m).take (lessT n s (pt n s m) m) ++ (m : Int) :: (ordT n s m).drop (lessT n s (pt n s m) m) := by
  have e : timeF n s (pt n s m) = m := timeF_of ht (by omega) (by omega) rfl
  unfold ordT
  rw [srt_more (turns_of ht) hm, List.map_append, List.map_cons, e, List.map_take, List.map_drop]

/-- the other way round the order stands mirrored, but for 0 -/
theorem ordT_back (ht : tok n s = true) {m : Nat} (h1 : 1 ≤ m) (hm : (m : Int) ≤ n) {i : Nat} (i1 : 1 ≤ i) (hi : i < m) : (ordT n (n - s) m).getD i 0 = (ordT n s m).getD (m - i) 0 := by
  have ht' : tok n (n - s) = true := tok_back.trans ht
  obtain ⟨t, t1, t2, t3⟩ := ordT_at ht hm (by omega : m - i < m)
  rw [t2]
  refine ordT_unique ht' hm hi t1 ?_
  rw [srt_back ht h1 hm i (by omega), ← t3]
  have t0 : t ≠ 0 := by
    rintro rfl
    have a := asc_getD (srt_asc (turns_of ht) hm) n (by omega : 0 < m - i) (by rw [srt_length]; omega)
    rw [srt_zero (turns_of ht) h1 hm, ← t3, Int.natCast_zero, pt0] at a
    omega
  have e := back_points ht (k := (t : Int)) (by omega) (by omega)
  rw [pointF_yes ht (by omega) (by omega), pointF_yes ht' (by omega) (by omega)] at e
  unfold pt
  omega
end Go.Proofs.Ytkhnnbgmckeoaaa
