/- What the laws of chapter 7 say, in plain numbers. -/
import Derived.Test.YtppahekbgbbidacGRet
import Derived.Test.YtppahekbgbbidacLong
import Derived.Test.YtppahekbgbbidacGNear
import Derived.Test.YtppahekbgbbidacGOrd
set_option linter.unusedVariables false
namespace Go.Proofs.Ytppahekbgbbidac
open N

theorem rtimes_gaps {n s w : Int} (ht : tok n s = true) (w1 : 1 ≤ w) (w2 : w ≤ n) : rtimesF n s w = kindsF n (invF n s) w := by
  obtain ⟨w, rfl⟩ := Int.eq_ofNat_of_zero_le (by omega : 0 ≤ w)
  unfold rtimesF kindsF
  rw [retsF_T ht (by omega) w2, gapsF_yes (tok_inv ht) (by omega) w2]
  exact ret_kinds (tok_inv ht) (by omega) w2

theorem rlong_gaps {n s w : Int} (ht : tok n s = true) (w1 : 1 ≤ w) (w2 : w ≤ n) (x : Int) : rlongF n s w x = longF n (invF n s) w x := by
  obtain ⟨w, rfl⟩ := Int.eq_ofNat_of_zero_le (by omega : 0 ≤ w)
  rw [rlong_yes ht (by omega) w2]
  unfold longF
  rw [gapsF_yes (tok_inv ht) (by omega) w2]
  have hl := gapsT_length n (invF n s) w
  rw [if_neg (by intro e; rw [e] at hl; simp at hl; omega)]
  unfold retsT
  rw [(ret_perm (tok_inv ht) (by omega : 1 ≤ w) w2).count_eq]

theorem rby_gaps {n s w : Int} (ht : tok n s = true) (w1 : 2 ≤ w) (w2 : w ≤ n) : rbyF n s w = gapsByF n (invF n s) w := by
  have hu := tok_inv ht
  unfold rbyF
  rw [if_pos ⟨ht, w1, w2⟩, gapsByF_yes hu w1 w2 rfl rfl]
  have e1 : pt n s (aupF n s w) = nearA n (invF n s) w := by rw [aupF_yes ht w1 w2]; exact up_point ht w1 w2
  have e2 : n - pt n s (adownF n s w) = nearB n (invF n s) w := by rw [adownF_yes ht w1 w2]; exact down_point ht w1 w2
  have e3 : aupF n s w = pt n (invF n s) (nearA n (invF n s) w) := by rw [aupF_yes ht w1 w2]; exact ret_zero hu w1 w2
  have e4 : adownF n s w = n - pt n (invF n s) (nearB n (invF n s) w) := by rw [adownF_yes ht w1 w2]; exact down_zero ht w1 w2
  rw [e1, e2, e3, e4]

/-- at most three kinds; if there are three, the last one is both others together -/
theorem kinds_three_of {n s m : Int} (h : tok n s = true ∧ 1 ≤ m ∧ m ≤ n) : (kindsF n s m).Pairwise (· < ·) ∧ kindsF n s m ≠ [] ∧ (kindsF n s m).length ≤ 3 ∧ ((kindsF n s m).length = 3 → (kindsF n s m).getD 2 0 = (kindsF n s m).getD 0 0 + (kindsF n s m).getD 1 0) := by
  obtain ⟨ht, h1, hm⟩ := h
  have hb := tok_bd ht
  have htn := turns_of ht
  obtain ⟨m, rfl⟩ := Int.eq_ofNat_of_zero_le (by omega : 0 ≤ m)
  unfold kindsF
  rw [gapsF_yes ht (by omega) hm]
  obtain ⟨a, b⟩ := kindsL_is (gapsT n s m)
  have hne : kindsL (gapsT n s m) ≠ [] := by
    intro e
    have hx := getD_mem' (xs := gapsT n s m) 0 (i := 0) (by rw [gapsT_length]; omega)
    rw [← b, e] at hx
    simp at hx
  have h3 := ret_three ht (w := m) (by omega) hm
  exact ⟨a, hne, h3.1, h3.2⟩

theorem kind_bd_of {n s m : Int} (h : tok n s = true ∧ 1 ≤ m ∧ m ≤ n) (i : Nat) (hi : i < (kindsF n s m).length) : 1 ≤ (kindsF n s m).getD i 0 ∧ (kindsF n s m).getD i 0 ≤ 60 := by
  obtain ⟨ht, h1, hm⟩ := h
  have hb := tok_bd ht
  obtain ⟨m, rfl⟩ := Int.eq_ofNat_of_zero_le (by omega : 0 ≤ m)
  have hx := getD_mem' (xs := kindsF n s m) 0 hi
  unfold kindsF at hx ⊢
  rw [gapsF_yes ht (by omega) hm] at hx ⊢
  obtain ⟨j, hj, e⟩ := mem_getD 0 (((kindsL_is (gapsT n s m)).2 _).1 hx)
  rw [gapsT_length] at hj
  have := gaps_pos (turns_of ht) hm hj 0
  omega

theorem long_of {n s m : Int} (h : tok n s = true ∧ 1 ≤ m ∧ m ≤ n) (x : Int) : ∃ C : Nat, longF n s m x = C ∧ (0 < C ↔ x ∈ kindsF n s m) ∧ C ≤ 60 ∧
    (2 ≤ m → (C : Int) = (if pt n s (nearA n s m) = x then m - nearA n s m else 0) + (if n - pt n s (nearB n s m) = x then m - nearB n s m else 0) + (if pt n s (nearA n s m) + (n - pt n s (nearB n s m)) = x then nearA n s m + nearB n s m - m else 0)) := by
  obtain ⟨ht, h1, hm⟩ := h
  have hb := tok_bd ht
  obtain ⟨m, rfl⟩ := Int.eq_ofNat_of_zero_le (by omega : 0 ≤ m)
  have hg := gapsF_yes ht (by omega) hm
  have hl := gapsT_length n s m
  have hne : gapsF n s m ≠ [] := by rw [hg]; intro e; rw [e] at hl; simp at hl; omega
  refine ⟨(gapsF n s m).count x, by unfold longF; rw [if_neg hne], ?_, ?_, fun h2 => ?_⟩
  · rw [List.count_pos_iff, kindsF, (kindsL_is _).2]
  · exact Nat.le_trans List.count_le_length (gapsF_len n s m)
  · rw [hg]
    exact gaps_count ht hm (nearA_is ht h2 hm) (nearB_is ht h2 hm) x

/-- up, in numbers -/
theorem up_cases {n s u : Int} (ht : tok n s = true) (u1 : 2 ≤ u) (u2 : u ≤ n) : 1 ≤ aupF n s u ∧ aupF n s u < n ∧ retF n s u 0 = aupF n s u ∧ aupF n (n - s) u = adownF n s u ∧
    retF n s u (u - 1) = adownF n s u ∧ 1 ≤ adownF n s u ∧ adownF n s u < n ∧ (aupF n s (u + 1) = -1 ∨ 1 ≤ aupF n s (u + 1) ∧ aupF n s (u + 1) ≤ aupF n s u) := by
  have hk : tok n (n - s) = true := by rw [tok_back]; exact ht
  have a := up_lt ht u1 u2
  have b := down_lt ht u1 u2
  refine ⟨a.1, a.2, ?_, ?_, ?_, b.1, b.2, ?_⟩
  · rw [retF_yes ht (by omega) u2 (Int.le_refl 0) (by omega), aupF_yes ht u1 u2]
  · rw [aupF_yes hk u1 u2, adownF_yes ht u1 u2]
  · rw [retF_yes ht (by omega) u2 (by omega) (by omega), adownF_yes ht u1 u2]; exact down_last ht u1 u2
  · by_cases c : u + 1 ≤ n
    · have d := up_lt ht (by omega : 2 ≤ u + 1) c
      refine .inr ⟨d.1, ?_⟩
      rw [aupF_yes ht (by omega) c, aupF_yes ht u1 u2]
      exact up_wider ht u1 c
    · exact .inl (aupF_no fun h => by omega)

/-- a narrower arc, in numbers -/
theorem add_cases {n s u p : Int} (ht : tok n s = true) (u1 : 2 ≤ u) (u2 : u ≤ n) (p0 : 0 ≤ p) (p1 : p < u - 1) :
    (¬ landF n s u p = u - 1 ∧ retF n s (u - 1) p = retF n s u p ∧ landF n s (u - 1) p = landF n s u p) ∨
    (landF n s u p = u - 1 ∧ retF n s (u - 1) p = retF n s u p + retF n s u (u - 1) ∧ landF n s (u - 1) p = landF n s u (u - 1)) := by
  have h := ret_add ht u1 u2 p0 p1
  rw [retF_yes ht (by omega) u2 p0 (by omega), retF_yes ht (by omega) (by omega) p0 p1, retF_yes ht (by omega) u2 (by omega : 0 ≤ u - 1) (by omega),
    landF_yes ht (by omega) u2 p0 (by omega), landF_yes ht (by omega) (by omega) p0 p1, landF_yes ht (by omega) u2 (by omega : 0 ≤ u - 1) (by omega)]
  by_cases c : nextT n (invF n s) u p = u - 1
  · exact .inr ⟨c, h.2 c⟩
  · exact .inl ⟨c, h.1 c⟩

/-- the times of return, added up -/
def retSum (n s : Int) (u k : Nat) : Int := sumI (fun p : Nat => retB n (invF n s) u p) k

theorem retSum_succ (n s : Int) (u k : Nat) : retSum n s u (k + 1) = retSum n s u k + retB n (invF n s) u k := rfl

theorem retSum_bd {n s : Int} {u : Nat} (ht : tok n s = true) (w1 : 1 ≤ u) (w2 : (u : Int) ≤ n) (k : Nat) (hk : k ≤ u) : 0 ≤ retSum n s u k ∧ retSum n s u k ≤ 60 * k := by
  have hb := tok_bd ht
  induction k with
  | zero => simp [retSum, sumI]
  | succ k ih =>
    have := ih (by omega)
    have := ret_bd (tok_inv ht) w1 w2 (p := k) (by omega)
    rw [retSum_succ]
    omega

/-- where points land, counted -/
def landC (n s : Int) (u : Nat) (x : Int) (k : Nat) : Nat := (List.range k).countP (fun k : Nat => decide (k < u) && (nextT n (invF n s) u k == x))

theorem landC_succ (n s : Int) (u : Nat) (x : Int) {k : Nat} (h : k < u) : landC n s u x (k + 1) = landC n s u x k + (if nextT n (invF n s) u k = x then 1 else 0) := by
  unfold landC
  rw [List.range_succ, List.countP_append]
  congr 1
  by_cases c : nextT n (invF n s) u k = x
  · simp [h, c]
  · simp [h, c]

theorem landC_le (n s : Int) (u : Nat) (x : Int) (k : Nat) : landC n s u x k ≤ k := by
  have h := List.countP_le_length (p := fun k : Nat => decide (k < u) && (nextT n (invF n s) u k == x)) (l := List.range k)
  rwa [List.length_range] at h

theorem landC_all {n s : Int} {u : Nat} (ht : tok n s = true) (w1 : 1 ≤ u) (hw : (u : Int) ≤ n) {x : Int} (x0 : 0 ≤ x) (x1 : x < u) : landC n s u x u = 1 := by
  obtain ⟨x, rfl⟩ := Int.eq_ofNat_of_zero_le x0
  exact land_count (tok_inv ht) w1 hw (by omega)

theorem land_bd {n s u p : Int} (ht : tok n s = true) (w1 : 1 ≤ u) (w2 : u ≤ n) (p0 : 0 ≤ p) (p1 : p < u) : 0 ≤ landF n s u p ∧ landF n s u p < u := by
  rw [landF_yes ht w1 w2 p0 p1]
  have h := ret_is ht w1 w2 p0 p1
  have hb := tok_bd ht
  exact ⟨by rw [← h.2]; exact Int.emod_nonneg _ (by omega), by rw [← h.2]; exact h.1.hit⟩
end Go.Proofs.Ytppahekbgbbidac
