/- Contracts of GapsOf, of the program and of the model. Contracts of slices.Index and slices.Contains, of KindsOf and of GapsLong, of the program and of the model, and of ascend. -/
import Derived.Test.YtokmmbmkfpfmgaaGSort
import Derived.Test.YtokmmbmkfpfmgaaGList
import Derived.Test.YtokmmbmkfpfmgaaThree
set_option linter.unusedVariables false
namespace Go.Proofs.Ytokmmbmkfpfmgaa
set_option maxRecDepth 4000
open Go.ChangeShapes Go.WideShapes Go.ChangeAt Go.RowKit Go.Joins N

def gapsF (n s m : Int) : List Int := gapsL n (isort (firstF n s m))

theorem gapsF_yes {n s : Int} {m : Nat} (h : tok n s = true) (h0 : 1 ≤ m) (h1 : (m : Int) ≤ n) : gapsF n s m = gapsT n s m := by
  unfold gapsF gapsT srt
  rw [firstF_yes h (by omega) h1, Int.toNat_natCast]

theorem gapsF_no {n s m : Int} (h : ¬ (tok n s = true ∧ 1 ≤ m ∧ m ≤ n)) : gapsF n s m = [] := by
  unfold gapsF
  rw [firstF_no h]
  rfl

theorem gapsF_len (n s m : Int) : (gapsF n s m).length ≤ 60 := by
  by_cases hc : tok n s = true ∧ 1 ≤ m ∧ m ≤ n
  · have hb := tok_bd hc.1
    obtain ⟨m, rfl⟩ := Int.eq_ofNat_of_zero_le (by omega : 0 ≤ m)
    rw [gapsF_yes hc.1 (by omega) hc.2.2, gapsT_length]
    omega
  · rw [gapsF_no hc]; simp

theorem gapsT_take (n s : Int) {m k : Nat} (h : k < m) : (gapsT n s m).take (k + 1) = (gapsT n s m).take k ++ [(srt n s m).getD (k + 1) n - (srt n s m).getD k n] :=
  gapsL_take n _ (by rw [srt_length]; exact h)

end Go.Proofs.Ytokmmbmkfpfmgaa

set_option linter.unusedVariables false
namespace Go.Proofs.Ytokmmbmkfpfmgaa
open Go.ChangeShapes Go.WideShapes Go.ChangeAt Go.RowKit Go.Joins N

theorem take_one (xs : List Int) {k : Nat} (h : k < xs.length) : xs.take (k + 1) = xs.take k ++ [xs.getD k 0] := by
  rw [List.take_succ_eq_append_getElem h, List.getD_eq_getElem?_getD, List.getElem?_eq_getElem h]; rfl

def kindsF (n s m : Int) : List Int := kindsL (gapsF n s m)

theorem kindsL_le (xs : List Int) : (kindsL xs).length ≤ xs.length := by
  have h : ∀ (ys acc : List Int), (ys.foldl (fun ks g => if g ∈ ks then ks else ins g ks) acc).length ≤ acc.length + ys.length := by
    intro ys
    induction ys with
    | nil => intro acc; simp
    | cons y ys ih =>
      intro acc
      rw [List.foldl_cons]
      have := ih (if y ∈ acc then acc else ins y acc)
      by_cases hy : y ∈ acc
      · rw [if_pos hy] at *; simp at *; omega
      · rw [if_neg hy] at *; rw [ins_length] at this; simp at *; omega
  have := h xs []
  simpa [kindsL] using this

theorem kindsF_len (n s m : Int) : (kindsF n s m).length ≤ 60 := Nat.le_trans (kindsL_le _) (gapsF_len n s m)

theorem kindsF_no {n s m : Int} (h : ¬ (tok n s = true ∧ 1 ≤ m ∧ m ≤ n)) : kindsF n s m = [] := by
  unfold kindsF; rw [gapsF_no h]; rfl

/-- the numbers of a row that differ from the one before -/
def dd (ys : List Int) : Nat → List Int
  | 0 => []
  | k + 1 => if k = 0 ∨ ys.getD k 0 ≠ ys.getD (k - 1) 0 then dd ys k ++ [ys.getD k 0] else dd ys k

theorem dd_yes {ys : List Int} {k : Nat} (h : k = 0 ∨ ys.getD k 0 ≠ ys.getD (k - 1) 0) : dd ys (k + 1) = dd ys k ++ [ys.getD k 0] := by
  rw [dd, if_pos h]

theorem dd_no {ys : List Int} {k : Nat} (h : ¬ (k = 0 ∨ ys.getD k 0 ≠ ys.getD (k - 1) 0)) : dd ys (k + 1) = dd ys k := by
  rw [dd, if_neg h]

theorem dd_len (ys : List Int) (k : Nat) : (dd ys k).length ≤ k := by
  induction k with
  | zero => simp [dd]
  | succ k ih => rw [dd]; split <;> (try simp) <;> omega

theorem wk_getD {ys : List Int} (h : ys.Pairwise (· ≤ ·)) {i j : Nat} (hij : i < j) (hj : j < ys.length) : ys.getD i 0 ≤ ys.getD j 0 := by
  rw [List.getD_eq_getElem?_getD, List.getD_eq_getElem?_getD, List.getElem?_eq_getElem hj, List.getElem?_eq_getElem (by omega : i < ys.length)]
  exact List.pairwise_iff_getElem.1 h i j (by omega) hj hij

theorem dd_is {ys : List Int} (h : ys.Pairwise (· ≤ ·)) (k : Nat) (hk : k ≤ ys.length) :
    (dd ys k).Pairwise (· < ·) ∧ (∀ x, x ∈ dd ys k ↔ x ∈ ys.take k) ∧ (∀ x ∈ dd ys k, x ≤ ys.getD (k - 1) 0) := by
  induction k with
  | zero => exact ⟨.nil, fun x => by simp [dd], fun x hx => by simp [dd] at hx⟩
  | succ k ih =>
    obtain ⟨a, b, c⟩ := ih (by omega)
    rw [take_one ys (by omega)]
    by_cases hc : k = 0 ∨ ys.getD k 0 ≠ ys.getD (k - 1) 0
    · rw [dd_yes hc]
      have hlt : ∀ x ∈ dd ys k, x < ys.getD k 0 := fun x hx => by
        rcases hc with rfl | hc
        · simp [dd] at hx
        · have k0 : k ≠ 0 := by rintro rfl; simp [dd] at hx
          have := c x hx
          have := wk_getD h (by omega : k - 1 < k) (by omega)
          omega
      refine ⟨List.pairwise_append.2 ⟨a, by simp, fun x hx y hy => ?_⟩, fun x => ?_, fun x hx => ?_⟩
      · simp only [List.mem_singleton] at hy
        subst hy
        exact hlt x hx
      · rw [List.mem_append, List.mem_append, b x]
      · rw [List.mem_append, List.mem_singleton] at hx
        show x ≤ ys.getD k 0
        rcases hx with hx | rfl
        · have := hlt x hx; omega
        · exact Int.le_refl _
    · rw [dd_no hc]
      have k0 : k ≠ 0 := fun e => hc (.inl e)
      have e : ys.getD k 0 = ys.getD (k - 1) 0 := Decidable.byContradiction fun e => hc (.inr e)
      refine ⟨a, fun x => ?_, fun x hx => ?_⟩
      · rw [List.mem_append, List.mem_singleton, b x]
        constructor
        · exact .inl
        · rintro (hx | rfl)
          · exact hx
          · rw [e]
            have hm : ys.getD (k - 1) 0 ∈ ys.take (k - 1 + 1) := by
              rw [take_one ys (by omega)]; simp
            rwa [show k - 1 + 1 = k by omega] at hm
      · show x ≤ ys.getD k 0
        rw [e]
        exact c x hx

theorem dd_kinds (g : List Int) {N : Nat} (hN : g.length = N) : dd (isort g) N = kindsL g := by
  subst hN
  obtain ⟨a, b, _⟩ := dd_is (isort_wk g) g.length (by rw [isort_length]; exact Nat.le_refl _)
  obtain ⟨a', b'⟩ := kindsL_is g
  refine asc_ext a a' fun x => ?_
  rw [b x, List.take_of_length_le (by rw [isort_length]; exact Nat.le_refl _), isort_mem, b' x]

end Go.Proofs.Ytokmmbmkfpfmgaa
