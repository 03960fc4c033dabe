/- Plain lists: turned pairs; and orders that are told by two numbers. -/
import Derived.Test.YtkhnnbgmckeoaaaOrd
set_option linter.unusedVariables false
namespace Go.Proofs.Ytkhnnbgmckeoaaa
open N

/-- how many pairs stand the other way round -/
def invL : List Int → Nat
  | [] => 0
  | x :: r => r.countP (fun y => decide (y < x)) + invL r

theorem invL_snoc (xs : List Int) (x : Int) : invL (xs ++ [x]) = invL xs + xs.countP (fun y => decide (x < y)) := by
  induction xs with
  | nil => simp [invL]
  | cons y r ih =>
    show ((r ++ [x]).countP (fun z => decide (z < y)) + invL (r ++ [x])) = (r.countP (fun z => decide (z < y)) + invL r) + (y :: r).countP (fun z => decide (x < z))
    rw [ih, List.countP_append, List.countP_cons, List.countP_cons, List.countP_nil]
    by_cases c : x < y
    · rw [if_pos (by simpa using c)]; omega
    · rw [if_neg (by simpa using c)]; omega

theorem count_both (xs : List Int) (x : Int) (h : x ∉ xs) : xs.countP (fun y => decide (x < y)) + xs.countP (fun y => decide (y < x)) = xs.length := by
  induction xs with
  | nil => rfl
  | cons y r ih =>
    have hy : x ≠ y := fun e => h (by simp [e])
    have := ih (fun hr => h (by simp [hr]))
    rw [List.countP_cons, List.countP_cons, List.length_cons]
    by_cases c : x < y
    · rw [if_pos (by simpa using c), if_neg (by simp; omega)]; omega
    · rw [if_neg (by simpa using c), if_pos (by simp; omega)]; omega

theorem sq_succ (L : Nat) : (L + 1) * (L + 1) = L * L + 2 * L + 1 := by
  rw [Nat.add_mul, Nat.mul_add]
  omega

theorem inv_both (xs : List Int) (h : xs.Nodup) : 2 * (invL xs + invL xs.reverse) + xs.length = xs.length * xs.length := by
  induction xs with
  | nil => rfl
  | cons x r ih =>
    rw [List.nodup_cons] at h
    have i := ih h.2
    rw [List.reverse_cons, invL_snoc, List.length_cons]
    show 2 * ((r.countP (fun y => decide (y < x)) + invL r) + (invL r.reverse + r.reverse.countP (fun y => decide (x < y)))) + (r.length + 1) = _
    rw [(List.reverse_perm r).countP_eq]
    have c := count_both r x h.1
    rw [sq_succ]
    omega

theorem inv_le (xs : List Int) : invL xs ≤ xs.length * xs.length := by
  induction xs with
  | nil => simp [invL]
  | cons x r ih =>
    have := List.countP_le_length (p := fun y => decide (y < x)) (l := r)
    show r.countP (fun y => decide (y < x)) + invL r ≤ (r.length + 1) * (r.length + 1)
    rw [sq_succ]
    omega

theorem inv_zero_cons {r : List Int} (h : ∀ y ∈ r, 0 ≤ y) : invL (0 :: r) = invL r := by
  show r.countP (fun y => decide (y < 0)) + invL r = invL r
  rw [List.countP_eq_zero.2 (fun y hy => by have := h y hy; simp; omega)]
  omega

variable {n s : Int}

theorem list_ext_getD {xs ys : List Int} (hl : xs.length = ys.length) (h : ∀ i, i < xs.length → xs.getD i 0 = ys.getD i 0) : xs = ys := by
  refine List.ext_getElem hl fun i h1 h2 => ?_
  have := h i h1
  rw [List.getD_eq_getElem?_getD, List.getD_eq_getElem?_getD, List.getElem?_eq_getElem h1, List.getElem?_eq_getElem h2] at this
  exact this

theorem ordT_cons (ht : tok n s = true) {m : Nat} (h1 : 1 ≤ m) (hm : (m : Int) ≤ n) : ordT n s m = 0 :: (ordT n s m).tail := by
  have hl := ordT_length n s m
  have h0 := ordT_zero ht h1 hm
  cases e : ordT n s m with
  | nil => rw [e] at hl; simp at hl; omega
  | cons x r => rw [e] at h0; simp at h0; rw [h0]; rfl

theorem ordT_tail_back (ht : tok n s = true) {m : Nat} (h1 : 1 ≤ m) (hm : (m : Int) ≤ n) : (ordT n (n - s) m).tail = (ordT n s m).tail.reverse := by
  have hl := ordT_length n s m
  have hl' := ordT_length n (n - s) m
  refine list_ext_getD (by simp [hl, hl']) fun i hi => ?_
  rw [List.length_tail, hl'] at hi
  have e1 : (ordT n (n - s) m).tail.getD i 0 = (ordT n (n - s) m).getD (i + 1) 0 := by
    rw [List.getD_eq_getElem?_getD, List.getElem?_tail, List.getD_eq_getElem?_getD]
  rw [e1, ordT_back ht h1 hm (by omega) (by omega), List.getD_eq_getElem?_getD, List.getD_eq_getElem?_getD, List.getElem?_reverse (by rw [List.length_tail, hl]; omega), List.getElem?_tail, List.length_tail, hl]
  congr 2
  omega

theorem ordT_nodup (ht : tok n s = true) {m : Nat} (hm : (m : Int) ≤ n) : (ordT n s m).Nodup := by
  rw [List.nodup_iff_pairwise_ne, List.pairwise_iff_getElem]
  intro i j hi hj hij
  rw [ordT_length] at hi hj
  have := ordT_ne ht hm hij hj
  rw [List.getD_eq_getElem?_getD, List.getD_eq_getElem?_getD, List.getElem?_eq_getElem (by rw [ordT_length]; exact hi), List.getElem?_eq_getElem (by rw [ordT_length]; exact hj)] at this
  exact this

theorem ordT_bd (ht : tok n s = true) {m : Nat} (hm : (m : Int) ≤ n) : ∀ y ∈ ordT n s m, 0 ≤ y ∧ y < m := by
  intro y hy
  obtain ⟨i, hi, e⟩ := mem_getD 0 hy
  rw [ordT_length] at hi
  obtain ⟨t, t1, t2, _⟩ := ordT_at ht hm hi
  omega

theorem inv_orders (ht : tok n s = true) {m : Nat} (h1 : 1 ≤ m) (hm : (m : Int) ≤ n) : 2 * (invL (ordT n s m) + invL (ordT n (n - s) m)) + (m - 1) = (m - 1) * (m - 1) := by
  have ht' : tok n (n - s) = true := tok_back.trans ht
  have e1 := ordT_cons ht h1 hm
  have e2 := ordT_cons ht' h1 hm
  have b1 := ordT_bd ht hm
  have b2 := ordT_bd ht' hm
  have nd := ordT_nodup ht hm
  have i1 : invL (ordT n s m) = invL (ordT n s m).tail := by
    rw [e1]; exact inv_zero_cons fun y hy => (b1 y (by rw [e1]; exact List.mem_cons_of_mem _ hy)).1
  have i2 : invL (ordT n (n - s) m) = invL (ordT n (n - s) m).tail := by
    rw [e2]; exact inv_zero_cons fun y hy => (b2 y (by rw [e2]; exact List.mem_cons_of_mem _ hy)).1
  rw [i1, i2, ordT_tail_back ht h1 hm]
  have nd2 : (ordT n s m).tail.Nodup := by rw [e1, List.nodup_cons] at nd; exact nd.2
  have := inv_both _ nd2
  rwa [List.length_tail, ordT_length] at this

/-- from a number to the next one -/
def ruleBy (m u d x : Int) : Int := if x + u < m then x + u else if 0 ≤ x - d then x - d else x + u - d

def nowBy (m u d : Int) : Nat → Int
  | 0 => 0
  | k + 1 => ruleBy m u d (nowBy m u d k)

def goodBy (m u d : Int) : Prop := (∀ k : Nat, k < m.toNat → 0 ≤ nowBy m u d k ∧ nowBy m u d k < m ∧ ∀ j : Nat, j < k → nowBy m u d j ≠ nowBy m u d k) ∧ nowBy m u d m.toNat = 0

def listBy (m u d : Int) (k : Nat) : List Int := (List.range k).map (nowBy m u d)

theorem listBy_succ (m u d : Int) (k : Nat) : listBy m u d (k + 1) = listBy m u d k ++ [nowBy m u d k] := by
  unfold listBy; rw [List.range_succ, List.map_append]; rfl

theorem listBy_len (m u d : Int) (k : Nat) : (listBy m u d k).length = k := by simp [listBy]

theorem listBy_getD (m u d : Int) {k i : Nat} (h : i < k) : (listBy m u d k).getD i 0 = nowBy m u d i := by
  simp [listBy, h]

def okBy (m u d : Int) : Prop := 1 ≤ m ∧ m ≤ 60 ∧ 1 ≤ u ∧ u ≤ 60 ∧ 1 ≤ d ∧ d ≤ 60 ∧ goodBy m u d
open Classical in
noncomputable def orderByF (m u d : Int) : List Int × Bool := if okBy m u d then (listBy m u d m.toNat, true) else ([], false)

theorem orderByF_yes {m u d : Int} (h : okBy m u d) : orderByF m u d = (listBy m u d m.toNat, true) := by unfold orderByF; rw [if_pos h]

theorem orderByF_no {m u d : Int} (h : ¬ okBy m u d) : orderByF m u d = ([], false) := by unfold orderByF; rw [if_neg h]

/-- the order of a turn is told by the times of its nearest points -/
theorem by_turn (ht : tok n s = true) {m : Nat} (h2 : 2 ≤ m) (hm : (m : Int) ≤ n) : okBy m (nearA n s m) (nearB n s m) ∧ listBy m (nearA n s m) (nearB n s m) m = ordT n s m := by
  have hb := tok_bd ht
  have hp := nearA_is ht (by omega : (2 : Int) ≤ m) hm
  have hq := nearB_is ht (by omega : (2 : Int) ≤ m) hm
  generalize nearA n s m = p at *
  generalize nearB n s m = q at *
  have key : ∀ k, k ≤ m → nowBy m p q k = if k < m then (ordT n s m).getD k 0 else 0 := by
    intro k
    induction k with
    | zero => intro _; rw [if_pos (by omega), ordT_zero ht (by omega) hm]; rfl
    | succ k ih =>
      intro hk
      rw [nowBy, ih (by omega), if_pos (by omega)]
      exact ordT_step ht h2 hm (by omega) hp hq
  have hl : listBy m p q m = ordT n s m := by
    refine list_ext_getD (by rw [listBy_len, ordT_length]) fun i hi => ?_
    rw [listBy_len] at hi
    rw [listBy_getD _ _ _ hi, key i (by omega), if_pos hi]
  refine ⟨⟨by omega, by omega, hp.1, by have := hp.2.1; omega, hq.1, by have := hq.2.1; omega, fun k hk => ?_, ?_⟩, hl⟩
  · rw [Int.toNat_natCast] at hk
    rw [key k (by omega), if_pos hk]
    obtain ⟨t, t1, t2, _⟩ := ordT_at ht hm hk
    refine ⟨by omega, by omega, fun j hj => ?_⟩
    rw [key j (by omega), if_pos (by omega)]
    exact ordT_ne ht hm hj hk
  · rw [Int.toNat_natCast, key m (Nat.le_refl _), if_neg (by omega)]

theorem nodup_le (m : Nat) : ∀ xs : List Nat, xs.Nodup → (∀ x ∈ xs, x < m) → xs.length ≤ m := by
  induction m with
  | zero =>
    intro xs _ h
    cases xs with
    | nil => simp
    | cons x r => have := h x (by simp); omega
  | succ m ih =>
    intro xs hn h
    have h2 := ih (xs.erase m) (hn.erase m) (fun x hx => by
      have := (hn.mem_erase_iff).1 hx
      have := h x this.2
      omega)
    by_cases c : m ∈ xs
    · rw [List.length_erase_of_mem c] at h2; omega
    · rw [List.erase_of_not_mem c] at h2; omega

/-- so many different numbers that are less are all of them -/
theorem pigeon (f : Nat → Nat) (m : Nat) (h : ∀ k, k < m → f k < m) (hd : ∀ j k, j < k → k < m → f j ≠ f k) : ∀ x, x < m → ∃ k, k < m ∧ f k = x := by
  have hn : ((List.range m).map f).Nodup := by
    rw [List.nodup_iff_pairwise_ne, List.pairwise_map, List.pairwise_iff_getElem]
    intro i j hi hj hij
    simp at hi hj ⊢
    exact hd i j hij hj
  intro x hx
  by_cases c : x ∈ (List.range m).map f
  · simpa using c
  · exfalso
    have hlt : ∀ y ∈ x :: (List.range m).map f, y < m := by
      intro y hy
      rcases List.mem_cons.1 hy with rfl | hy
      · exact hx
      · simp at hy
        obtain ⟨k, hk, rfl⟩ := hy
        exact h k hk
    have := nodup_le m (x :: (List.range m).map f) (List.nodup_cons.2 ⟨c, hn⟩) hlt
    rw [List.length_cons, List.length_map, List.length_range] at this
    omega
end Go.Proofs.Ytkhnnbgmckeoaaa
