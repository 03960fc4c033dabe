/- Plain lists: rows in ascending order, gaps, and kinds. -/
import Derived.Test.YtkhnnbgmckeoaaaNear
set_option linter.unusedVariables false
namespace Go.Proofs.Ytkhnnbgmckeoaaa

/-- a number put into a row in its place -/
def ins (v : Int) : List Int → List Int
  | [] => [v]
  | x :: r => if x < v then x :: ins v r else v :: x :: r

def isort (xs : List Int) : List Int := xs.foldl (fun acc x => ins x acc) []

theorem isort_snoc (xs : List Int) (x : Int) : isort (xs ++ [x]) = ins x (isort xs) := by simp [isort]

theorem ins_length (v : Int) (xs : List Int) : (ins v xs).length = xs.length + 1 := by
  induction xs with
  | nil => rfl
  | cons x r ih => unfold ins; split <;> simp [ih]

theorem ins_perm (v : Int) (xs : List Int) : (ins v xs).Perm (v :: xs) := by
  induction xs with
  | nil => exact .refl _
  | cons x r ih =>
    unfold ins
    split
    · exact (ih.cons x).trans (.swap v x r)
    · exact .refl _

theorem ins_mem {v x : Int} {xs : List Int} : x ∈ ins v xs ↔ x = v ∨ x ∈ xs := by
  rw [(ins_perm v xs).mem_iff, List.mem_cons]

theorem isort_perm (xs : List Int) : (isort xs).Perm xs := by
  have h : ∀ (ys acc : List Int), (ys.foldl (fun acc x => ins x acc) acc).Perm (acc ++ ys) := by
    intro ys
    induction ys with
    | nil => intro acc; simp
    | cons y ys ih =>
      intro acc
      rw [List.foldl_cons]
      refine (ih _).trans ?_
      refine ((ins_perm y acc).append_right ys).trans ?_
      exact List.perm_middle.symm
  simpa [isort] using h xs []

theorem isort_length (xs : List Int) : (isort xs).length = xs.length := (isort_perm xs).length_eq

theorem isort_mem {x : Int} {xs : List Int} : x ∈ isort xs ↔ x ∈ xs := (isort_perm xs).mem_iff

theorem ins_wk {v : Int} {xs : List Int} (h : xs.Pairwise (· ≤ ·)) : (ins v xs).Pairwise (· ≤ ·) := by
  induction xs with
  | nil => simp [ins]
  | cons x r ih =>
    rw [List.pairwise_cons] at h
    unfold ins
    split
    · rename_i hlt
      rw [List.pairwise_cons]
      refine ⟨fun y hy => ?_, ih h.2⟩
      rcases ins_mem.1 hy with rfl | hy
      · omega
      · exact h.1 y hy
    · rename_i hlt
      rw [List.pairwise_cons]
      refine ⟨fun y hy => ?_, List.pairwise_cons.2 h⟩
      rcases List.mem_cons.1 hy with rfl | hy
      · omega
      · have := h.1 y hy; omega

theorem isort_wk (xs : List Int) : (isort xs).Pairwise (· ≤ ·) := by
  have h : ∀ (ys acc : List Int), acc.Pairwise (· ≤ ·) → (ys.foldl (fun acc x => ins x acc) acc).Pairwise (· ≤ ·) := by
    intro ys
    induction ys with
    | nil => intro acc h; exact h
    | cons y ys ih => intro acc h; exact ih _ (ins_wk h)
  exact h xs [] .nil

/-- the place from below: all before are less, the next one is not -/
theorem ins_below (v : Int) (xs ys : List Int) (h1 : ∀ x ∈ xs, x < v) (h2 : ∀ y ∈ ys.head?, v ≤ y) : ins v (xs ++ ys) = xs ++ v :: ys := by
  induction xs with
  | nil =>
    cases ys with
    | nil => rfl
    | cons y r =>
      have := h2 y (by simp)
      show (if y < v then _ else _) = _
      rw [if_neg (by omega)]; rfl
  | cons x r ih =>
    have := h1 x (by simp)
    show (if x < v then _ else _) = _
    rw [if_pos this]
    exact congrArg (x :: ·) (ih fun y hy => h1 y (by simp [hy]))

theorem all_same (v : Int) (xs ys : List Int) (h : ∀ x ∈ xs, x = v) : v :: (xs ++ ys) = xs ++ v :: ys := by
  induction xs with
  | nil => rfl
  | cons x r ih =>
    have e := h x (by simp)
    subst e
    show x :: x :: (r ++ ys) = x :: (r ++ x :: ys)
    rw [ih fun y hy => h y (by simp [hy])]

/-- the place from above: none before is greater, all behind are -/
theorem ins_above (v : Int) (xs ys : List Int) (hs : xs.Pairwise (· ≤ ·)) (h1 : ∀ x ∈ xs, x ≤ v) (h2 : ∀ y ∈ ys, v < y) : ins v (xs ++ ys) = xs ++ v :: ys := by
  induction xs with
  | nil =>
    cases ys with
    | nil => rfl
    | cons y r =>
      have := h2 y (by simp)
      show (if y < v then _ else _) = _
      rw [if_neg (by omega)]; rfl
  | cons x r ih =>
    have h3 := h1 x (by simp)
    rw [List.pairwise_cons] at hs
    show (if x < v then _ else _) = _
    by_cases hx : x < v
    · rw [if_pos hx]
      exact congrArg (x :: ·) (ih hs.2 fun y hy => h1 y (by simp [hy]))
    · rw [if_neg hx]
      refine all_same v (x :: r) ys fun y hy => ?_
      rcases List.mem_cons.1 hy with rfl | hy'
      · omega
      · have a := hs.1 y hy'
        have b := h1 y (by simp [hy'])
        omega

theorem asc_of {xs : List Int} (h : xs.Pairwise (· ≤ ·)) (hn : xs.Nodup) : xs.Pairwise (· < ·) := by
  refine (h.and hn).imp fun ⟨a, b⟩ => ?_
  omega

theorem asc_nodup {xs : List Int} (h : xs.Pairwise (· < ·)) : xs.Nodup := h.imp fun a b => by omega

/-- two ascending rows of the same numbers are one -/
theorem asc_ext {xs ys : List Int} (hx : xs.Pairwise (· < ·)) (hy : ys.Pairwise (· < ·)) (h : ∀ x, x ∈ xs ↔ x ∈ ys) : xs = ys := by
  induction xs generalizing ys with
  | nil =>
    cases ys with
    | nil => rfl
    | cons y r => have := (h y).2 (by simp); simp at this
  | cons x r ih =>
    cases ys with
    | nil => have := (h x).1 (by simp); simp at this
    | cons y q =>
      rw [List.pairwise_cons] at hx hy
      have e : x = y := by
        rcases List.mem_cons.1 ((h x).1 (by simp)) with e | e
        · exact e
        · rcases List.mem_cons.1 ((h y).2 (by simp)) with e2 | e2
          · exact e2.symm
          · have a := hy.1 x e
            have b := hx.1 y e2
            omega
      subst e
      rw [ih hx.2 hy.2 fun z => ?_]
      constructor
      · intro hz
        have a := hx.1 z hz
        rcases List.mem_cons.1 ((h z).1 (by simp [hz])) with e | e
        · omega
        · exact e
      · intro hz
        have a := hy.1 z hz
        rcases List.mem_cons.1 ((h z).2 (by simp [hz])) with e | e
        · omega
        · exact e

theorem asc_getD {xs : List Int} (h : xs.Pairwise (· < ·)) (d : Int) {i j : Nat} (hij : i < j) (hj : j < xs.length) : xs.getD i d < xs.getD j d := by
  rw [List.getD_eq_getElem?_getD, List.getD_eq_getElem?_getD, List.getElem?_eq_getElem hj, List.getElem?_eq_getElem (by omega : i < xs.length)]
  exact List.pairwise_iff_getElem.1 h i j (by omega) hj hij

theorem getD_mem' {xs : List Int} (d : Int) {i : Nat} (hi : i < xs.length) : xs.getD i d ∈ xs := by
  rw [List.getD_eq_getElem?_getD, List.getElem?_eq_getElem hi]
  exact List.getElem_mem hi

theorem mem_getD {xs : List Int} (d : Int) {x : Int} (h : x ∈ xs) : ∃ i, i < xs.length ∧ xs.getD i d = x := by
  obtain ⟨i, hi, e⟩ := List.getElem_of_mem h
  exact ⟨i, hi, by rw [List.getD_eq_getElem?_getD, List.getElem?_eq_getElem hi]; exact e⟩

theorem getD_ge {xs : List Int} (d : Int) {i : Nat} (hi : xs.length ≤ i) : xs.getD i d = d := by
  rw [List.getD_eq_getElem?_getD, List.getElem?_eq_none hi]; rfl

/-- how far it is from each number of a row to the next one, and from the last one to n -/
def gapsL (n : Int) (xs : List Int) : List Int := (List.range xs.length).map fun i => xs.getD (i + 1) n - xs.getD i n

theorem gapsL_length (n : Int) (xs : List Int) : (gapsL n xs).length = xs.length := by simp [gapsL]

theorem gapsL_getD (n : Int) (xs : List Int) {i : Nat} (d : Int) (h : i < xs.length) : (gapsL n xs).getD i d = xs.getD (i + 1) n - xs.getD i n := by
  simp only [gapsL, List.getD_eq_getElem?_getD]
  simp [h]

theorem gapsL_take (n : Int) (xs : List Int) {k : Nat} (h : k < xs.length) : (gapsL n xs).take (k + 1) = (gapsL n xs).take k ++ [xs.getD (k + 1) n - xs.getD k n] := by
  rw [List.take_succ_eq_append_getElem (by rw [gapsL_length]; exact h)]
  congr 2
  have e := gapsL_getD n xs 0 h
  rw [List.getD_eq_getElem?_getD, List.getElem?_eq_getElem (by rw [gapsL_length]; exact h)] at e
  exact e

/-- the numbers of a row, each once, in ascending order -/
def kindsL (xs : List Int) : List Int := xs.foldl (fun ks g => if g ∈ ks then ks else ins g ks) []

theorem kindsL_snoc (xs : List Int) (x : Int) : kindsL (xs ++ [x]) = if x ∈ kindsL xs then kindsL xs else ins x (kindsL xs) := by
  unfold kindsL
  rw [List.foldl_append]
  rfl

theorem ins_asc {v : Int} {xs : List Int} (h : xs.Pairwise (· < ·)) (hv : v ∉ xs) : (ins v xs).Pairwise (· < ·) := by
  refine asc_of (ins_wk (h.imp fun a => by omega)) ?_
  rw [(ins_perm v xs).nodup_iff]
  exact List.nodup_cons.2 ⟨hv, asc_nodup h⟩

theorem kindsL_is (xs : List Int) : (kindsL xs).Pairwise (· < ·) ∧ ∀ x, x ∈ kindsL xs ↔ x ∈ xs := by
  have h : ∀ (ys acc : List Int), acc.Pairwise (· < ·) → (ys.foldl (fun ks g => if g ∈ ks then ks else ins g ks) acc).Pairwise (· < ·) ∧ ∀ x, x ∈ ys.foldl (fun ks g => if g ∈ ks then ks else ins g ks) acc ↔ x ∈ acc ∨ x ∈ ys := by
    intro ys
    induction ys with
    | nil => intro acc h; exact ⟨h, fun x => by simp⟩
    | cons y ys ih =>
      intro acc h
      rw [List.foldl_cons]
      by_cases hy : y ∈ acc
      · rw [if_pos hy]
        obtain ⟨a, b⟩ := ih acc h
        refine ⟨a, fun x => ?_⟩
        rw [b x, List.mem_cons]
        constructor
        · rintro (c | c)
          · exact .inl c
          · exact .inr (.inr c)
        · rintro (c | rfl | c)
          · exact .inl c
          · exact .inl hy
          · exact .inr c
      · rw [if_neg hy]
        obtain ⟨a, b⟩ := ih _ (ins_asc h hy)
        refine ⟨a, fun x => ?_⟩
        rw [b x, List.mem_cons, ins_mem]
        constructor
        · rintro ((c | c) | c)
          · exact .inr (.inl c)
          · exact .inl c
          · exact .inr (.inr c)
        · rintro (c | c | c)
          · exact .inl (.inr c)
          · exact .inl (.inl c)
          · exact .inr c
  obtain ⟨a, b⟩ := h xs [] .nil
  exact ⟨a, fun x => by rw [kindsL, b x]; simp⟩
end Go.Proofs.Ytkhnnbgmckeoaaa
