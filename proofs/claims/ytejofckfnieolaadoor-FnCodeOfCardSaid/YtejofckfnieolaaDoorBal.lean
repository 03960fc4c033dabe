/- Plain words of two letters: balance, and what keeps it; and words as texts. -/
import Derived.Test.YtejofckfnieolaaDoorCode
set_option linter.unusedVariables false
namespace Go.Proofs.YtejofckfnieolaaDoor

/-- how many ones there are in so many letters from a place on -/
def winO (u : List Bool) (i l : Nat) : Nat := ((u.drop i).take l).count true

theorem winO_le (u : List Bool) (i l : Nat) : winO u i l ≤ l := by
  unfold winO
  have h1 := List.count_le_length (a := true) (l := (u.drop i).take l)
  have h2 : ((u.drop i).take l).length ≤ l := by rw [List.length_take]; omega
  omega

def Bal (u : List Bool) : Prop := ∀ i j l, i + l ≤ u.length → j + l ≤ u.length → winO u i l ≤ winO u j l + 1

theorem winO_word {n s a m i l : Nat} (h : i + l ≤ m) : winO (wordL n s a m) i l = (wordL n s (a + i) l).count true := by
  unfold winO
  congr 1
  apply List.ext_getElem?
  intro k
  by_cases hk : k < l
  · rw [List.getElem?_take_of_lt hk, List.getElem?_drop]
    simp [wordL, hk, show i + k < m by omega, Nat.add_assoc]
  · rw [List.getElem?_eq_none (by rw [List.length_take]; omega), List.getElem?_eq_none (by rw [wordL_length]; omega)]

/-- the letters of a turn are balanced -/
theorem bal_word {n s : Nat} (h0 : 0 < n) (hs : s ≤ n) (a m : Nat) : Bal (wordL n s a m) := by
  intro i j l hi hj
  rw [wordL_length] at hi hj
  rw [winO_word hi, winO_word hj]
  have h1 := ones_word h0 hs (a + i) l
  have h2 := ones_word h0 hs (a + j) l
  have h3 := bal_fl h0 s (a + i) (a + j) l
  omega

theorem ones_all {n s : Nat} (ht : tokN n s = true) : (wordL n s 0 n).count true = s := by
  obtain ⟨n2, _, s1, sn, g⟩ := tokN_bd ht
  have h := ones_word (n := n) (s := s) (by omega) (by omega) 0 n
  rw [Nat.zero_add, fl_size (by omega)] at h
  have h0 : flN n s 0 = 0 := by unfold flN; rw [Nat.zero_mul, Nat.zero_div]
  omega

theorem ones_upto {n s m : Nat} (ht : tokN n s = true) : (wordL n s 0 m).count true = m * s / n := by
  obtain ⟨n2, _, s1, sn, g⟩ := tokN_bd ht
  have h := ones_word (n := n) (s := s) (by omega) (by omega) 0 m
  rw [Nat.zero_add] at h
  have h0 : flN n s 0 = 0 := by unfold flN; rw [Nat.zero_mul, Nat.zero_div]
  have h1 : flN n s m = m * s / n := rfl
  omega

/-! ### what keeps balance -/

theorem winO_tail (u : List Bool) (i l : Nat) : winO (u.drop 1) i l = winO u (i + 1) l := by
  unfold winO; rw [List.drop_drop, Nat.add_comm 1 i]

theorem winO_init {u : List Bool} {k i l : Nat} (h : i + l ≤ k) (hk : k ≤ u.length) : winO (u.take k) i l = winO u i l := by
  unfold winO
  rw [List.drop_take, List.take_take, Nat.min_eq_left (by omega)]

theorem winO_rev {u : List Bool} {i l : Nat} (h : i + l ≤ u.length) : winO u.reverse i l = winO u (u.length - i - l) l := by
  unfold winO
  have e : (u.reverse.drop i).take l = ((u.drop (u.length - i - l)).take l).reverse := by
    rw [List.drop_reverse, List.take_reverse, List.length_take, List.drop_take, Nat.min_eq_left (by omega)]
    congr 2
    omega
  rw [e, List.count_reverse]

theorem winO_not {u : List Bool} {i l : Nat} (h : i + l ≤ u.length) : winO (u.map (!·)) i l + winO u i l = l := by
  unfold winO
  rw [← List.map_drop, ← List.map_take]
  have hl : ((u.drop i).take l).length = l := by rw [List.length_take, List.length_drop]; omega
  generalize (u.drop i).take l = v at *
  subst hl
  clear h
  induction v with
  | nil => rfl
  | cons b r ih =>
    cases b
    · simp at ih ⊢; omega
    · simp at ih ⊢; omega

theorem Bal.tail {u : List Bool} (h : Bal u) (h0 : 1 ≤ u.length) : Bal (u.drop 1) := by
  intro i j l hi hj
  rw [List.length_drop] at hi hj
  rw [winO_tail, winO_tail]
  exact h _ _ _ (by omega) (by omega)

theorem Bal.init {u : List Bool} (h : Bal u) {k : Nat} (hk : k ≤ u.length) : Bal (u.take k) := by
  intro i j l hi hj
  rw [List.length_take, Nat.min_eq_left hk] at hi hj
  rw [winO_init hi hk, winO_init hj hk]
  exact h _ _ _ (by omega) (by omega)

theorem Bal.rev {u : List Bool} (h : Bal u) : Bal u.reverse := by
  intro i j l hi hj
  rw [List.length_reverse] at hi hj
  rw [winO_rev hi, winO_rev hj]
  exact h _ _ _ (by omega) (by omega)

theorem Bal.not {u : List Bool} (h : Bal u) : Bal (u.map (!·)) := by
  intro i j l hi hj
  rw [List.length_map] at hi hj
  have a := winO_not hi
  have b := winO_not hj
  have c := h j i l hj hi
  omega

theorem bal_rev_iff {u : List Bool} : Bal u.reverse ↔ Bal u := ⟨fun h => by have := h.rev; rwa [List.reverse_reverse] at this, fun h => h.rev⟩

theorem bal_not_iff {u : List Bool} : Bal (u.map (!·)) ↔ Bal u := ⟨fun h => by
  have := h.not
  rw [List.map_map] at this
  have e : ((fun x => !x) ∘ fun x => !x : Bool → Bool) = id := by funext b; simp
  rwa [e, List.map_id] at this, fun h => h.not⟩

/-! ### the least and the most, window by window -/

def leastW (u : List Bool) (l : Nat) (k : Nat) : Nat := (List.range k).foldl (fun m i => min m (winO u i l)) u.length

def mostW (u : List Bool) (l : Nat) (k : Nat) : Nat := (List.range k).foldl (fun m i => max m (winO u i l)) 0

theorem leastW_succ (u : List Bool) (l k : Nat) : leastW u l (k + 1) = min (leastW u l k) (winO u k l) := by
  unfold leastW; rw [List.range_succ, List.foldl_append]; rfl

theorem mostW_succ (u : List Bool) (l k : Nat) : mostW u l (k + 1) = max (mostW u l k) (winO u k l) := by
  unfold mostW; rw [List.range_succ, List.foldl_append]; rfl

theorem leastW_bd (u : List Bool) (l k : Nat) : leastW u l k ≤ u.length := by
  induction k with
  | zero => exact Nat.le_refl _
  | succ k ih => rw [leastW_succ]; omega

theorem mostW_bd (u : List Bool) (l k : Nat) : mostW u l k ≤ l := by
  induction k with
  | zero => exact Nat.zero_le _
  | succ k ih => rw [mostW_succ]; have := winO_le u k l; omega

theorem leastW_iff (u : List Bool) (l k v : Nat) (hv : v ≤ u.length) : v ≤ leastW u l k ↔ ∀ i, i < k → v ≤ winO u i l := by
  induction k with
  | zero => exact ⟨fun _ i hi => by omega, fun _ => hv⟩
  | succ k ih =>
    rw [leastW_succ]
    constructor
    · intro h i hi
      by_cases c : i = k
      · subst c; omega
      · exact ih.1 (by omega) i (by omega)
    · intro h
      have a := ih.2 fun i hi => h i (by omega)
      have b := h k (by omega)
      omega

theorem mostW_iff (u : List Bool) (l k v : Nat) : mostW u l k ≤ v ↔ ∀ i, i < k → winO u i l ≤ v := by
  induction k with
  | zero => exact ⟨fun _ i hi => by omega, fun _ => Nat.zero_le _⟩
  | succ k ih =>
    rw [mostW_succ]
    constructor
    · intro h i hi
      by_cases c : i = k
      · subst c; omega
      · exact ih.1 (by omega) i (by omega)
    · intro h
      have a := ih.2 fun i hi => h i (by omega)
      have b := h k (by omega)
      omega

theorem even_iff {u : List Bool} {l : Nat} (hl : l ≤ u.length) : mostW u l (u.length + 1 - l) ≤ leastW u l (u.length + 1 - l) + 1 ↔ ∀ i j, i + l ≤ u.length → j + l ≤ u.length → winO u i l ≤ winO u j l + 1 := by
  rw [mostW_iff]
  constructor
  · intro h i j hi hj
    have a := h i (by omega)
    have b := (leastW_iff u l (u.length + 1 - l) (leastW u l (u.length + 1 - l)) (leastW_bd _ _ _)).1 (Nat.le_refl _) j (by omega)
    omega
  · intro h i hi
    have : winO u i l - 1 ≤ leastW u l (u.length + 1 - l) := by
      rw [leastW_iff _ _ _ _ (by have := winO_le u i l; omega)]
      intro j hj
      have := h i j (by omega) (by omega)
      omega
    omega

theorem bal_iff (u : List Bool) : Bal u ↔ ∀ l, 1 ≤ l → l ≤ u.length → mostW u l (u.length + 1 - l) ≤ leastW u l (u.length + 1 - l) + 1 := by
  constructor
  · intro h l _ hl
    rw [even_iff hl]
    exact fun i j hi hj => h i j l hi hj
  · intro h i j l hi hj
    by_cases c : l = 0
    · subst c
      have := winO_le u i 0
      omega
    · exact (even_iff (by omega)).1 (h l (by omega) (by omega)) i j hi hj

/-! ### words as texts -/

def byteB (b : Bool) : UInt8 := if b then 49 else 48

def txtB (u : List Bool) : ByteArray := ⟨(u.map byteB).toArray⟩

theorem txtB_size (u : List Bool) : (txtB u).size = u.length := by simp [txtB, ByteArray.size]

theorem txtB_toList (u : List Bool) : (txtB u).toList = u.map byteB := by unfold txtB; rw [ByteArray.toList_mk]

theorem byteB_inj {a b : Bool} (h : byteB a = byteB b) : a = b := by cases a <;> cases b <;> first | rfl | (exact absurd h (by decide))

theorem map_byteB_inj {u v : List Bool} (h : u.map byteB = v.map byteB) : u = v := by
  induction u generalizing v with
  | nil => cases v with
    | nil => rfl
    | cons b r => simp at h
  | cons a r ih => cases v with
    | nil => simp at h
    | cons b q =>
      simp only [List.map_cons, List.cons.injEq] at h
      rw [byteB_inj h.1, ih h.2]

theorem txtB_eq {u v : List Bool} : ((txtB u).toList == (txtB v).toList) = decide (u = v) := by
  rw [txtB_toList, txtB_toList]
  by_cases e : u = v
  · subst e; simp
  · rw [decide_eq_false e, beq_eq_false_iff_ne]
    exact fun h => e (map_byteB_inj h)

theorem txtB_append (u v : List Bool) : txtB u ++ txtB v = txtB (u ++ v) := by
  apply ByteArray.ext
  simp [txtB, ByteArray.data_append]

theorem txtB_get {u : List Bool} {i : Nat} (h : i < (txtB u).size) : (txtB u)[i] = byteB (u.getD i false) := by
  have h' : i < u.length := by rw [txtB_size] at h; exact h
  show (txtB u).data[i]'h = _
  simp [txtB, List.getD_eq_getElem?_getD, h']

theorem txtB_extract (u : List Bool) (a b : Nat) : (txtB u).extract a b = txtB ((u.drop a).take (b - a)) := by
  apply ByteArray.ext
  simp [txtB, ByteArray.data_extract]

/-- the texts of words: bytes 0 and 1 alone -/
def bitsOf (t : ByteArray) : List Bool := t.toList.map (· == 49)

theorem bits_txt (u : List Bool) : bitsOf (txtB u) = u := by
  unfold bitsOf
  rw [txtB_toList, List.map_map]
  conv => rhs; rw [← List.map_id u]
  refine List.map_congr_left fun b _ => ?_
  cases b <;> rfl

theorem txt_bits {t : ByteArray} (h : ∀ c ∈ t.toList, c = 48 ∨ c = 49) : txtB (bitsOf t) = t := by
  apply ByteArray.ext
  have e : t.data = t.toList.toArray := by rw [ByteArray.toList_eq]
  rw [e]
  show ((bitsOf t).map byteB).toArray = _
  congr 1
  unfold bitsOf
  rw [List.map_map]
  conv => rhs; rw [← List.map_id t.toList]
  refine List.map_congr_left fun c hc => ?_
  rcases h c hc with rfl | rfl <;> rfl
end Go.Proofs.YtejofckfnieolaaDoor
