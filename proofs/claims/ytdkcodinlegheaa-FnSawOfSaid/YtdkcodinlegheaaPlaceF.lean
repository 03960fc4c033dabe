/- What chapter 8's functions answer, in plain numbers. -/
import Derived.Test.YtdkcodinlegheaaPlace
import Derived.Test.YtdkcodinlegheaaGQuot
import Derived.Test.YtdkcodinlegheaaGWord
set_option linter.unusedVariables false
namespace Go.Proofs.Ytdkcodinlegheaa

def oneF (n s k : Int) : Int := if tok n s = true ∧ 1 ≤ k ∧ k ≤ s then ((oneAt n.toNat s.toNat k.toNat : Nat) : Int) - 1 else -1

theorem oneF_yes {n s k : Int} (h : tok n s = true) (h0 : 1 ≤ k) (h1 : k ≤ s) : oneF n s k = ((oneAt n.toNat s.toNat k.toNat : Nat) : Int) - 1 := if_pos ⟨h, h0, h1⟩

theorem oneF_no {n s k : Int} (h : ¬ (tok n s = true ∧ 1 ≤ k ∧ k ≤ s)) : oneF n s k = -1 := if_neg h

def noughtF (n s k : Int) : Int := if tok n s = true ∧ 1 ≤ k ∧ k ≤ n - s then ((noughtAt n.toNat s.toNat k.toNat : Nat) : Int) else -1

theorem noughtF_yes {n s k : Int} (h : tok n s = true) (h0 : 1 ≤ k) (h1 : k ≤ n - s) : noughtF n s k = ((noughtAt n.toNat s.toNat k.toNat : Nat) : Int) := if_pos ⟨h, h0, h1⟩

theorem noughtF_no {n s k : Int} (h : ¬ (tok n s = true ∧ 1 ≤ k ∧ k ≤ n - s)) : noughtF n s k = -1 := if_neg h

theorem oneAt_mono {n s i : Nat} (hn : 0 < n) (hs : 0 < s) : oneAt n s i ≤ oneAt n s (i + 1) := by
  have h := (ones_iff (i := i + 1) (m := oneAt n s (i + 1)) hn hs).2 (Nat.le_refl _)
  exact (ones_iff hn hs).1 (by omega)

/-- the i-th one is where the ones become i -/
theorem oneAt_of {n s i k : Nat} (hn : 0 < n) (hs : 0 < s) (h0 : flN n s k < i) (h1 : i ≤ flN n s (k + 1)) : oneAt n s i = k + 1 := by
  have a := (ones_iff (i := i) (m := k + 1) hn hs).1 h1
  have b : ¬ oneAt n s i ≤ k := fun h => by have := (ones_iff hn hs).2 h; omega
  omega

theorem fl_all {n s : Nat} (hn : 0 < n) : flN n s n = s := by unfold flN; exact Nat.mul_div_cancel_left s hn

/-- the i-th nought is where the noughts become i -/
theorem noughtAt_of {n s i k : Nat} (hn : 0 < n) (hs : s < n) (hi : 1 ≤ i) (h0 : k - flN n s k < i) (h1 : i ≤ (k + 1) - flN n s (k + 1)) : noughtAt n s i = k := by
  obtain ⟨a, b, _⟩ := nought_place hn hs hi
  have mono : ∀ d x, x - flN n s x ≤ (x + d) - flN n s (x + d) := by
    intro d
    induction d with
    | zero => intro x; exact Nat.le_refl _
    | succ d ih =>
      intro x
      refine Nat.le_trans (ih x) ?_
      have c := fl_succ hn (by omega : s ≤ n) (x + d)
      have l := fl_le hn (by omega : s ≤ n) (x + d)
      rw [show x + (d + 1) = x + d + 1 by omega]
      cases e : letN n s (x + d) with
      | true => rw [e] at c; simp at c; omega
      | false => rw [e] at c; simp at c; omega
  generalize noughtAt n s i = q at *
  by_cases c : q < k
  · have := mono (k - (q + 1)) (q + 1)
    rw [show q + 1 + (k - (q + 1)) = k by omega] at this
    omega
  · by_cases d : k < q
    · have := mono (q - (k + 1)) (k + 1)
      rw [show k + 1 + (q - (k + 1)) = q by omega] at this
      omega
    · omega

def spacesF (n s : Int) : List Int := if tok n s = true then (List.range s.toNat).map fun i => ((spaceN n.toNat s.toNat i : Nat) : Int) else []

theorem spacesF_yes {n s : Int} (h : tok n s = true) : spacesF n s = (List.range s.toNat).map fun i => ((spaceN n.toNat s.toNat i : Nat) : Int) := if_pos h

theorem spacesF_no {n s : Int} (h : ¬ tok n s = true) : spacesF n s = [] := if_neg h

theorem spacesF_len (n s : Int) : (spacesF n s).length ≤ 60 := by
  by_cases h : tok n s = true
  · have := tok_bd h
    rw [spacesF_yes h]; simp; omega
  · rw [spacesF_no h]; simp

/-- the beginning of the distances -/
def spL (N S k : Nat) : List Int := (List.range k).map fun i => ((spaceN N S i : Nat) : Int)

theorem spL_len (N S k : Nat) : (spL N S k).length = k := by simp [spL]

theorem spL_succ (N S k : Nat) : spL N S (k + 1) = spL N S k ++ [((spaceN N S k : Nat) : Int)] := by simp [spL, List.range_succ]

theorem spL_getD (N S k i : Nat) (h : i < k) : (spL N S k).getD i 0 = ((spaceN N S i : Nat) : Int) := by simp [spL, List.getD_eq_getElem?_getD, h]

theorem space_int {N S k : Nat} (hn : 0 < N) (hs : 0 < S) : (((oneAt N S (k + 1) : Nat) : Int) - 1) - (((oneAt N S k : Nat) : Int) - 1) = ((spaceN N S k : Nat) : Int) := by
  have := oneAt_mono (i := k) hn hs
  unfold spaceN
  omega

def innP (n s : Int) : Bool := decide (tok n s = true ∧ 2 ≤ s)

def innF (n s : Int) : Int × Int := if innP n s then (s, n % s) else (0, 0)

theorem innP_yes {n s : Int} (h : tok n s = true) (h2 : 2 ≤ s) : innP n s = true := decide_eq_true ⟨h, h2⟩

theorem innP_no {n s : Int} (h : ¬ (tok n s = true ∧ 2 ≤ s)) : innP n s = false := decide_eq_false h

theorem innF_yes {n s : Int} (h : tok n s = true) (h2 : 2 ≤ s) : innF n s = (s, n % s) := by unfold innF; rw [innP_yes h h2]; rfl

theorem innF_no {n s : Int} (h : ¬ (tok n s = true ∧ 2 ≤ s)) : innF n s = (0, 0) := by unfold innF; rw [innP_no h]; rfl

theorem tok_inn {n s : Int} (h : tok n s = true) (h2 : 2 ≤ s) : tok s (n % s) = true := by
  obtain ⟨N, S, rfl, rfl, hN⟩ := tokN_of h
  have := tok_of_tokN (tok_inner hN (by omega))
  simpa using this

/-- all inner turns, as long as there are some -/
def innL : Nat → Int → Int → List (Int × Int)
  | 0, _, _ => []
  | f + 1, n, s => (n, s) :: (if innP n s then innL f (innF n s).1 (innF n s).2 else [])

def innersF (n s : Int) : List (Int × Int) := if tok n s = true then innL s.toNat n s else []

theorem innersF_yes {n s : Int} (h : tok n s = true) : innersF n s = innL s.toNat n s := if_pos h

theorem innersF_no {n s : Int} (h : ¬ tok n s = true) : innersF n s = [] := if_neg h

/-- more fuel makes no more of them -/
theorem innL_fuel : ∀ (f g : Nat) (n s : Int), tok n s = true → s.toNat ≤ f → s.toNat ≤ g → innL f n s = innL g n s := by
  intro f
  induction f with
  | zero => intro g n s h h1; have := tok_bd h; omega
  | succ f ih =>
    intro g n s h h1 h2
    have hb := tok_bd h
    match g, h2 with
    | 0, h2 => omega
    | g + 1, h2 =>
      show (n, s) :: (if innP n s then innL f (innF n s).1 (innF n s).2 else []) = (n, s) :: (if innP n s then innL g (innF n s).1 (innF n s).2 else [])
      by_cases c : 2 ≤ s
      · have hm := Int.emod_lt_of_pos n (show 0 < s by omega)
        have hm0 := Int.emod_nonneg n (show s ≠ 0 by omega)
        rw [innP_yes h c, innF_yes h c]
        show _ :: innL f s (n % s) = _ :: innL g s (n % s)
        rw [ih g s (n % s) (tok_inn h c) (by omega) (by omega)]
      · rw [innP_no (fun q => c q.2)]; rfl

theorem innersF_succ {n s : Int} (h : tok n s = true) (h2 : 2 ≤ s) : innersF n s = (n, s) :: innersF s (n % s) := by
  rw [innersF_yes h, innersF_yes (tok_inn h h2)]
  have hm := Int.emod_lt_of_pos n (show 0 < s by omega)
  have hm0 := Int.emod_nonneg n (show s ≠ 0 by omega)
  obtain ⟨f, hf⟩ : ∃ f, s.toNat = f + 1 := ⟨s.toNat - 1, by omega⟩
  rw [hf]
  show (n, s) :: (if innP n s then innL f (innF n s).1 (innF n s).2 else []) = _
  rw [innP_yes h h2, innF_yes h h2, innL_fuel f (n % s).toNat s (n % s) (tok_inn h h2) (by omega) (Nat.le_refl _)]
  rfl

theorem innersF_last {n s : Int} (h : tok n s = true) (h2 : ¬ 2 ≤ s) : innersF n s = [(n, s)] := by
  have hb := tok_bd h
  rw [innersF_yes h]
  obtain ⟨f, hf⟩ : ∃ f, s.toNat = f + 1 := ⟨s.toNat - 1, by omega⟩
  rw [hf]
  show (n, s) :: (if innP n s then innL f (innF n s).1 (innF n s).2 else []) = _
  rw [innP_no (fun q => h2 q.2)]
  rfl

/-- as many as quotients, falling, down to a step of 1 -/
theorem inners_facts : ∀ (f : Nat) (n s : Int), s.toNat ≤ f → tok n s = true →
    (innersF n s).length = (quotF n s).length ∧ (innersF n s).getD 0 (0, 0) = (n, s) ∧
    ((innersF n s).getD ((innersF n s).length - 1) (0, 0)).2 = 1 ∧
    (∀ k, 1 ≤ k → k < (innersF n s).length → ((innersF n s).getD k (0, 0)).1 < ((innersF n s).getD (k - 1) (0, 0)).1) := by
  intro f
  induction f with
  | zero => intro n s h1 h; have := tok_bd h; omega
  | succ f ih =>
    intro n s h1 h
    have hb := tok_bd h
    obtain ⟨N, S, rfl, rfl, hN⟩ := tokN_of h
    by_cases c : 2 ≤ (S : Int)
    · have hm := Int.emod_lt_of_pos (N : Int) (show 0 < (S : Int) by omega)
      have hm0 := Int.emod_nonneg (N : Int) (show (S : Int) ≠ 0 by omega)
      obtain ⟨a1, a2, a3, a4⟩ := ih S ((N : Int) % S) (by omega) (tok_inn h c)
      have hq : quotF N S = ((N / S : Nat) : Int) :: quotF S ((N : Int) % S) := by
        have e : (N : Int) % S = ((N % S : Nat) : Int) := by simp
        rw [e, quotF_yes hN, quotF_yes (tok_inner hN (by omega)), quots_inner hN (by omega)]
        rfl
      rw [innersF_succ h c, hq]
      generalize innersF S ((N : Int) % S) = L at *
      have hL : 1 ≤ L.length := by
        by_cases c0 : L.length = 0
        · have := List.length_eq_zero_iff.1 c0
          subst this
          simp at a2
          omega
        · omega
      refine ⟨by simp [a1], rfl, ?_, ?_⟩
      · rw [List.length_cons, Nat.add_sub_cancel]
        obtain ⟨m, hm⟩ : ∃ m, L.length = m + 1 := ⟨L.length - 1, by omega⟩
        rw [hm] at a3 ⊢
        simpa using a3
      · intro k k1 k2
        obtain ⟨m, rfl⟩ : ∃ m, k = m + 1 := ⟨k - 1, by omega⟩
        rw [Nat.add_sub_cancel]
        rw [List.length_cons] at k2
        by_cases c0 : m = 0
        · subst c0
          show (L.getD 0 (0, 0)).1 < (N : Int)
          rw [a2]
          show (S : Int) < N
          omega
        · obtain ⟨j, rfl⟩ : ∃ j, m = j + 1 := ⟨m - 1, by omega⟩
          have := a4 (j + 1) (by omega) (by omega)
          simpa using this
    · have hs : S = 1 := by omega
      rw [innersF_last h c, quotF_yes hN, quots_last hN hs]
      subst hs
      refine ⟨rfl, rfl, rfl, ?_⟩
      intro k k1 k2
      simp at k2
      omega

theorem inners_len (n s : Int) : (innersF n s).length ≤ 8 := by
  by_cases h : tok n s = true
  · rw [(inners_facts _ n s (Nat.le_refl _) h).1]
    exact quotF_len n s
  · rw [innersF_no h]; simp

/-- what the law on one inner turn says -/
theorem quot_inn {n s : Int} (h : tok n s = true) (h2 : 2 ≤ s) : 1 < (quotF n s).length ∧ quotF s (n % s) = (quotF n s).drop 1 := by
  obtain ⟨N, S, rfl, rfl, hN⟩ := tokN_of h
  have e : (N : Int) % S = ((N % S : Nat) : Int) := by simp
  have hi := tok_inner hN (by omega)
  rw [e, quotF_yes hN, quotF_yes hi, quots_inner hN (by omega)]
  refine ⟨?_, rfl⟩
  have : (quotsN S (N % S)).length ≠ 0 := by
    obtain ⟨a, b, c, d, e⟩ := tokN_bd hi
    unfold quotsN
    obtain ⟨k, hk⟩ : ∃ k, S = k + 1 := ⟨S - 1, by omega⟩
    rw [hk]
    intro h0
    have h1 : (quotsF (k + 1) (k + 1) (N % (k + 1))).length = 0 := by simpa using h0
    rw [quotsF_pos (by rw [hk] at c; omega)] at h1
    simp at h1
  rw [castL_len, List.length_cons]
  omega
end Go.Proofs.Ytdkcodinlegheaa
