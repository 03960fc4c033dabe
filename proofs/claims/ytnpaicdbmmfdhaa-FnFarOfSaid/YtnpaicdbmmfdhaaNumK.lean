/- The basis and the greatest digits, as they grow. -/
import Derived.Test.YtnpaicdbmmfdhaaNumF
set_option linter.unusedVariables false
namespace Go.Proofs.Ytnpaicdbmmfdhaa

def basK (T : List Nat) (b : Bool) (k : Nat) : List Nat := bif b then (T.take k).drop 1 else T.take k

def mostK (Q : List Nat) (b : Bool) (k : Nat) : List Nat := bif b then (Q.take k).drop 1 else match k with | 0 => [] | k + 1 => (Q.getD 0 0 - 1) :: (Q.take (k + 1)).drop 1

theorem take_addN (T : List Nat) {k : Nat} (h : k < T.length) : T.take (k + 1) = T.take k ++ [T.getD k 0] := by
  rw [List.take_add_one, List.getElem?_eq_getElem h, List.getD_eq_getElem?_getD, List.getElem?_eq_getElem h]; rfl

theorem drop_take_add (T : List Nat) {k : Nat} (h : k < T.length) (h1 : 1 ≤ k) : (T.take (k + 1)).drop 1 = (T.take k).drop 1 ++ [T.getD k 0] := by
  rw [take_addN T h, List.drop_append_of_le_length (by rw [List.length_take]; omega)]

theorem basK_skip (T : List Nat) : basK T true 1 = basK T true 0 := by
  show (T.take 1).drop 1 = (T.take 0).drop 1
  cases T with
  | nil => rfl
  | cons a t => simp

theorem mostK_skip (Q : List Nat) : mostK Q true 1 = mostK Q true 0 := basK_skip Q

theorem basK_add (T : List Nat) (b : Bool) {k : Nat} (h : k < T.length) (hb : b = true → 1 ≤ k) : basK T b (k + 1) = basK T b k ++ [T.getD k 0] := by
  cases b with
  | true => exact drop_take_add T h (hb rfl)
  | false => exact take_addN T h

theorem mostK_add (Q : List Nat) (b : Bool) {k : Nat} (h : k < Q.length) (h1 : 1 ≤ k) : mostK Q b (k + 1) = mostK Q b k ++ [Q.getD k 0] := by
  cases b with
  | true => exact drop_take_add Q h h1
  | false =>
    obtain ⟨j, rfl⟩ : ∃ j, k = j + 1 := ⟨k - 1, by omega⟩
    show (Q.getD 0 0 - 1) :: (Q.take (j + 1 + 1)).drop 1 = ((Q.getD 0 0 - 1) :: (Q.take (j + 1)).drop 1) ++ [Q.getD (j + 1) 0]
    rw [drop_take_add Q h h1]; rfl

theorem mostK_first (Q : List Nat) (h : 0 < Q.length) : mostK Q false 1 = mostK Q false 0 ++ [Q.getD 0 0 - 1] := by
  show (Q.getD 0 0 - 1) :: (Q.take 1).drop 1 = [] ++ [Q.getD 0 0 - 1]
  cases Q with
  | nil => simp at h
  | cons a t => simp

theorem mostK_len (Q : List Nat) (b : Bool) (k : Nat) : (mostK Q b k).length ≤ k := by
  cases b with
  | true => show ((Q.take k).drop 1).length ≤ k; simp; omega
  | false =>
    cases k with
    | zero => exact Nat.le_refl _
    | succ k => show ((Q.getD 0 0 - 1) :: (Q.take (k + 1)).drop 1).length ≤ k + 1; simp; omega

theorem basK_len (T : List Nat) (b : Bool) (k : Nat) : (basK T b k).length ≤ k := by
  cases b with
  | true => show ((T.take k).drop 1).length ≤ k; simp; omega
  | false => show (T.take k).length ≤ k; simp; omega

/-- what l9Basis goes by: the near times and the quotients of a turn -/
theorem bas_grow {n s : Nat} (h : tokN n s = true) : ∃ b : Bool, (nearN n s).length = (quotsN n s).length + 1 ∧ 1 ≤ (quotsN n s).length ∧ (quotsN n s).length ≤ 8 ∧ (nearN n s).getD 0 0 = 1 ∧
    (b = true ↔ (nearN n s).getD 1 0 = 1) ∧ (b = true → (quotsN n s).getD 0 0 = 1) ∧ 1 ≤ (quotsN n s).getD 0 0 ∧
    basK (nearN n s) b (quotsN n s).length = basN n s ∧ mostK (quotsN n s) b (quotsN n s).length = mostN n s := by
  have c := all_turns chkBas_all h
  unfold chkBas at c
  simp only [Bool.and_eq_true, Nat.ble_eq, Nat.beq_eq] at c
  obtain ⟨_, ⟨c1, c2⟩, c3, c4⟩ := c
  have hq8 := quots_len h
  have hq1 : 1 ≤ (quotsN n s).getD 0 0 := by
    have := quots_le h ((quotsN n s).getD 0 0) (by rw [List.getD_eq_getElem?_getD, List.getElem?_eq_getElem (by omega)]; simp)
    exact this.1
  refine ⟨Nat.beq ((quotsN n s).getD 0 0) 1, c1, c4, hq8, c3, ?_, fun e => Nat.eq_of_beq_eq_true e, hq1, ?_, ?_⟩
  · cases e : Nat.beq ((quotsN n s).getD 0 0) 1 with
    | true => rw [e] at c2; exact ⟨fun _ => Nat.eq_of_beq_eq_true c2, fun _ => rfl⟩
    | false =>
      rw [e] at c2
      refine ⟨fun h => (by cases h), fun h => ?_⟩
      rw [h] at c2
      cases c2
  · unfold basN
    have hd : (nearN n s).dropLast = (nearN n s).take (quotsN n s).length := by rw [List.dropLast_eq_take, c1]; rfl
    rw [hd]
    cases Nat.beq ((quotsN n s).getD 0 0) 1 with
    | true => rfl
    | false => rfl
  · unfold mostN
    have ht : (quotsN n s).take (quotsN n s).length = quotsN n s := List.take_length ..
    cases Nat.beq ((quotsN n s).getD 0 0) 1 with
    | true => show ((quotsN n s).take (quotsN n s).length).drop 1 = (quotsN n s).drop 1; rw [ht]
    | false =>
      obtain ⟨k, hk⟩ : ∃ k, (quotsN n s).length = k + 1 := ⟨(quotsN n s).length - 1, by omega⟩
      rw [hk] at ht ⊢
      show ((quotsN n s).getD 0 0 - 1) :: ((quotsN n s).take (k + 1)).drop 1 = ((quotsN n s).getD 0 0 - 1) :: (quotsN n s).drop 1
      rw [ht]
end Go.Proofs.Ytnpaicdbmmfdhaa
