/- What chapter 7's functions return, in plain numbers. -/
import Derived.Test.YtkhnnbgmckeoaaaRet2
set_option linter.unusedVariables false
namespace Go.Proofs.Ytkhnnbgmckeoaaa
open N

/-- the time of return -/
def retF (n s w p : Int) : Int := if tok n s = true ∧ 1 ≤ w ∧ w ≤ n ∧ 0 ≤ p ∧ p < w then retB n (invF n s) w p else -1

def landF (n s w p : Int) : Int := if tok n s = true ∧ 1 ≤ w ∧ w ≤ n ∧ 0 ≤ p ∧ p < w then nextT n (invF n s) w p else -1

def retsF (n s w : Int) : List Int := if tok n s = true ∧ 1 ≤ w ∧ w ≤ n then (List.range w.toNat).map (fun p : Nat => retB n (invF n s) w p) else []

def rtimesF (n s w : Int) : List Int := kindsL (retsF n s w)

def rlongF (n s w x : Int) : Int := if retsF n s w = [] then -1 else ((retsF n s w).count x : Nat)

def aupF (n s w : Int) : Int := if tok n s = true ∧ 2 ≤ w ∧ w ≤ n then retB n (invF n s) w 0 else -1

def adownF (n s w : Int) : Int := if tok n s = true ∧ 2 ≤ w ∧ w ≤ n then retB n (invF n (n - s)) w 0 else -1

def rbyF (n s w : Int) : List Int := if tok n s = true ∧ 2 ≤ w ∧ w ≤ n then
  [aupF n s w, w - pt n s (aupF n s w), adownF n s w, w - (n - pt n s (adownF n s w)), aupF n s w + adownF n s w, pt n s (aupF n s w) + (n - pt n s (adownF n s w)) - w] else []

theorem retF_yes {n s w p : Int} (ht : tok n s = true) (w1 : 1 ≤ w) (w2 : w ≤ n) (p0 : 0 ≤ p) (p1 : p < w) : retF n s w p = retB n (invF n s) w p := if_pos ⟨ht, w1, w2, p0, p1⟩

theorem retF_no {n s w p : Int} (h : ¬ (tok n s = true ∧ 1 ≤ w ∧ w ≤ n ∧ 0 ≤ p ∧ p < w)) : retF n s w p = -1 := if_neg h

theorem landF_yes {n s w p : Int} (ht : tok n s = true) (w1 : 1 ≤ w) (w2 : w ≤ n) (p0 : 0 ≤ p) (p1 : p < w) : landF n s w p = nextT n (invF n s) w p := if_pos ⟨ht, w1, w2, p0, p1⟩

theorem landF_no {n s w p : Int} (h : ¬ (tok n s = true ∧ 1 ≤ w ∧ w ≤ n ∧ 0 ≤ p ∧ p < w)) : landF n s w p = -1 := if_neg h

theorem retsF_yes {n s : Int} {w : Nat} (ht : tok n s = true) (w1 : 1 ≤ w) (w2 : (w : Int) ≤ n) : retsF n s w = (List.range w).map (fun p : Nat => retB n (invF n s) w p) := by
  unfold retsF; rw [if_pos ⟨ht, by omega, w2⟩, Int.toNat_natCast]

theorem retsF_no {n s w : Int} (h : ¬ (tok n s = true ∧ 1 ≤ w ∧ w ≤ n)) : retsF n s w = [] := if_neg h

theorem aupF_yes {n s w : Int} (ht : tok n s = true) (w1 : 2 ≤ w) (w2 : w ≤ n) : aupF n s w = retB n (invF n s) w 0 := if_pos ⟨ht, w1, w2⟩

theorem aupF_no {n s w : Int} (h : ¬ (tok n s = true ∧ 2 ≤ w ∧ w ≤ n)) : aupF n s w = -1 := if_neg h

theorem adownF_yes {n s w : Int} (ht : tok n s = true) (w1 : 2 ≤ w) (w2 : w ≤ n) : adownF n s w = retB n (invF n (n - s)) w 0 := if_pos ⟨ht, w1, w2⟩

theorem adownF_no {n s w : Int} (h : ¬ (tok n s = true ∧ 2 ≤ w ∧ w ≤ n)) : adownF n s w = -1 := if_neg h

theorem rbyF_no {n s w : Int} (h : ¬ (tok n s = true ∧ 2 ≤ w ∧ w ≤ n)) : rbyF n s w = [] := if_neg h

theorem rtimesF_no {n s w : Int} (h : ¬ (tok n s = true ∧ 1 ≤ w ∧ w ≤ n)) : rtimesF n s w = [] := by unfold rtimesF; rw [retsF_no h]; rfl

theorem retsF_len (n s w : Int) : (retsF n s w).length ≤ 60 := by
  by_cases h : tok n s = true ∧ 1 ≤ w ∧ w ≤ n
  · have hb := tok_bd h.1
    unfold retsF; rw [if_pos h, List.length_map, List.length_range]; omega
  · rw [retsF_no h]; simp

theorem rtimesF_len (n s w : Int) : (rtimesF n s w).length ≤ 60 := Nat.le_trans (kindsL_le _) (retsF_len n s w)

theorem rbyF_len (n s w : Int) : (rbyF n s w).length ≤ 60 := by
  by_cases h : tok n s = true ∧ 2 ≤ w ∧ w ≤ n
  · unfold rbyF; rw [if_pos h]; simp
  · rw [rbyF_no h]; simp

/-- the times of return of an arc's points, one after the other -/
def retsT (n s : Int) (u : Nat) : List Int := (List.range u).map (fun p : Nat => retB n (invF n s) u p)

theorem retsT_len (n s : Int) (u : Nat) : (retsT n s u).length = u := by unfold retsT; simp

theorem retsT_getD (n s : Int) {u k : Nat} (h : k < u) : (retsT n s u).getD k 0 = retB n (invF n s) u k := by
  unfold retsT
  rw [List.getD_eq_getElem?_getD, List.getElem?_map, List.getElem?_range h]; rfl

theorem retsT_take {n s : Int} {u k : Nat} (h : k < u) : (retsT n s u).take (k + 1) = (retsT n s u).take k ++ [retB n (invF n s) u k] := by
  rw [take_one _ (by rw [retsT_len]; exact h), retsT_getD n s h]

theorem retsF_T {n s : Int} {w : Nat} (ht : tok n s = true) (w1 : 1 ≤ w) (w2 : (w : Int) ≤ n) : retsF n s w = retsT n s w := retsF_yes ht w1 w2

theorem rlong_yes {n s : Int} {w : Nat} (ht : tok n s = true) (w1 : 1 ≤ w) (w2 : (w : Int) ≤ n) (x : Int) : rlongF n s w x = ((retsT n s w).count x : Nat) := by
  unfold rlongF
  rw [retsF_T ht w1 w2, if_neg]
  intro e
  have := retsT_len n s w
  rw [e] at this; simp at this; omega

theorem rlong_no {n s w x : Int} (h : ¬ (tok n s = true ∧ 1 ≤ w ∧ w ≤ n)) : rlongF n s w x = -1 := by unfold rlongF; rw [if_pos (retsF_no h)]

theorem retF_bd {n s w p : Int} (ht : tok n s = true) (w1 : 1 ≤ w) (w2 : w ≤ n) (p0 : 0 ≤ p) (p1 : p < w) : 1 ≤ retF n s w p ∧ retF n s w p ≤ n := by
  rw [retF_yes ht w1 w2 p0 p1]
  obtain ⟨w, rfl⟩ := Int.eq_ofNat_of_zero_le (by omega : 0 ≤ w)
  obtain ⟨p, rfl⟩ := Int.eq_ofNat_of_zero_le p0
  exact ret_bd (tok_inv ht) (by omega) w2 (by omega)

/-- the point so many steps after a point -/
def fromP (n s p : Int) (k : Nat) : Int := (p + (k : Int) * s) % n

theorem fromP_lo {n : Int} (s p : Int) (k : Nat) (h : 2 ≤ n) : 0 ≤ fromP n s p k := Int.emod_nonneg _ (by omega)

theorem fromP_hi {n : Int} (s p : Int) (k : Nat) (h : 2 ≤ n) : fromP n s p k < n := Int.emod_lt_of_pos _ (by omega)

theorem fromP_succ (n s p : Int) (k : Nat) : (fromP n s p k + s) % n = fromP n s p (k + 1) := by
  unfold fromP
  rw [Int.emod_add_emod, Int.add_assoc, show (k : Int) * s + s = ((k + 1 : Nat) : Int) * s by rw [Int.natCast_add, Int.add_mul]; simp]

theorem fromP_one (n s p : Int) : fromP n s p 1 = (p + s) % n := by unfold fromP; simp

theorem fromP_zero (n s : Int) (k : Nat) : fromP n s 0 k = (k : Int) * s % n := by unfold fromP; rw [Int.zero_add]

/-- the first of K times at which something holds -/
structure IsFirst (P : Int → Bool) (n s p : Int) (K : Nat) : Prop where
  pos : 1 ≤ K
  le : (K : Int) ≤ n
  hit : P (fromP n s p K) = true
  miss : ∀ j : Nat, 1 ≤ j → j < K → P (fromP n s p j) = false

theorem ret_first {n s w p : Int} (ht : tok n s = true) (w1 : 1 ≤ w) (w2 : w ≤ n) (p0 : 0 ≤ p) (p1 : p < w) :
    ∃ K : Nat, retF n s w p = K ∧ IsFirst (fun x => decide (x < w)) n s p K ∧ landF n s w p = fromP n s p K := by
  have hbd := retF_bd ht w1 w2 p0 p1
  obtain ⟨K, hK⟩ := Int.eq_ofNat_of_zero_le (by omega : 0 ≤ retF n s w p)
  have e := retF_yes ht w1 w2 p0 p1
  obtain ⟨a, l⟩ := ret_is ht w1 w2 p0 p1
  rw [← e, hK] at a l
  refine ⟨K, hK, ⟨by omega, by omega, (by show decide (fromP n s p K < w) = true; unfold fromP; exact decide_eq_true a.hit), fun j j1 j2 => ?_⟩, ?_⟩
  · have := a.miss j (by omega) (by omega)
    show decide (fromP n s p j < w) = false; unfold fromP; exact decide_eq_false (by omega)
  · rw [landF_yes ht w1 w2 p0 p1]; exact l.symm

theorem up_first {n s w : Int} (ht : tok n s = true) (w1 : 2 ≤ w) (w2 : w ≤ n) :
    ∃ K : Nat, aupF n s w = K ∧ IsFirst (fun x => decide (x < w)) n s 0 K := by
  obtain ⟨K, a, b, _⟩ := ret_first ht (by omega : 1 ≤ w) w2 (Int.le_refl 0) (by omega)
  rw [retF_yes ht (by omega) w2 (Int.le_refl 0) (by omega)] at a
  exact ⟨K, by rw [aupF_yes ht w1 w2]; exact a, b⟩

theorem down_lt {n s w : Int} (ht : tok n s = true) (w1 : 2 ≤ w) (w2 : w ≤ n) : 1 ≤ adownF n s w ∧ adownF n s w < n := by
  have hb := tok_bd ht
  have hk : tok n (n - s) = true := by rw [tok_back]; exact ht
  have a := (ret_is hk (by omega : 1 ≤ w) w2 (Int.le_refl 0) (by omega)).1
  rw [adownF_yes ht w1 w2]
  refine ⟨a.pos, ?_⟩
  rw [ret_zero (tok_inv hk) w1 w2]; exact pt_hi _ _ (by omega)

theorem up_lt {n s w : Int} (ht : tok n s = true) (w1 : 2 ≤ w) (w2 : w ≤ n) : 1 ≤ aupF n s w ∧ aupF n s w < n := by
  have hb := tok_bd ht
  have a := (ret_is ht (by omega : 1 ≤ w) w2 (Int.le_refl 0) (by omega)).1
  rw [aupF_yes ht w1 w2]
  refine ⟨a.pos, ?_⟩
  rw [ret_zero (tok_inv ht) w1 w2]; exact pt_hi _ _ (by omega)

theorem down_first {n s w : Int} (ht : tok n s = true) (w1 : 2 ≤ w) (w2 : w ≤ n) :
    ∃ K : Nat, adownF n s w = K ∧ IsFirst (fun x => decide (n - w < x)) n s 0 K := by
  have hbd := down_lt ht w1 w2
  have hk : tok n (n - s) = true := by rw [tok_back]; exact ht
  obtain ⟨K, hK⟩ := Int.eq_ofNat_of_zero_le (by omega : 0 ≤ adownF n s w)
  have e := adownF_yes ht w1 w2
  have a := (ret_is hk (by omega : 1 ≤ w) w2 (Int.le_refl 0) (by omega)).1
  rw [← e, hK] at a
  have key : ∀ j : Int, 1 ≤ j → j < n → (0 + j * (n - s)) % n = n - (0 + j * s) % n := fun j j1 j2 => by
    rw [Int.zero_add, Int.zero_add]; exact pt_back ht j1 j2
  refine ⟨K, hK, ⟨by omega, by omega, ?_, fun j j1 j2 => ?_⟩⟩
  · have := a.hit
    rw [key _ (by omega) (by omega)] at this
    show decide (n - w < fromP n s 0 K) = true; unfold fromP; exact decide_eq_true (by omega)
  · have := a.miss j (by omega) (by omega)
    rw [key _ (by omega) (by omega)] at this
    show decide (n - w < fromP n s 0 j) = false; unfold fromP; exact decide_eq_false (by omega)
end Go.Proofs.Ytkhnnbgmckeoaaa
