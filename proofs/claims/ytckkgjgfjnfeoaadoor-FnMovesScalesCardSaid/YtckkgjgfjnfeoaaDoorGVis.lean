/- Plain numbers: visits to arcs, and the excess told by few points. Plain numbers: what the functions of chapter 6 answer. -/
import Derived.Test.YtckkgjgfjnfeoaaDoorGRec
import Derived.Test.YtckkgjgfjnfeoaaDoorGMath
set_option linter.unusedVariables false
namespace Go.Proofs.YtckkgjgfjnfeoaaDoor
set_option maxRecDepth 4000
open N
variable {n s : Int}

/-- the point, seen from a point f -/
def relP (n s f : Int) (k : Nat) : Int := ((k : Int) * s + n - f) % n

theorem relP_bd (h0 : 2 ≤ n) (f : Int) (k : Nat) : 0 ≤ relP n s f k ∧ relP n s f k < n := ⟨Int.emod_nonneg _ (by omega), Int.emod_lt_of_pos _ (by omega)⟩

theorem relP_pt (h0 : 2 ≤ n) {f : Int} (f0 : 0 ≤ f) (f1 : f < n) (k : Nat) : relP n s f k = if f ≤ pt n s k then pt n s k - f else pt n s k - f + n := by
  have a := pt_lo (n := n) s (k : Int) h0
  have b := pt_hi (n := n) s (k : Int) h0
  have e : relP n s f k = (pt n s k - f) % n := by
    unfold relP pt
    rw [show (k : Int) * s + n - f = (k : Int) * s - f + n by omega, Int.add_emod_right, Int.emod_sub_emod]
  rw [e]
  by_cases c : f ≤ pt n s k
  · rw [if_pos c]; exact Int.emod_eq_of_lt (by omega) (by omega)
  · rw [if_neg c, ← Int.add_emod_right]; exact Int.emod_eq_of_lt (by omega) (by omega)

def visC (n s f w : Int) (m : Nat) : Nat := (List.range m).countP fun k => decide (relP n s f k < w)

theorem visC_zero (n s f w : Int) : visC n s f w 0 = 0 := rfl

theorem visC_succ (n s f w : Int) (m : Nat) : visC n s f w (m + 1) = visC n s f w m + (decide (relP n s f m < w)).toNat := by
  unfold visC
  rw [List.range_succ, List.countP_append]
  cases h : decide (relP n s f m < w) <;> simp [h]

theorem visC_le (n s f w : Int) (m : Nat) : visC n s f w m ≤ m := by
  have := List.countP_le_length (p := fun k => decide (relP n s f k < w)) (l := List.range m)
  simpa [visC] using this

/-- arcs that make up the circle -/
theorem vis_rest (h0 : 2 ≤ n) {f w : Int} (f0 : 0 ≤ f) (f1 : f < n) (w0 : 0 ≤ w) (w1 : w ≤ n) (m : Nat) : visC n s f w m + visC n s ((f + w) % n) (n - w) m = m := by
  induction m with
  | zero => rfl
  | succ m ih =>
    rw [visC_succ, visC_succ]
    have g0 := Int.emod_nonneg (f + w) (by omega : n ≠ 0)
    have g1 : (f + w) % n < n := Int.emod_lt_of_pos (f + w) (by omega)
    have e1 := relP_pt (s := s) h0 f0 f1 m
    have e2 := relP_pt (s := s) h0 g0 g1 m
    have a := pt_lo (n := n) s (m : Int) h0
    have b := pt_hi (n := n) s (m : Int) h0
    have hfw : (f + w) % n = if f + w < n then f + w else f + w - n := by
      by_cases c : f + w < n
      · rw [if_pos c]; exact Int.emod_eq_of_lt (by omega) c
      · rw [if_neg c]
        have h3 : (f + w - n + n) % n = (f + w - n) % n := Int.add_emod_right ..
        rw [show f + w - n + n = f + w by omega] at h3
        rw [h3]; exact Int.emod_eq_of_lt (by omega) (by omega)
    rw [e1, e2]
    rw [hfw] at ih ⊢
    have key : (decide ((if f ≤ pt n s m then pt n s m - f else pt n s m - f + n) < w)).toNat + (decide ((if (if f + w < n then f + w else f + w - n) ≤ pt n s m then pt n s m - (if f + w < n then f + w else f + w - n) else pt n s m - (if f + w < n then f + w else f + w - n) + n) < n - w)).toNat = 1 := by
      generalize pt n s m = p at *
      by_cases c1 : f + w < n
      · simp only [if_pos c1]
        by_cases c2 : f ≤ p
        · simp only [if_pos c2]
          by_cases c3 : f + w ≤ p
          · simp only [if_pos c3]
            rw [decide_eq_false (by omega), decide_eq_true (by omega)]; rfl
          · simp only [if_neg c3]
            rw [decide_eq_true (by omega), decide_eq_false (by omega)]; rfl
        · simp only [if_neg c2, if_neg (show ¬ f + w ≤ p by omega)]
          rw [decide_eq_false (by omega), decide_eq_true (by omega)]; rfl
      · simp only [if_neg c1]
        by_cases c2 : f ≤ p
        · simp only [if_pos c2, if_pos (show f + w - n ≤ p by omega)]
          rw [decide_eq_true (by omega), decide_eq_false (by omega)]; rfl
        · simp only [if_neg c2]
          by_cases c3 : f + w - n ≤ p
          · simp only [if_pos c3]
            rw [decide_eq_false (by omega), decide_eq_true (by omega)]; rfl
          · simp only [if_neg c3]
            rw [decide_eq_true (by omega), decide_eq_false (by omega)]; rfl
    omega

/-- from a point on -/
theorem vis_from (h0 : 2 ≤ n) {f w : Int} (f0 : 0 ≤ f) (f1 : f < n) (w0 : 0 ≤ w) (h : f + w ≤ n) (m : Nat) : visC n s f w m + visC n s 0 f m = visC n s 0 (f + w) m := by
  induction m with
  | zero => rfl
  | succ m ih =>
    rw [visC_succ, visC_succ, visC_succ]
    have e1 := relP_pt (s := s) h0 f0 f1 m
    have e2 := relP_pt (s := s) h0 (Int.le_refl 0) (by omega) m
    have a := pt_lo (n := n) s (m : Int) h0
    have b := pt_hi (n := n) s (m : Int) h0
    rw [if_pos a, Int.sub_zero] at e2
    rw [e1, e2]
    generalize pt n s m = p at *
    have key : (decide ((if f ≤ p then p - f else p - f + n) < w)).toNat + (decide (p < f)).toNat = (decide (p < f + w)).toNat := by
      by_cases c : f ≤ p
      · rw [if_pos c, decide_eq_false (show ¬ p < f by omega)]
        by_cases c2 : p < f + w
        · rw [decide_eq_true c2, decide_eq_true (by omega)]; rfl
        · rw [decide_eq_false c2, decide_eq_false (by omega)]; rfl
      · rw [if_neg c, decide_eq_true (show p < f by omega), decide_eq_true (show p < f + w by omega), decide_eq_false (by omega)]; rfl
    omega

/-- one point more is met once at most -/
theorem vis_more (ht : tok n s = true) {w : Int} (w0 : 0 ≤ w) (w1 : w < n) {m : Nat} (hm : (m : Int) ≤ n) : visC n s 0 (w + 1) m = visC n s 0 w m ∨ visC n s 0 (w + 1) m = visC n s 0 w m + 1 := by
  have hb := tok_bd ht
  have hT := turns_of ht
  have key : ∀ k : Nat, (k : Int) ≤ n → visC n s 0 (w + 1) k = visC n s 0 w k + (decide (∃ j : Nat, j < k ∧ pt n s j = w)).toNat := by
    intro k
    induction k with
    | zero =>
      intro _
      rw [visC_zero, visC_zero, decide_eq_false (fun ⟨j, hj, _⟩ => by omega)]; rfl
    | succ k ih =>
      intro hk
      have i := ih (by omega)
      rw [visC_succ, visC_succ, i]
      have a := pt_lo (n := n) s (k : Int) (by omega)
      have e2 := relP_pt (s := s) (n := n) (by omega) (Int.le_refl 0) (by omega) k
      rw [if_pos a, Int.sub_zero] at e2
      rw [e2]
      by_cases c : pt n s k = w
      · have hno : ¬ ∃ j : Nat, j < k ∧ pt n s j = w := fun ⟨j, hj, e⟩ => by
          have := hT.inj j k (by omega) (by omega) (by omega) (by omega) (by omega)
          omega
        rw [decide_eq_false hno, decide_eq_true (show ∃ j : Nat, j < k + 1 ∧ pt n s j = w from ⟨k, by omega, c⟩), decide_eq_true (by omega), decide_eq_false (by omega)]
      · have hiff : (∃ j : Nat, j < k + 1 ∧ pt n s j = w) ↔ ∃ j : Nat, j < k ∧ pt n s j = w := ⟨fun ⟨j, hj, e⟩ => ⟨j, by
          by_cases cj : j = k
          · subst cj; exact absurd e c
          · omega, e⟩, fun ⟨j, hj, e⟩ => ⟨j, by omega, e⟩⟩
        have hd : decide (pt n s k < w + 1) = decide (pt n s k < w) := decide_eq_decide.2 ⟨fun h => by omega, fun h => by omega⟩
        rw [hd, decide_eq_decide.2 hiff]
        omega
  rw [key m hm]
  cases decide (∃ j : Nat, j < m ∧ pt n s j = w)
  · exact .inl rfl
  · exact .inr rfl

theorem vis_none (h0 : 2 ≤ n) (f : Int) (m : Nat) : visC n s f 0 m = 0 := by
  induction m with
  | zero => rfl
  | succ m ih =>
    rw [visC_succ, ih, decide_eq_false (by have := (relP_bd (s := s) h0 f m).1; omega)]; rfl

theorem vis_whole (h0 : 2 ≤ n) (f : Int) (m : Nat) : visC n s f n m = m := by
  induction m with
  | zero => rfl
  | succ m ih =>
    rw [visC_succ, ih, decide_eq_true (by have := (relP_bd (s := s) h0 f m).2; omega)]; rfl

/-- at most so many points -/
theorem vis_points (ht : tok n s = true) {w : Nat} (w1 : (w : Int) ≤ n) {m : Nat} (hm : (m : Int) ≤ n) : visC n s 0 w m ≤ w := by
  have hb := tok_bd ht
  have key : ∀ w : Nat, (w : Int) ≤ n → visC n s 0 w m ≤ w := by
    intro w
    induction w with
    | zero => intro _; rw [Int.natCast_zero, vis_none (by omega)]; exact Nat.le_refl _
    | succ w ih =>
      intro hw
      have i := ih (by omega)
      have := vis_more ht (w := (w : Int)) (by omega) (by omega) hm
      rw [show ((w + 1 : Nat) : Int) = (w : Int) + 1 by omega]
      omega
  exact key w w1

/-- in Size times each point is met -/
theorem vis_all0 (ht : tok n s = true) {w m : Nat} (w1 : (w : Int) ≤ n) (hm : (m : Int) = n) : visC n s 0 w m = w := by
  have hb := tok_bd ht
  have h0 : 2 ≤ n := by omega
  have up := vis_points ht (m := m) w1 (by omega)
  -- what lacks
  have key : ∀ d : Nat, (d : Int) ≤ n → m ≤ visC n s 0 (n - d) m + d := by
    intro d
    induction d with
    | zero => intro _; rw [Int.natCast_zero, Int.sub_zero, vis_whole h0]; omega
    | succ d ih =>
      intro hd
      have i := ih (by omega)
      have := vis_more ht (w := n - ((d + 1 : Nat) : Int)) (by omega) (by omega) (m := m) (by omega)
      rw [show n - ((d + 1 : Nat) : Int) + 1 = n - d by omega] at this
      omega
  have k := key (m - w) (by omega)
  rw [show n - ((m - w : Nat) : Int) = w by omega] at k
  omega

theorem vis_all (ht : tok n s = true) {f : Int} {w m : Nat} (f0 : 0 ≤ f) (f1 : f < n) (w1 : (w : Int) ≤ n) (hm : (m : Int) = n) : visC n s f w m = w := by
  have hb := tok_bd ht
  have h0 : 2 ≤ n := by omega
  obtain ⟨f, rfl⟩ := Int.eq_ofNat_of_zero_le f0
  by_cases c : (f : Int) + w ≤ n
  · have h := vis_from (s := s) h0 f0 f1 (by omega : (0 : Int) ≤ w) c m
    rw [vis_all0 ht (by omega) hm, show ((f : Int) + w) = ((f + w : Nat) : Int) by omega, vis_all0 ht (by omega) hm] at h
    omega
  · have h := vis_rest (s := s) h0 f0 f1 (by omega : (0 : Int) ≤ w) w1 m
    have hfw : ((f : Int) + w) % n = ((f + w - m : Nat) : Int) := by
      rw [← Int.sub_emod_right, Int.emod_eq_of_lt (by omega) (by omega)]; omega
    rw [hfw] at h
    have h2 := vis_from (s := s) h0 (f := ((f + w - m : Nat) : Int)) (w := n - w) (by omega) (by omega) (by omega) (by omega) m
    rw [vis_all0 ht (by omega) hm, show ((f + w - m : Nat) : Int) + (n - w) = ((f : Nat) : Int) by omega, vis_all0 ht (by omega) hm] at h2
    omega

/-! ### the excess -/

def sumI (f : Nat → Int) : Nat → Int
  | 0 => 0
  | t + 1 => sumI f t + f t

theorem sumI_congr {f g : Nat → Int} {m : Nat} (h : ∀ j, j < m → f j = g j) : sumI f m = sumI g m := by
  induction m with
  | zero => rfl
  | succ m ih =>
    show sumI f m + f m = sumI g m + g m
    rw [ih fun j hj => h j (by omega), h m (by omega)]

theorem sumI_sub (f g : Nat → Int) (m : Nat) : sumI (fun j => f j - g j) m = sumI f m - sumI g m := by
  induction m with
  | zero => rfl
  | succ m ih =>
    show sumI (fun j => f j - g j) m + (f m - g m) = sumI f m + f m - (sumI g m + g m)
    omega

theorem sumI_bd {f : Nat → Int} {B : Int} {m : Nat} (h : ∀ j, j < m → f j ≤ B) : sumI f m ≤ m * B := by
  induction m with
  | zero => simp [sumI]
  | succ m ih =>
    have a := ih fun j hj => h j (by omega)
    have b := h m (by omega)
    show sumI f m + f m ≤ _
    rw [show ((m + 1 : Nat) : Int) = (m : Int) + 1 by omega, Int.add_mul, Int.one_mul]
    omega

def exC (n s w : Int) (m : Nat) : Int := n * (visC n s 0 w m : Nat) - m * w

/-- the k-th difference -/
def difB (n s : Int) (m : Nat) (k : Nat) : Int := pt n s (-((k : Int) + 1)) - pt n s ((m : Int) - ((k : Int) + 1))

def exB (n s : Int) (m t : Nat) : Int := sumI (difB n s m) t

theorem pt_shift (h0 : 2 ≤ n) (x t : Int) : pt n s (x - t) = pt n s x - pt n s t + (if pt n s x < pt n s t then n else 0) := by
  have a := pt_lo (n := n) s x h0
  have b := pt_hi (n := n) s x h0
  have c := pt_lo (n := n) s t h0
  have d := pt_hi (n := n) s t h0
  have e : pt n s (x - t) = (pt n s x - pt n s t) % n := by
    unfold pt
    rw [Int.sub_mul, ← Int.sub_emod]
  rw [e]
  by_cases h : pt n s x < pt n s t
  · rw [if_pos h, ← Int.add_emod_right]; exact Int.emod_eq_of_lt (by omega) (by omega)
  · rw [if_neg h, Int.add_zero]; exact Int.emod_eq_of_lt (by omega) (by omega)

theorem exC_sum (h0 : 2 ≤ n) (t : Nat) (m : Nat) : exC n s (pt n s t) m = sumI (fun j => pt n s ((j : Int) - t) - pt n s j) m := by
  induction m with
  | zero => unfold exC; rw [visC_zero]; simp [sumI]
  | succ m ih =>
    show _ = sumI _ m + _
    rw [← ih]
    unfold exC
    rw [visC_succ]
    have a := pt_lo (n := n) s (m : Int) h0
    have e2 := relP_pt (s := s) h0 (Int.le_refl 0) (by omega) m
    rw [if_pos a, Int.sub_zero] at e2
    show _ = _ + (pt n s ((m : Int) - t) - pt n s m)
    rw [e2, pt_shift h0]
    rw [show ((m + 1 : Nat) : Int) = (m : Int) + 1 by omega, Int.add_mul, Int.one_mul, Int.natCast_add, Int.mul_add]
    by_cases c : pt n s m < pt n s t
    · rw [if_pos c, decide_eq_true c]
      simp
      omega
    · rw [if_neg c, decide_eq_false c]
      simp
      omega

/-- the excess is told by as many points as the time -/
theorem ex_by (h0 : 2 ≤ n) (t m : Nat) : exC n s (pt n s t) m = exB n s m t := by
  rw [exC_sum h0]
  have key : ∀ m : Nat, sumI (fun j => pt n s ((j : Int) - t) - pt n s j) m = sumI (difB n s m) t := by
    intro m
    induction m with
    | zero =>
      show 0 = _
      have : sumI (difB n s 0) t = sumI (fun _ => 0) t := sumI_congr fun j _ => by unfold difB; simp
      rw [this]
      have z : ∀ k, sumI (fun _ => 0) k = 0 := fun k => by
        induction k with
        | zero => rfl
        | succ k ih => show sumI (fun _ => 0) k + 0 = 0; omega
      rw [z]
    | succ m ih =>
      show sumI _ m + _ = _
      rw [ih]
      have step : ∀ t : Nat, sumI (difB n s m) t + (pt n s ((m : Int) - t) - pt n s m) = sumI (difB n s (m + 1)) t := by
        intro t
        induction t with
        | zero => show 0 + _ = 0; rw [Int.natCast_zero, Int.sub_zero]; omega
        | succ t iht =>
          show sumI (difB n s m) t + difB n s m t + _ = sumI (difB n s (m + 1)) t + difB n s (m + 1) t
          rw [← iht]
          unfold difB
          rw [show ((m + 1 : Nat) : Int) - ((t : Int) + 1) = (m : Int) - t by omega, show (m : Int) - ((t + 1 : Nat) : Int) = (m : Int) - ((t : Int) + 1) by omega]
          omega
      exact step t
  exact key m

theorem difB_bd (h0 : 2 ≤ n) (m k : Nat) : difB n s m k ≤ n - 1 ∧ -(n - 1) ≤ difB n s m k := by
  unfold difB
  have a := pt_lo (n := n) s (-((k : Int) + 1)) h0
  have b := pt_hi (n := n) s (-((k : Int) + 1)) h0
  have c := pt_lo (n := n) s ((m : Int) - ((k : Int) + 1)) h0
  have d := pt_hi (n := n) s ((m : Int) - ((k : Int) + 1)) h0
  omega

theorem exB_bd (h0 : 2 ≤ n) (m t : Nat) : exB n s m t ≤ t * (n - 1) ∧ -((t : Int) * (n - 1)) ≤ exB n s m t := by
  refine ⟨sumI_bd fun j _ => (difB_bd h0 m j).1, ?_⟩
  have h := sumI_bd (f := fun j => 0 - difB n s m j) (B := n - 1) (m := t) fun j _ => by have := (difB_bd (s := s) h0 m j).2; omega
  rw [sumI_sub] at h
  have z : ∀ k, sumI (fun _ => 0) k = 0 := fun k => by
    induction k with
    | zero => rfl
    | succ k ih => show sumI (fun _ => 0) k + 0 = 0; omega
  rw [z] at h
  unfold exB
  omega

/-- any two of them differ by few -/
theorem exB_span (h0 : 2 ≤ n) (m m' t : Nat) : exB n s m t - exB n s m' t ≤ t * (n - 1) := by
  unfold exB
  rw [← sumI_sub]
  refine sumI_bd fun j _ => ?_
  unfold difB
  have a := pt_hi (n := n) s ((m' : Int) - ((j : Int) + 1)) h0
  have b := pt_lo (n := n) s ((m : Int) - ((j : Int) + 1)) h0
  omega

theorem exC_zero (n s w : Int) : exC n s w 0 = 0 := by unfold exC; rw [visC_zero]; simp

theorem exC_full (ht : tok n s = true) {w m : Nat} (w1 : (w : Int) ≤ n) (hm : (m : Int) = n) : exC n s w m = 0 := by
  unfold exC
  rw [vis_all0 ht w1 hm, hm]
  omega

theorem exC_none (h0 : 2 ≤ n) (m : Nat) : exC n s 0 m = 0 := by unfold exC; rw [vis_none h0]; simp

theorem exC_whole (h0 : 2 ≤ n) (m : Nat) : exC n s n m = 0 := by unfold exC; rw [vis_whole h0, Int.mul_comm]; omega
end Go.Proofs.YtckkgjgfjnfeoaaDoor

set_option linter.unusedVariables false
namespace Go.Proofs.YtckkgjgfjnfeoaaDoor
open N

def visF (n s m f w : Int) : Int := if tok n s = true ∧ 0 ≤ m ∧ m ≤ n ∧ 0 ≤ f ∧ f < n ∧ 0 ≤ w ∧ w ≤ n then ((visC n s f w m.toNat : Nat) : Int) else -1

theorem visF_yes {n s m f w : Int} (h : tok n s = true) (m0 : 0 ≤ m) (m1 : m ≤ n) (f0 : 0 ≤ f) (f1 : f < n) (w0 : 0 ≤ w) (w1 : w ≤ n) : visF n s m f w = ((visC n s f w m.toNat : Nat) : Int) := if_pos ⟨h, m0, m1, f0, f1, w0, w1⟩

theorem visF_no {n s m f w : Int} (h : ¬ (tok n s = true ∧ 0 ≤ m ∧ m ≤ n ∧ 0 ≤ f ∧ f < n ∧ 0 ≤ w ∧ w ≤ n)) : visF n s m f w = -1 := if_neg h

def excF (n s m w : Int) : Int := if tok n s = true ∧ 0 ≤ m ∧ m ≤ n ∧ 0 ≤ w ∧ w ≤ n then exC n s w m.toNat else 0

def excT (n s m w : Int) : Bool := tok n s && decide (0 ≤ m) && decide (m ≤ n) && decide (0 ≤ w) && decide (w ≤ n)

theorem excF_yes {n s m w : Int} (h : tok n s = true) (m0 : 0 ≤ m) (m1 : m ≤ n) (w0 : 0 ≤ w) (w1 : w ≤ n) : excF n s m w = exC n s w m.toNat := if_pos ⟨h, m0, m1, w0, w1⟩

theorem excF_no {n s m w : Int} (h : ¬ (tok n s = true ∧ 0 ≤ m ∧ m ≤ n ∧ 0 ≤ w ∧ w ≤ n)) : excF n s m w = 0 := if_neg h

theorem excT_iff (n s m w : Int) : excT n s m w = true ↔ tok n s = true ∧ 0 ≤ m ∧ m ≤ n ∧ 0 ≤ w ∧ w ≤ n := by unfold excT; simp [and_assoc]

theorem excT_yes {n s m w : Int} (h : tok n s = true) (m0 : 0 ≤ m) (m1 : m ≤ n) (w0 : 0 ≤ w) (w1 : w ≤ n) : excT n s m w = true := (excT_iff ..).2 ⟨h, m0, m1, w0, w1⟩

theorem excT_no {n s m w : Int} (h : ¬ (tok n s = true ∧ 0 ≤ m ∧ m ≤ n ∧ 0 ≤ w ∧ w ≤ n)) : excT n s m w = false := by
  cases e : excT n s m w with
  | false => rfl
  | true => exact absurd ((excT_iff ..).1 e) h

def exbF (n s m t : Int) : Int := if tok n s = true ∧ 0 ≤ m ∧ m ≤ n ∧ 0 ≤ t ∧ t < n then exB n s m.toNat t.toNat else 0

def exbT (n s m t : Int) : Bool := tok n s && decide (0 ≤ m) && decide (m ≤ n) && decide (0 ≤ t) && decide (t < n)

theorem exbF_yes {n s m t : Int} (h : tok n s = true) (m0 : 0 ≤ m) (m1 : m ≤ n) (t0 : 0 ≤ t) (t1 : t < n) : exbF n s m t = exB n s m.toNat t.toNat := if_pos ⟨h, m0, m1, t0, t1⟩

theorem exbF_no {n s m t : Int} (h : ¬ (tok n s = true ∧ 0 ≤ m ∧ m ≤ n ∧ 0 ≤ t ∧ t < n)) : exbF n s m t = 0 := if_neg h

theorem exbT_iff (n s m t : Int) : exbT n s m t = true ↔ tok n s = true ∧ 0 ≤ m ∧ m ≤ n ∧ 0 ≤ t ∧ t < n := by unfold exbT; simp [and_assoc]

theorem exbT_yes {n s m t : Int} (h : tok n s = true) (m0 : 0 ≤ m) (m1 : m ≤ n) (t0 : 0 ≤ t) (t1 : t < n) : exbT n s m t = true := (exbT_iff ..).2 ⟨h, m0, m1, t0, t1⟩

theorem exbT_no {n s m t : Int} (h : ¬ (tok n s = true ∧ 0 ≤ m ∧ m ≤ n ∧ 0 ≤ t ∧ t < n)) : exbT n s m t = false := by
  cases e : exbT n s m t with
  | false => rfl
  | true => exact absurd ((exbT_iff ..).1 e) h

def loE (n s w : Int) : Nat → Int
  | 0 => 0
  | k + 1 => min (loE n s w k) (exC n s w k)

def hiE (n s w : Int) : Nat → Int
  | 0 => 0
  | k + 1 => max (hiE n s w k) (exC n s w k)

def spanF (n s w : Int) : Int := if tok n s = true ∧ 0 ≤ w ∧ w ≤ n then hiE n s w (n + 1).toNat - loE n s w (n + 1).toNat else -1

theorem spanF_yes {n s w : Int} (h : tok n s = true) (w0 : 0 ≤ w) (w1 : w ≤ n) : spanF n s w = hiE n s w (n + 1).toNat - loE n s w (n + 1).toNat := if_pos ⟨h, w0, w1⟩

theorem spanF_no {n s w : Int} (h : ¬ (tok n s = true ∧ 0 ≤ w ∧ w ≤ n)) : spanF n s w = -1 := if_neg h

theorem exC_bd {n s w : Int} (h0 : 2 ≤ n) (h1 : n ≤ 60) (w0 : 0 ≤ w) (w1 : w ≤ n) {m : Nat} (hm : (m : Int) ≤ n) : -3600 ≤ exC n s w m ∧ exC n s w m ≤ 3600 := by
  have a := visC_le n s 0 w m
  unfold exC
  have b1 : n * (visC n s 0 w m : Nat) ≤ 60 * 60 := Int.mul_le_mul h1 (by omega) (by omega) (by omega)
  have b0 : 0 ≤ n * (visC n s 0 w m : Nat) := Int.mul_nonneg (by omega) (by omega)
  have c1 : (m : Int) * w ≤ 60 * 60 := Int.mul_le_mul (by omega) (by omega) (by omega) (by omega)
  have c0 : 0 ≤ (m : Int) * w := Int.mul_nonneg (by omega) (by omega)
  omega

theorem loE_bd {n s w : Int} (h0 : 2 ≤ n) (h1 : n ≤ 60) (w0 : 0 ≤ w) (w1 : w ≤ n) (k : Nat) (hk : (k : Int) ≤ n + 1) : -3600 ≤ loE n s w k ∧ loE n s w k ≤ 0 := by
  induction k with
  | zero => exact ⟨by show (-3600 : Int) ≤ 0; omega, Int.le_refl _⟩
  | succ k ih =>
    have a := ih (by omega)
    have b := exC_bd (s := s) h0 h1 w0 w1 (m := k) (by omega)
    show -3600 ≤ min _ _ ∧ min _ _ ≤ 0
    omega

theorem hiE_bd {n s w : Int} (h0 : 2 ≤ n) (h1 : n ≤ 60) (w0 : 0 ≤ w) (w1 : w ≤ n) (k : Nat) (hk : (k : Int) ≤ n + 1) : 0 ≤ hiE n s w k ∧ hiE n s w k ≤ 3600 := by
  induction k with
  | zero => exact ⟨Int.le_refl _, by show (0 : Int) ≤ 3600; omega⟩
  | succ k ih =>
    have a := ih (by omega)
    have b := exC_bd (s := s) h0 h1 w0 w1 (m := k) (by omega)
    show 0 ≤ max _ _ ∧ max _ _ ≤ 3600
    omega

/-- all differ by at most B, so the greatest and the least one do -/
theorem span_le {n s w B : Int} (h : ∀ i j : Nat, exC n s w i - exC n s w j ≤ B) (k : Nat) : hiE n s w k - loE n s w k ≤ B := by
  have hB : 0 ≤ B := by have := h 0 0; omega
  have z := exC_zero n s w
  have hi : ∀ j k : Nat, hiE n s w k - exC n s w j ≤ B := fun j k => by
    induction k with
    | zero => have := h 0 j; rw [z] at this; exact this
    | succ k ih => have := h k j; show max _ _ - _ ≤ B; omega
  have h0 : ∀ k : Nat, hiE n s w k ≤ B := fun k => by have := hi 0 k; rw [z] at this; omega
  have key : ∀ k' : Nat, hiE n s w k - loE n s w k' ≤ B := fun k' => by
    induction k' with
    | zero => have := h0 k; show _ - 0 ≤ B; omega
    | succ k' ih => have := hi k' k; show _ - min _ _ ≤ B; omega
  exact key k

theorem span_nil {n s w : Int} (h : ∀ i : Nat, (i : Int) ≤ n → exC n s w i = 0) (k : Nat) (hk : (k : Int) ≤ n + 1) : hiE n s w k = 0 ∧ loE n s w k = 0 := by
  induction k with
  | zero => exact ⟨rfl, rfl⟩
  | succ k ih =>
    have a := ih (by omega)
    have b := h k (by omega)
    show max _ _ = 0 ∧ min _ _ = 0
    omega

/-- the excess of the points below a point is told by as many points as its time -/
theorem exC_at {n s w : Int} (ht : tok n s = true) (w0 : 0 ≤ w) (w1 : w < n) (m : Nat) : exC n s w m = exB n s m (timeF n s w).toNat := by
  have hb := tok_bd ht
  have h1 := timeF_bd ht w0 w1
  have h2 := pointF_timeF ht w0 w1
  rw [pointF_yes ht h1.1 h1.2] at h2
  have h3 := ex_by (n := n) (s := s) (by omega) (timeF n s w).toNat m
  have e : pt n s ((timeF n s w).toNat : Int) = w := by rw [Int.toNat_of_nonneg h1.1]; exact h2
  rwa [e] at h3
end Go.Proofs.YtckkgjgfjnfeoaaDoor
