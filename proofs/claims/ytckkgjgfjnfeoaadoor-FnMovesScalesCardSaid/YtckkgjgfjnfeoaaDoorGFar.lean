/- Plain numbers: how far from even points are, by near times and by digits. How even points are: what chapter 11's functions answer, and what the laws say of it. -/
import Derived.Test.YtckkgjgfjnfeoaaDoorGVis
import Derived.Test.YtckkgjgfjnfeoaaDoorScale
import Derived.Test.YtckkgjgfjnfeoaaDoorNumG
import Derived.Test.YtckkgjgfjnfeoaaDoorNumF
set_option linter.unusedVariables false
namespace Go.Proofs.YtckkgjgfjnfeoaaDoor
set_option maxRecDepth 4000
open N
variable {n s : Int}

/-- the excess of an arc from a point on -/
def devI (n s f w : Int) (m : Nat) : Int := n * (visC n s f w m : Nat) - m * w

theorem devI_zero (n s w : Int) (m : Nat) : devI n s 0 w m = exC n s w m := rfl

/-- no arc is off by more than so much -/
def Far (n s : Int) (m : Nat) (B : Int) : Prop := ∀ f w : Int, 0 ≤ f → f < n → 0 ≤ w → w ≤ n → devI n s f w m ≤ B ∧ -B ≤ devI n s f w m

theorem sub_mod (x y n : Int) : (x - y % n) % n = (x - y) % n := by rw [Int.sub_emod, Int.emod_emod, ← Int.sub_emod]

theorem relP_add (f : Int) (a k : Nat) : relP n s f (a + k) = relP n s ((f - a * s) % n) k := by
  unfold relP
  rw [sub_mod, Int.natCast_add, Int.add_mul]
  congr 1; omega

theorem vis_add (f w : Int) (a b : Nat) : visC n s f w (a + b) = visC n s f w a + visC n s ((f - a * s) % n) w b := by
  induction b with
  | zero => rfl
  | succ b ih => rw [← Nat.add_assoc, visC_succ, ih, visC_succ, relP_add, Nat.add_assoc]

theorem devI_add (f w : Int) (a b : Nat) : devI n s f w (a + b) = devI n s f w a + devI n s ((f - a * s) % n) w b := by
  unfold devI
  rw [vis_add, Int.natCast_add, Int.natCast_add, Int.mul_add, Int.add_mul]; omega

theorem Far.add (h0 : 2 ≤ n) {a b : Nat} {A B : Int} (ha : Far n s a A) (hb : Far n s b B) : Far n s (a + b) (A + B) := fun f w f0 f1 w0 w1 => by
  have x := ha f w f0 f1 w0 w1
  have y := hb ((f - a * s) % n) w (Int.emod_nonneg _ (by omega)) (Int.emod_lt_of_pos _ (by omega)) w0 w1
  rw [devI_add]; omega

theorem Far.zero : Far n s 0 0 := fun f w _ _ _ _ => by unfold devI; rw [visC_zero]; simp

theorem Far.mul (h0 : 2 ≤ n) {b : Nat} {B : Int} (hb : Far n s b B) (d : Nat) : Far n s (d * b) (d * B) := by
  induction d with
  | zero => rw [Nat.zero_mul, Int.natCast_zero, Int.zero_mul]; exact Far.zero
  | succ d ih => rw [Nat.succ_mul, Int.natCast_add, Int.add_mul]; simpa using ih.add h0 hb

theorem Far.digits (h0 : 2 ≤ n) {B d : Nat → Nat} {C : Int} : ∀ k, (∀ i, i < k → Far n s (B i) C) → Far n s (valD B d k) (C * (sumD d k : Nat)) := by
  intro k
  induction k with
  | zero => intro _; show Far n s 0 (C * ((0 : Nat) : Int)); rw [Int.natCast_zero, Int.mul_zero]; exact Far.zero
  | succ k ih =>
    intro h
    have x := ih fun i hi => h i (by omega)
    have y := (h k (by omega)).mul h0 (d k)
    show Far n s (valD B d k + d k * B k) (C * ((sumD d k + d k : Nat) : Int))
    rw [Int.natCast_add, Int.mul_add, Int.mul_comm C (d k : Int)]
    exact x.add h0 y

/-- if the excess of the points below y lies in a row of 2 n, no arc is off by more -/
theorem far_of (h0 : 2 ≤ n) {m : Nat} {L C : Int} (h : ∀ y : Int, 0 ≤ y → y ≤ n → L ≤ exC n s y m ∧ exC n s y m ≤ L + C) : Far n s m C := fun f w f0 f1 w0 w1 => by
  have base : ∀ f w : Int, 0 ≤ f → f < n → 0 ≤ w → f + w ≤ n → devI n s f w m = exC n s (f + w) m - exC n s f m := fun f w f0 f1 w0 hw => by
    have v := vis_from (s := s) h0 f0 f1 w0 hw m
    unfold devI exC
    rw [← v, Int.natCast_add, Int.mul_add, Int.mul_add]; omega
  by_cases c : f + w ≤ n
  · rw [base f w f0 f1 w0 c]
    have a := h (f + w) (by omega) c
    have b := h f f0 (by omega)
    omega
  · have r := vis_rest (s := s) h0 f0 f1 w0 w1 m
    have e : (f + w) % n = f + w - n := by rw [← Int.sub_emod_right]; exact Int.emod_eq_of_lt (by omega) (by omega)
    rw [e] at r
    have d := base (f + w - n) (n - w) (by omega) (by omega) (by omega) (by omega)
    rw [show f + w - n + (n - w) = f by omega] at d
    have k : devI n s f w m = -devI n s (f + w - n) (n - w) m := by
      unfold devI
      have r' : (m : Int) = (visC n s f w m : Nat) + (visC n s (f + w - n) (n - w) m : Nat) := by omega
      have e1 : n * ((visC n s f w m : Nat) : Int) + n * ((visC n s (f + w - n) (n - w) m : Nat) : Int) = n * m := by rw [← Int.mul_add, ← r']
      have e2 : (m : Int) * (n - w) = n * m - m * w := by rw [Int.mul_sub, Int.mul_comm (m : Int) n]
      omega
    rw [k, d]
    have a := h f f0 (by omega)
    have b := h (f + w - n) (by omega) (by omega)
    omega

/-- counting by what holds -/
theorem vis_mono {n s w n' s' w' : Int} {m : Nat} (h : ∀ k, k < m → relP n s 0 k < w → relP n' s' 0 k < w') : visC n s 0 w m ≤ visC n' s' 0 w' m := by
  induction m with
  | zero => exact Nat.le_refl _
  | succ m ih =>
    have a := ih fun k hk => h k (by omega)
    have b := h m (by omega)
    rw [visC_succ, visC_succ]
    by_cases c : relP n s 0 m < w
    · rw [decide_eq_true c, decide_eq_true (b c)]; omega
    · rw [decide_eq_false c]
      show _ + 0 ≤ _
      omega

theorem relP_zero (h0 : 2 ≤ n) (k : Nat) : relP n s 0 k = pt n s k := by
  have a := pt_lo (n := n) s (k : Int) h0
  rw [relP_pt h0 (Int.le_refl 0) (by omega), if_pos a]; omega

/-- a near time above: as many cells of the circle, a point in each -/
theorem far_above (ht : tok n s = true) {q p : Nat} {e : Int} (hq : tok q p = true) (hqn : (q : Int) ≤ n) (he : (q : Int) * s = p * n + e) (e0 : 0 ≤ e) (e1 : q * e ≤ n) : Far n s q (2 * n) := by
  have hb := tok_bd ht
  have hbq := tok_bd hq
  have cell : ∀ k : Nat, k < q → (q : Int) * pt n s k = pt q p k * n + k * e := by
    intro k hk
    have x0 := pt_lo (n := (q : Int)) (p : Int) (k : Int) (by omega)
    have x1 := pt_hi (n := (q : Int)) (p : Int) (k : Int) (by omega)
    have ke0 : 0 ≤ (k : Int) * e := Int.mul_nonneg (by omega) e0
    have ke1 : (k : Int) * e + e ≤ n := by
      have : ((k : Int) + 1) * e ≤ q * e := Int.mul_le_mul_of_nonneg_right (by omega) e0
      rw [Int.add_mul, Int.one_mul] at this; omega
    have eq1 : (q : Int) * (k * s) = (k * p) * n + k * e := by
      rw [show (q : Int) * (k * s) = k * (q * s) by rw [← Int.mul_assoc, Int.mul_comm (q : Int) k, Int.mul_assoc], he, Int.mul_add, Int.mul_assoc]
    unfold pt at x0 x1 ⊢
    have d1 := Int.emod_add_mul_ediv (k * (p : Int)) q
    have d2 := Int.emod_add_mul_ediv (k * s) n
    generalize k * (p : Int) % q = J at *
    generalize k * (p : Int) / q = a at *
    have g0 := Int.emod_nonneg ((k : Int) * s) (by omega : n ≠ 0)
    have g1 : (k : Int) * s % n < n := Int.emod_lt_of_pos _ (by omega)
    generalize (k : Int) * s % n = X at *
    generalize (k : Int) * s / n = b at *
    -- q X + q n b = (J + q a) n + k e
    have eq2 : (q : Int) * X - J * n - k * e = q * n * (a - b) := by
      have t1 : (q : Int) * (k * s) = q * X + q * n * b := by rw [← d2, Int.mul_add, Int.mul_assoc]
      have t2 : (k * (p : Int)) * n = J * n + q * n * a := by rw [← d1, Int.add_mul, Int.mul_assoc, Int.mul_comm a n, ← Int.mul_assoc]
      rw [Int.mul_sub]; omega
    have qn : 0 < (q : Int) * n := Int.mul_pos (by omega) (by omega)
    have m1 : (q : Int) * X < q * n := Int.mul_lt_mul_of_pos_left g1 (by omega)
    have m0 : 0 ≤ (q : Int) * X := Int.mul_nonneg (by omega) g0
    have m2 : J * n ≤ (q - 1) * n := Int.mul_le_mul_of_nonneg_right (by omega) (by omega)
    have m3 : 0 ≤ J * n := Int.mul_nonneg x0 (by omega)
    rw [Int.sub_mul, Int.one_mul] at m2
    have ke2 : (k : Int) * e < n := by
      by_cases c : e = 0
      · rw [c, Int.mul_zero]; omega
      · omega
    have z : a - b = 0 := by
      by_cases c : a - b ≥ 1
      · have : q * n * 1 ≤ q * n * (a - b) := Int.mul_le_mul_of_nonneg_left c (by omega)
        omega
      · by_cases c2 : a - b ≤ -1
        · have : q * n * (a - b) ≤ q * n * (-1) := Int.mul_le_mul_of_nonneg_left c2 (by omega)
          omega
        · omega
    rw [z, Int.mul_zero] at eq2
    omega
  refine far_of (L := -n) (by omega) fun y y0 y1 => ?_
  have q0 : 0 ≤ (q : Int) * y := Int.mul_nonneg (by omega) y0
  have q1 : (q : Int) * y ≤ n * q := by rw [Int.mul_comm n]; exact Int.mul_le_mul_of_nonneg_left y1 (by omega)
  obtain ⟨I, r1, hI, r10, r11⟩ : ∃ I r : Int, n * I + r = q * y ∧ 0 ≤ r ∧ r < n :=
    ⟨(q : Int) * y / n, (q : Int) * y % n, by rw [Int.add_comm]; exact Int.emod_add_mul_ediv _ _, Int.emod_nonneg _ (by omega), Int.emod_lt_of_pos _ (by omega)⟩
  obtain ⟨J, r2, hJ, r20, r21⟩ : ∃ J r : Int, n * J + r = q * y + n - 1 ∧ 0 ≤ r ∧ r < n :=
    ⟨((q : Int) * y + n - 1) / n, ((q : Int) * y + n - 1) % n, by rw [Int.add_comm]; exact Int.emod_add_mul_ediv _ _, Int.emod_nonneg _ (by omega), Int.emod_lt_of_pos _ (by omega)⟩
  have I0 : 0 ≤ I := by
    by_cases c : 0 ≤ I
    · exact c
    · have : n * I ≤ n * (-1) := Int.mul_le_mul_of_nonneg_left (by omega) (by omega)
      omega
  have I1 : I ≤ q := by
    by_cases c : I ≤ q
    · exact c
    · have : n * ((q : Int) + 1) ≤ n * I := Int.mul_le_mul_of_nonneg_left (by omega) (by omega)
      rw [Int.mul_add] at this; omega
  have J0 : 0 ≤ J := by
    by_cases c : 0 ≤ J
    · exact c
    · have : n * J ≤ n * (-1) := Int.mul_le_mul_of_nonneg_left (by omega) (by omega)
      omega
  have J1 : J ≤ q := by
    by_cases c : J ≤ q
    · exact c
    · have : n * ((q : Int) + 1) ≤ n * J := Int.mul_le_mul_of_nonneg_left (by omega) (by omega)
      rw [Int.mul_add] at this; omega
  obtain ⟨I, rfl⟩ := Int.eq_ofNat_of_zero_le I0
  obtain ⟨J, rfl⟩ := Int.eq_ofNat_of_zero_le J0
  have ke2 : ∀ k : Nat, k < q → 0 ≤ (k : Int) * e ∧ ((k : Int) * e < n) := fun k hk => by
    have a : 0 ≤ (k : Int) * e := Int.mul_nonneg (by omega) e0
    have b : ((k : Int) + 1) * e ≤ q * e := Int.mul_le_mul_of_nonneg_right (by omega) e0
    rw [Int.add_mul, Int.one_mul] at b
    refine ⟨a, ?_⟩
    by_cases c : e = 0
    · rw [c, Int.mul_zero]; omega
    · omega
  have lo : I ≤ visC n s 0 y q := by
    have h := vis_all0 hq (w := I) (m := q) (by omega) rfl
    rw [← h]
    refine vis_mono fun k hk c => ?_
    rw [relP_zero (by omega)] at c
    rw [relP_zero (by omega)]
    have ce := cell k hk
    have k2 := ke2 k hk
    have c2 : (pt q p k + 1) * n ≤ I * n := Int.mul_le_mul_of_nonneg_right (by omega) (by omega)
    rw [Int.add_mul, Int.one_mul, Int.mul_comm (I : Int) n] at c2
    exact Int.lt_of_mul_lt_mul_left (show (q : Int) * pt n s k < q * y by omega) (by omega)
  have hi : visC n s 0 y q ≤ J := by
    have h := vis_all0 hq (w := J) (m := q) (by omega) rfl
    rw [← h]
    refine vis_mono fun k hk c => ?_
    rw [relP_zero (by omega)] at c
    rw [relP_zero (by omega)]
    have ce := cell k hk
    have k2 := ke2 k hk
    have c3 : (q : Int) * pt n s k < q * y := Int.mul_lt_mul_of_pos_left c (by omega)
    exact Int.lt_of_mul_lt_mul_right (show pt q p k * n < J * n by rw [Int.mul_comm (J : Int) n]; omega) (by omega)
  unfold exC
  have a1 : n * (I : Int) ≤ n * (visC n s 0 y q : Nat) := Int.mul_le_mul_of_nonneg_left (by omega) (by omega)
  have a2 : n * ((visC n s 0 y q : Nat) : Int) ≤ n * J := Int.mul_le_mul_of_nonneg_left (by omega) (by omega)
  constructor <;> omega

/-- the arc seen from the other way -/
theorem vis_back (h0 : 2 ≤ n) {f w : Int} (w1 : 1 ≤ w) (w2 : w ≤ n) (m : Nat) : visC n s f w m = visC n (n - s) ((n - f - w + 1) % n) w m := by
  have key : ∀ k : Nat, decide (relP n s f k < w) = decide (relP n (n - s) ((n - f - w + 1) % n) k < w) := fun k => by
    have e : relP n (n - s) ((n - f - w + 1) % n) k = (w - 1 - relP n s f k) % n := by
      unfold relP
      rw [sub_mod, sub_mod, Int.mul_sub]
      have : (k : Int) * n - k * s + n - (n - f - w + 1) = w - 1 - (k * s + n - f) + n * ((k : Int) + 1) := by rw [Int.mul_add, Int.mul_comm n (k : Int)]; omega
      rw [this, Int.add_mul_emod_self_left]
    have b := relP_bd (s := s) h0 f k
    rw [e]
    generalize relP n s f k = r at *
    refine decide_eq_decide.2 ?_
    by_cases c : r < w
    · rw [Int.emod_eq_of_lt (by omega) (by omega)]; omega
    · rw [← Int.add_emod_right, Int.emod_eq_of_lt (by omega) (by omega)]; omega
  induction m with
  | zero => rfl
  | succ m ih => rw [visC_succ, visC_succ, ih, key]

theorem Far.back (h0 : 2 ≤ n) {m : Nat} {B : Int} (hB : 0 ≤ B) (h : Far n (n - s) m B) : Far n s m B := fun f w f0 f1 w0 w1 => by
  by_cases c : w = 0
  · subst c; unfold devI; rw [vis_none h0]; simp; omega
  · unfold devI
    rw [vis_back h0 (by omega) w1]
    exact h _ w (Int.emod_nonneg _ (by omega)) (Int.emod_lt_of_pos _ (by omega)) w0 w1

theorem far_below (ht : tok n s = true) {q p : Nat} {e : Int} (hq : tok q p = true) (hqn : (q : Int) ≤ n) (he : (q : Int) * s = p * n - e) (e0 : 0 ≤ e) (e1 : q * e ≤ n) : Far n s q (2 * n) := by
  have hb := tok_bd ht
  have hbq := tok_bd hq
  have hk : tok n (n - s) = true := by rw [tok_back]; exact ht
  have hk2 : tok q ((q - p : Nat) : Int) = true := by
    rw [show ((q - p : Nat) : Int) = (q : Int) - p by omega, tok_back]; exact hq
  refine Far.back (by omega) (by omega) (far_above hk hk2 hqn ?_ e0 e1)
  rw [Int.mul_sub, he, show ((q - p : Nat) : Int) = (q : Int) - p by omega, Int.sub_mul]; omega

theorem far_one (h0 : 2 ≤ n) : Far n s 1 (2 * n) := far_of (L := -n) h0 fun y y0 y1 => by
  unfold exC
  have a := visC_le n s 0 y 1
  have b : (visC n s 0 y 1 : Nat) = 0 ∨ (visC n s 0 y 1 : Nat) = 1 := by omega
  rcases b with b | b <;> rw [b] <;> simp <;> omega

theorem Far.mono {m : Nat} {A B : Int} (h : Far n s m A) (hAB : A ≤ B) : Far n s m B := fun f w f0 f1 w0 w1 => by
  have := h f w f0 f1 w0 w1; omega

/-- near times keep all arcs within two circles -/
def chkFarQ (n s q : Nat) : Bool := Nat.ble q 1 || (Nat.ble n q || ((tokN q (q * s / n) && Nat.ble (q * (q * s % n)) n) || (tokN q (q * s / n + 1) && Nat.ble (q * (n - q * s % n)) n)))

def chkFar (n s : Nat) : Bool := (nearN n s).all (chkFarQ n s)

theorem chkFar_all : ((List.range 61).all fun n => (List.range n).all fun s => !tokN n s || chkFar n s) = true := by decide +kernel

theorem far_near {n s q : Nat} (ht : tokN n s = true) (hq : q ∈ nearN n s) (hqn : q < n) : Far n s q (2 * (n : Int)) := by
  have hI := tok_of_tokN ht
  have hb := tok_bd hI
  have h := all_turns (f := chkFar) chkFar_all ht
  unfold chkFar at h
  rw [List.all_eq_true] at h
  have c := h q hq
  have d := Nat.div_add_mod (q * s) n
  have g := Nat.mod_lt (q * s) (show 0 < n by omega)
  unfold chkFarQ at c
  simp only [Bool.or_eq_true, Bool.and_eq_true, Nat.ble_eq] at c
  generalize q * s / n = p at *
  generalize q * s % n = r at *
  have d' : (q : Int) * s = p * n + r := by rw [← Int.natCast_mul, ← d]; simp; exact Int.mul_comm _ _
  rcases c with c | c | ⟨c1, c2⟩ | ⟨c1, c2⟩
  · obtain rfl | rfl : q = 0 ∨ q = 1 := by omega
    · exact Far.zero.mono (by omega)
    · exact far_one (by omega)
  · omega
  · exact far_above hI (tok_of_tokN c1) (by omega) d' (by omega) (by rw [← Int.natCast_mul]; omega)
  · refine far_below hI (tok_of_tokN c1) (e := ((n - r : Nat) : Int)) (by omega) ?_ (by omega) (by rw [← Int.natCast_mul]; omega)
    rw [d', Int.natCast_add, Int.add_mul]; simp; omega
end Go.Proofs.YtckkgjgfjnfeoaaDoor

set_option linter.unusedVariables false
namespace Go.Proofs.YtckkgjgfjnfeoaaDoor

set_option maxRecDepth 4000
open N

/-- the greatest of so many numbers, without their signs, and 0 -/
def maxI (f : Nat → Int) : Nat → Int
  | 0 => 0
  | k + 1 => max (maxI f k) (max (f k) (-(f k)))

theorem maxI_succ (f : Nat → Int) (k : Nat) : maxI f (k + 1) = max (maxI f k) (max (f k) (-(f k))) := rfl

theorem maxI_pos (f : Nat → Int) (k : Nat) : 0 ≤ maxI f k := by
  induction k with
  | zero => exact Int.le_refl 0
  | succ k ih => rw [maxI_succ]; omega

theorem maxI_ge (f : Nat → Int) : ∀ k j, j < k → f j ≤ maxI f k ∧ -(f j) ≤ maxI f k := by
  intro k
  induction k with
  | zero => intro j h; omega
  | succ k ih =>
    intro j hj
    rw [maxI_succ]
    by_cases c : j = k
    · subst c; omega
    · have := ih j (by omega); omega

theorem maxI_le {f : Nat → Int} {B : Int} (h0 : 0 ≤ B) : ∀ k, (∀ j, j < k → f j ≤ B ∧ -B ≤ f j) → maxI f k ≤ B := by
  intro k
  induction k with
  | zero => intro _; exact h0
  | succ k ih =>
    intro h
    have a := ih fun j hj => h j (by omega)
    have b := h k (by omega)
    rw [maxI_succ]; omega

theorem maxI_zero {f : Nat → Int} (k : Nat) (h : ∀ j, j < k → f j = 0) : maxI f k = 0 := by
  have a := maxI_le (f := f) (Int.le_refl 0) k fun j hj => by rw [h j hj]; omega
  have b := maxI_pos f k
  omega

def farOkF (n s m : Int) : Bool := tok n s && (decide (0 ≤ m) && decide (m ≤ n))

theorem farOk_iff {n s m : Int} : farOkF n s m = true ↔ tok n s = true ∧ 0 ≤ m ∧ m ≤ n := by
  unfold farOkF
  simp only [Bool.and_eq_true, decide_eq_true_eq]

def farF (n s m : Int) : Int := if farOkF n s m = true then maxI (fun w => exC n s (w : Int) m.toNat) (n.toNat + 1) else -1

def fromFF (n s m u : Int) : Int := if farOkF n s m = true ∧ 0 ≤ u ∧ u ≤ n then maxI (fun f => devI n s (f : Int) u m.toNat) n.toNat else -1

theorem farF_no {n s m : Int} (h : ¬ farOkF n s m = true) : farF n s m = -1 := if_neg h

theorem fromFF_no {n s m u : Int} (h : ¬ (farOkF n s m = true ∧ 0 ≤ u ∧ u ≤ n)) : fromFF n s m u = -1 := if_neg h

theorem farF_yes {n s m : Nat} (ht : tokN n s = true) (hm : m ≤ n) : farF n s m = maxI (fun w => exC n s (w : Int) m) (n + 1) := by
  unfold farF
  rw [if_pos (farOk_iff.2 ⟨tok_of_tokN ht, by omega, by omega⟩)]
  rfl

theorem fromFF_yes {n s m u : Nat} (ht : tokN n s = true) (hm : m ≤ n) (hu : u ≤ n) : fromFF n s m u = maxI (fun f => devI n s (f : Int) u m) n := by
  unfold fromFF
  rw [if_pos ⟨farOk_iff.2 ⟨tok_of_tokN ht, by omega, by omega⟩, by omega, by omega⟩]
  rfl

/-- no arc is off by more than twice the size, for each digit -/
theorem far_sum {n s m : Nat} (ht : tokN n s = true) (hm : m < n) : Far n s m (2 * (n : Int) * ((sumD (digD (basAt n s) (bmN n s) m) (bmN n s) : Nat) : Int)) := by
  obtain ⟨b1, b2, _⟩ := tokN_bd ht
  have hs := bas_scale ht
  have hlt : m < basAt n s (bmN n s) := by rw [bas_end ht]; exact hm
  have h := Far.digits (n := (n : Int)) (s := (s : Int)) (by omega) (B := basAt n s) (d := digD (basAt n s) (bmN n s) m) (C := 2 * (n : Int)) (bmN n s) fun i hi => by
    have hq : basAt n s i ∈ basN n s := by
      rw [basAt_get hi, List.getD_eq_getElem?_getD, List.getElem?_eq_getElem (show i < (basN n s).length from hi)]
      simp
    exact far_near ht (bas_near _ hq) (bas_lt ht hi)
  rwa [dig_number hs hlt] at h

theorem far_bas {n s q : Nat} (ht : tokN n s = true) (hq : q ∈ basN n s) (hn : q < n) : Far n s q (2 * (n : Int)) := far_near ht (bas_near _ hq) hn

theorem farF_le {n s m : Nat} (ht : tokN n s = true) (hm : m ≤ n) {B : Int} (h0 : 0 ≤ B) (h : Far n s m B) : farF n s m ≤ B := by
  obtain ⟨b1, b2, _⟩ := tokN_bd ht
  rw [farF_yes ht hm]
  exact maxI_le h0 _ fun j hj => by
    have := h 0 j (by omega) (by omega) (by omega) (by omega)
    rw [devI_zero] at this
    exact this

theorem fromFF_le {n s m u : Nat} (ht : tokN n s = true) (hm : m ≤ n) (hu : u ≤ n) {B : Int} (h0 : 0 ≤ B) (h : Far n s m B) : fromFF n s m u ≤ B := by
  obtain ⟨b1, b2, _⟩ := tokN_bd ht
  rw [fromFF_yes ht hm hu]
  exact maxI_le h0 _ fun j hj => h j u (by omega) (by omega) (by omega) (by omega)

theorem farF_none {n s : Nat} (ht : tokN n s = true) : farF n s (0 : Nat) = 0 := by
  obtain ⟨b1, b2, _⟩ := tokN_bd ht
  rw [farF_yes ht (by omega)]
  refine maxI_zero _ fun j hj => ?_
  rw [← devI_zero]
  have h := (Far.zero (n := (n : Int)) (s := (s : Int))) 0 j (by omega) (by omega) (by omega) (by omega)
  omega

theorem farF_all {n s : Nat} (ht : tokN n s = true) : farF n s (n : Nat) = 0 := by
  rw [farF_yes ht (Nat.le_refl _)]
  exact maxI_zero _ fun j hj => exC_full (tok_of_tokN ht) (by omega) rfl

theorem fromFF_lo {n s m u : Nat} (ht : tokN n s = true) (hm : m ≤ n) (hu : u ≤ n) : exC n s u m ≤ fromFF n s m u ∧ -(exC n s u m) ≤ fromFF n s m u := by
  obtain ⟨b1, b2, _⟩ := tokN_bd ht
  rw [fromFF_yes ht hm hu]
  have h := maxI_ge (fun f => devI n s (f : Int) u m) n 0 (by omega)
  have e : devI n s ((0 : Nat) : Int) u m = exC n s u m := devI_zero _ _ _ _
  simp only [e] at h
  exact h

/-- what lacks of the circle is as much off, the other way -/
theorem dev_rest {n s f w : Int} (h0 : 2 ≤ n) (f0 : 0 ≤ f) (f1 : f < n) (w0 : 0 ≤ w) (w1 : w ≤ n) (m : Nat) : devI n s ((f + w) % n) (n - w) m = -devI n s f w m := by
  have r := vis_rest (s := s) h0 f0 f1 w0 w1 m
  unfold devI
  have r' : (m : Int) = ((visC n s f w m : Nat) : Int) + ((visC n s ((f + w) % n) (n - w) m : Nat) : Int) := by omega
  have e1 : n * ((visC n s f w m : Nat) : Int) + n * ((visC n s ((f + w) % n) (n - w) m : Nat) : Int) = n * m := by rw [← Int.mul_add, ← r']
  have e2 : (m : Int) * (n - w) = n * m - m * w := by rw [Int.mul_sub, Int.mul_comm (m : Int) n]
  omega

theorem fromFF_half {n s m u : Nat} (ht : tokN n s = true) (hm : m ≤ n) (hu : u ≤ n) : fromFF n s m ((n - u : Nat) : Int) ≤ fromFF n s m u := by
  obtain ⟨b1, b2, _⟩ := tokN_bd ht
  rw [fromFF_yes ht hm (by omega), fromFF_yes ht hm hu]
  refine maxI_le (maxI_pos _ _) _ fun j hj => ?_
  have e := dev_rest (n := (n : Int)) (s := (s : Int)) (f := j) (w := ((n - u : Nat) : Int)) (by omega) (by omega) (by omega) (by omega) (by omega) m
  rw [show (n : Int) - ((n - u : Nat) : Int) = u by omega] at e
  have g0 := Int.emod_nonneg ((j : Int) + ((n - u : Nat) : Int)) (by omega : (n : Int) ≠ 0)
  have g1 : ((j : Int) + ((n - u : Nat) : Int)) % n < n := Int.emod_lt_of_pos _ (by omega)
  obtain ⟨k, hk⟩ := Int.eq_ofNat_of_zero_le g0
  rw [hk] at e g1
  have h := maxI_ge (fun f => devI n s (f : Int) u m) n k (by omega)
  simp only [e] at h
  omega

theorem fromFF_rest {n s m u : Nat} (ht : tokN n s = true) (hm : m ≤ n) (hu : u ≤ n) : fromFF n s m ((n - u : Nat) : Int) = fromFF n s m u := by
  have a := fromFF_half ht hm hu
  have b := fromFF_half ht hm (u := n - u) (by omega)
  rw [show n - (n - u) = u by omega] at b
  omega
end Go.Proofs.YtckkgjgfjnfeoaaDoor
