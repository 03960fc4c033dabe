/- Plain numbers: returns to an arc are gaps of the opposite turn. Plain numbers: the first time in an arc is a record; returns in numbers; the times of return as a list. What chapter 7's functions return, in plain numbers. -/
import Derived.Test.YtppahekbgbbidacGOrd
import Derived.Test.YtppahekbgbbidacGVis
import Derived.Test.YtppahekbgbbidacGRec
import Derived.Test.YtppahekbgbbidacGKinds
set_option linter.unusedVariables false
namespace Go.Proofs.Ytppahekbgbbidac
open N

/-- after k steps the turn, at point p, is in the arc again, for the first time -/
structure IsRet (n s w p k : Int) : Prop where
  pos : 1 ≤ k
  hit : (p + k * s) % n < w
  miss : ∀ j, 1 ≤ j → j < k → w ≤ (p + j * s) % n

theorem IsRet.unique {n s w p k k' : Int} (a : IsRet n s w p k) (b : IsRet n s w p k') : k = k' := by
  by_cases h : k < k'
  · have := b.miss k a.pos h; have := a.hit; omega
  · by_cases h' : k' < k
    · have := a.miss k' b.pos h'; have := b.hit; omega
    · omega

/-- what is behind a time's point in a turn: the next point, or the circle's end -/
def behind (n u b : Int) : Int := if b = 0 then n else pt n u b

def retB (n u w p : Int) : Int := behind n u (nextT n u w p) - pt n u p

theorem pt_pt {n s : Int} (ht : tok n s = true) {x : Int} (h0 : 0 ≤ x) (h1 : x < n) : pt n s (pt n (invF n s) x) = x := from_time ht x h0 h1

theorem pt_pt' {n s : Int} (ht : tok n s = true) {x : Int} (h0 : 0 ≤ x) (h1 : x < n) : pt n (invF n s) (pt n s x) = x := from_point ht x h0 h1

theorem pt_from (n s P k : Int) : (pt n s P + k * s) % n = pt n s (P + k) := by
  unfold pt
  rw [Int.emod_add_emod, ← Int.add_mul]

theorem pt_n (n s : Int) : pt n s n = 0 := by unfold pt; exact Int.mul_emod_right n s

theorem behind_pt {n s : Int} (ht : tok n s = true) {b : Int} (h0 : 0 ≤ b) (h1 : b < n) : pt n s (behind n (invF n s) b) = b := by
  unfold behind
  split
  · rename_i h; rw [pt_n, h]
  · exact pt_pt ht h0 h1

theorem behind_le {n u : Int} (h0 : 2 ≤ n) (b : Int) : behind n u b ≤ n := by
  unfold behind
  split
  · exact Int.le_refl _
  · exact Int.le_of_lt (pt_hi u b h0)

/-- the gap of the opposite turn is the time of return, and the next time there is where one lands -/
theorem ret_is {n s w p : Int} (ht : tok n s = true) (w1 : 1 ≤ w) (w2 : w ≤ n) (p0 : 0 ≤ p) (p1 : p < w) :
    IsRet n s w p (retB n (invF n s) w p) ∧ (p + retB n (invF n s) w p * s) % n = nextT n (invF n s) w p := by
  have hb := tok_bd ht
  have hu := tok_inv ht
  have hN := nextT_is hu w1 w2 p0 p1
  have hnb := nextT_bd hu w1 w2 p0 p1
  have hP := pt_pt ht p0 (by omega : p < n)
  have hland := behind_pt ht hnb.1 (by omega)
  have hble := behind_le (n := n) (u := invF n s) (by omega) (nextT n (invF n s) w p)
  have l0 := pt_lo (n := n) (invF n s) p (by omega)
  have l1 := pt_hi (n := n) (invF n s) p (by omega)
  have key : ∀ k, (p + k * s) % n = pt n s (pt n (invF n s) p + k) := fun k => by rw [← pt_from, hP]
  have hlt : pt n (invF n s) p < behind n (invF n s) (nextT n (invF n s) w p) := by
    unfold behind
    rcases hN with ⟨e, _⟩ | ⟨e, _, h, _⟩
    · rw [if_pos e]; exact l1
    · rw [if_neg (by omega)]; exact h
  have hlast : (p + retB n (invF n s) w p * s) % n = nextT n (invF n s) w p := by
    rw [key]
    show pt n s (pt n (invF n s) p + (behind n (invF n s) (nextT n (invF n s) w p) - pt n (invF n s) p)) = _
    rw [show pt n (invF n s) p + (behind n (invF n s) (nextT n (invF n s) w p) - pt n (invF n s) p) = behind n (invF n s) (nextT n (invF n s) w p) by omega, hland]
  refine ⟨⟨by unfold retB; omega, by rw [hlast]; exact hnb.2, fun j j1 j2 => ?_⟩, hlast⟩
  rw [key]
  unfold retB at j2
  by_cases c : w ≤ pt n s (pt n (invF n s) p + j)
  · exact c
  · exfalso
    have x0 := pt_lo (n := n) s (pt n (invF n s) p + j) (by omega)
    have e := pt_pt' ht (x := pt n (invF n s) p + j) (by omega) (by omega)
    rcases hN with ⟨e0, h⟩ | ⟨e0, e1, e2, h⟩
    · have := h _ x0 (by omega)
      omega
    · have k := h _ x0 (by omega) (by omega)
      unfold behind at j2
      rw [if_neg (by omega)] at j2
      omega

theorem retB_of {n s w p k : Int} (ht : tok n s = true) (w1 : 1 ≤ w) (w2 : w ≤ n) (p0 : 0 ≤ p) (p1 : p < w) (h : IsRet n s w p k) : retB n (invF n s) w p = k := (ret_is ht w1 w2 p0 p1).1.unique h

/-- the times of return are the gaps -/
theorem ret_perm {n u : Int} (hu : tok n u = true) {w : Nat} (w1 : 1 ≤ w) (hw : (w : Int) ≤ n) : (gapsT n u w).Perm ((List.range w).map fun p : Nat => retB n u w p) := by
  have h := turns_of hu
  have e1 : gapsT n u w = (srt n u w).map fun x => retB n u w (timeF n u x) := by
    apply List.ext_getElem (by rw [gapsT_length, List.length_map, srt_length])
    intro i h1 h2
    rw [gapsT_length] at h1
    have a := gapsT_getD n u h1 0
    rw [List.getD_eq_getElem?_getD, List.getElem?_eq_getElem (by rw [gapsT_length]; exact h1)] at a
    obtain ⟨t, ht1, e⟩ := srt_at (n := n) (s := u) h1 n
    have hN := nextT_is hu (by omega : (1 : Int) ≤ w) hw (by omega : (0 : Int) ≤ t) (by omega)
    have b := srt_next h hw h1 ht1 e hN
    have b' : (srt n u w).getD (i + 1) n = behind n u (nextT n u w t) := by
      unfold behind
      rcases b with ⟨b0, b1⟩ | ⟨b0, _, b1⟩
      · rw [if_pos b0]; exact b1
      · rw [if_neg (by omega)]; exact b1
    rw [List.getElem_map]
    have c : timeF n u ((srt n u w)[i]'(by rw [srt_length]; exact h1)) = t := by
      refine timeF_of hu (by omega) (by omega) ?_
      rw [List.getD_eq_getElem?_getD, List.getElem?_eq_getElem (by rw [srt_length]; exact h1)] at e
      exact e
    rw [c]
    unfold retB
    rw [← b', e]
    exact a
  rw [e1]
  refine ((isort_perm _).map _).trans ?_
  unfold ptsL
  rw [List.map_map]
  refine List.Perm.of_eq (List.map_congr_left fun k hk => ?_)
  simp at hk
  show retB n u w (timeF n u (pt n u k)) = _
  rw [timeF_of hu (k := (k : Int)) (p := pt n u k) (by omega) (by omega) rfl]

theorem sum_perm {xs ys : List Int} (h : xs.Perm ys) : xs.sum = ys.sum := by
  induction h with
  | nil => rfl
  | cons x _ ih => rw [List.sum_cons, List.sum_cons, ih]
  | swap x y l => rw [List.sum_cons, List.sum_cons, List.sum_cons, List.sum_cons]; omega
  | trans _ _ a b => exact a.trans b

theorem sumI_list (f : Nat → Int) (m : Nat) : ((List.range m).map f).sum = sumI f m := by
  induction m with
  | zero => rfl
  | succ m ih => rw [List.range_succ, List.map_append, List.sum_append, ih]; simp [sumI]

/-- all returns together are the circle -/
theorem ret_sum {n u : Int} (hu : tok n u = true) {w : Nat} (w1 : 1 ≤ w) (hw : (w : Int) ≤ n) : sumI (fun p : Nat => retB n u w p) w = n := by
  rw [← sumI_list, ← sum_perm (ret_perm hu w1 hw)]
  have h := gaps_total (turns_of hu) w1 hw
  unfold sumT at h
  rwa [List.take_of_length_le (by rw [gapsT_length]; exact Nat.le_refl _)] at h

theorem ret_mem {n u : Int} (hu : tok n u = true) {w : Nat} (w1 : 1 ≤ w) (hw : (w : Int) ≤ n) {p : Nat} (hp : p < w) : retB n u w p ∈ gapsT n u w := by
  rw [(ret_perm hu w1 hw).mem_iff, List.mem_map]
  exact ⟨p, by simpa using hp, rfl⟩

theorem ret_bd {n u : Int} (hu : tok n u = true) {w : Nat} (w1 : 1 ≤ w) (hw : (w : Int) ≤ n) {p : Nat} (hp : p < w) : 1 ≤ retB n u w p ∧ retB n u w p ≤ n := by
  obtain ⟨i, hi, e⟩ := mem_getD 0 (ret_mem hu w1 hw hp)
  rw [gapsT_length] at hi
  have := gaps_pos (turns_of hu) hw hi 0
  rwa [e] at this

theorem ret_whole {n u : Int} (hu : tok n u = true) {w : Nat} (w1 : 1 ≤ w) (hw : (w : Int) = n) {p : Nat} (hp : p < w) : retB n u w p = 1 := by
  obtain ⟨i, hi, e⟩ := mem_getD 0 (ret_mem hu w1 (by omega) hp)
  rw [gapsT_length] at hi
  have := gaps_all (turns_of hu) w1 hw hi
  omega

theorem ret_one {n u : Int} (hu : tok n u = true) : retB n u 1 0 = n := by
  have hb := tok_bd hu
  have h := ret_mem hu (w := 1) (by omega) (by omega) (p := 0) (by omega)
  rw [gaps_one (turns_of hu)] at h
  simpa using h

/-! ### where one lands -/

theorem land_inj {n u w p p' : Int} (hu : tok n u = true) (w1 : 1 ≤ w) (w2 : w ≤ n) (p0 : 0 ≤ p) (p1 : p < w) (q0 : 0 ≤ p') (q1 : p' < w) (e : nextT n u w p = nextT n u w p') : p = p' := by
  have h := turns_of hu
  have a := nextT_is hu w1 w2 p0 p1
  have b := nextT_is hu w1 w2 q0 q1
  rw [← e] at b
  have hle : ∀ {x y : Int}, 0 ≤ x → x < w → 0 ≤ y → y < w → IsNext n u w x (nextT n u w p) → IsNext n u w y (nextT n u w p) → pt n u x ≤ pt n u y := by
    intro x y x0 x1 y0 y1 hx hy
    rcases hy with ⟨_, hy⟩ | ⟨hy0, hy1, hy2, hy3⟩
    · exact hy x x0 x1
    · rcases hx with ⟨hx0, _⟩ | ⟨_, _, hx2, _⟩
      · omega
      · by_cases c : pt n u y < pt n u x
        · have := hy3 x x0 x1 c; omega
        · omega
  have k1 := hle p0 p1 q0 q1 a b
  have k2 := hle q0 q1 p0 p1 b a
  exact h.inj p p' p0 (by omega) q0 (by omega) (by omega)

theorem count_unique {f : Nat → Bool} {k : Nat} (hk : f k = true) (hu : ∀ j, f j = true → j = k) (m : Nat) : (List.range m).countP f = if k < m then 1 else 0 := by
  induction m with
  | zero => simp
  | succ m ih =>
    rw [List.range_succ, List.countP_append, ih]
    by_cases c : m = k
    · subst c
      rw [if_neg (by omega), if_pos (by omega)]
      simp [hk]
    · have : f m = false := by
        cases e : f m with
        | false => rfl
        | true => exact absurd (hu m e) c
      simp [this]
      by_cases d : k < m
      · rw [if_pos d, if_pos (by omega)]
      · rw [if_neg d, if_neg (by omega)]

/-- each point is landed at just once -/
theorem land_count {n u : Int} (hu : tok n u = true) {w : Nat} (w1 : 1 ≤ w) (hw : (w : Int) ≤ n) {x : Nat} (hx : x < w) : (List.range w).countP (fun k : Nat => decide (k < w) && (nextT n u w k == (x : Int))) = 1 := by
  have hbd : ∀ k : Nat, k < w → 0 ≤ nextT n u w k ∧ nextT n u w k < w := fun k hk => nextT_bd hu (by omega) hw (by omega) (by omega)
  obtain ⟨k, hk, e⟩ := pigeon (fun k => (nextT n u w k).toNat) w (fun k hk => by have := hbd k hk; show (nextT n u w k).toNat < w; omega) (fun j k hjk hk e => by
    have a := hbd j (by omega)
    have b := hbd k hk
    have := land_inj hu (by omega) hw (by omega) (by omega : (j : Int) < w) (by omega) (by omega : (k : Int) < w) (by omega)
    omega) x hx
  have a := hbd k hk
  have e' : nextT n u w k = x := by omega
  rw [count_unique (k := k) (by simp [hk, e']) (fun j hj => by
    simp at hj
    have := land_inj hu (by omega) hw (by omega) (by omega : (j : Int) < w) (by omega) (by omega : (k : Int) < w) (by rw [hj.2, e'])
    omega) w, if_pos hk]

/-- a narrower arc: one point fewer -/
theorem ret_add {n s w p : Int} (ht : tok n s = true) (w2 : 2 ≤ w) (hw : w ≤ n) (p0 : 0 ≤ p) (p1 : p < w - 1) :
    (nextT n (invF n s) w p ≠ w - 1 → retB n (invF n s) (w - 1) p = retB n (invF n s) w p ∧ nextT n (invF n s) (w - 1) p = nextT n (invF n s) w p) ∧
    (nextT n (invF n s) w p = w - 1 → retB n (invF n s) (w - 1) p = retB n (invF n s) w p + retB n (invF n s) w (w - 1) ∧ nextT n (invF n s) (w - 1) p = nextT n (invF n s) w (w - 1)) := by
  have hb := tok_bd ht
  have hu := tok_inv ht
  obtain ⟨a, la⟩ := ret_is ht (by omega) hw p0 (by omega : p < w)
  obtain ⟨c, lc⟩ := ret_is ht (by omega : 1 ≤ w) hw (by omega : 0 ≤ w - 1) (by omega : w - 1 < w)
  obtain ⟨d, ld⟩ := ret_is ht (by omega : 1 ≤ w - 1) (by omega) p0 p1
  have na := nextT_bd hu (by omega) hw p0 (by omega : p < w)
  have nc := nextT_bd hu (by omega : 1 ≤ w) hw (by omega : 0 ≤ w - 1) (by omega : w - 1 < w)
  have hinj := land_inj (p := p) (p' := w - 1) hu (by omega) hw p0 (by omega) (by omega) (by omega)
  generalize invF n s = u at *
  constructor
  · intro h
    have e : IsRet n s (w - 1) p (retB n u w p) := ⟨a.pos, by rw [la]; omega, fun j j1 j2 => by have := a.miss j j1 j2; omega⟩
    have k := d.unique e
    rw [k] at ld ⊢
    exact ⟨rfl, by rw [← ld, la]⟩
  · intro h
    have hne : nextT n u w (w - 1) ≠ w - 1 := fun h' => by have := hinj (by rw [h, h']); omega
    have step : ∀ j, (p + (retB n u w p + j) * s) % n = (w - 1 + j * s) % n := fun j => by
      rw [← h, ← la, Int.emod_add_emod, Int.add_mul, Int.add_assoc]
    have e : IsRet n s (w - 1) p (retB n u w p + retB n u w (w - 1)) := by
      refine ⟨by have := a.pos; have := c.pos; omega, by rw [step, lc]; omega, fun j j1 j2 => ?_⟩
      by_cases c1 : j < retB n u w p
      · have := a.miss j j1 c1; omega
      · by_cases c2 : j = retB n u w p
        · rw [c2, la, h]; omega
        · have := c.miss (j - retB n u w p) (by omega) (by omega)
          rw [← step, show retB n u w p + (j - retB n u w p) = j by omega] at this
          omega
    have k := d.unique e
    rw [k] at ld ⊢
    exact ⟨rfl, by rw [← ld, step, lc]⟩

/-! ### up and down -/

theorem ret_zero {n u w : Int} (hu : tok n u = true) (w2 : 2 ≤ w) (hw : w ≤ n) : retB n u w 0 = pt n u (nearA n u w) := by
  have h := (nearA_is hu w2 hw).1
  unfold retB behind
  rw [nextT_zero w2, if_neg (by omega), pt0, Int.sub_zero]

theorem up_wider {n s w : Int} (ht : tok n s = true) (w2 : 2 ≤ w) (hw : w + 1 ≤ n) : retB n (invF n s) (w + 1) 0 ≤ retB n (invF n s) w 0 := by
  have a := (ret_is ht (by omega : 1 ≤ w) (by omega) (Int.le_refl 0) (by omega)).1
  have b := (ret_is ht (by omega : 1 ≤ w + 1) hw (Int.le_refl 0) (by omega)).1
  by_cases c : retB n (invF n s) (w + 1) 0 ≤ retB n (invF n s) w 0
  · exact c
  · have := b.miss _ a.pos (by omega)
    have := a.hit
    omega

theorem inv_back {n s : Int} (ht : tok n s = true) : invF n (n - s) = n - invF n s := by
  have hb := tok_bd ht
  obtain ⟨a, b, c⟩ := invF_spec ht
  have hk : tok n (n - s) = true := by rw [tok_back]; exact ht
  refine (inv_unique hk (by omega) (by omega) ?_).symm
  rw [Int.sub_mul, Int.mul_sub n n s, Int.mul_sub (invF n s) n s]
  rw [show n * n - n * s - (invF n s * n - invF n s * s) = invF n s * s + n * (n - s - invF n s) by rw [Int.mul_sub, Int.mul_sub, Int.mul_comm (invF n s) n]; omega]
  rw [Int.add_mul_emod_self_left, c]

theorem pt_back {n s k : Int} (ht : tok n s = true) (h0 : 1 ≤ k) (h1 : k < n) : pt n (n - s) k = n - pt n s k := by
  have a := back_points ht h0 h1
  rw [pointF_yes ht (by omega) h1, pointF_yes (by rw [tok_back]; exact ht) (by omega) h1] at a
  unfold pt
  omega

/-- the time down: as told by the greatest near point -/
theorem down_zero {n s w : Int} (ht : tok n s = true) (w2 : 2 ≤ w) (hw : w ≤ n) : retB n (invF n (n - s)) w 0 = n - pt n (invF n s) (nearB n (invF n s) w) := by
  have hk : tok n (n - s) = true := by rw [tok_back]; exact ht
  have hu := tok_inv ht
  rw [ret_zero (tok_inv hk) w2 hw, inv_back ht, nearA_back]
  have h := nearB_is hu w2 hw
  exact pt_back hu h.1 (by have := h.2.1; omega)

/-- the greatest point of the arc returns at the time down -/
theorem down_last {n s w : Int} (ht : tok n s = true) (w2 : 2 ≤ w) (hw : w ≤ n) : retB n (invF n s) w (w - 1) = retB n (invF n (n - s)) w 0 := by
  have hb := tok_bd ht
  have hk : tok n (n - s) = true := by rw [tok_back]; exact ht
  have a := (ret_is hk (by omega : 1 ≤ w) hw (Int.le_refl 0) (by omega)).1
  have hT := turns_of ht
  have hlt : retB n (invF n (n - s)) w 0 < n := by
    rw [ret_zero (tok_inv hk) w2 hw]; exact pt_hi _ _ (by omega)
  refine retB_of ht (by omega) hw (by omega) (by omega) ?_
  have key : ∀ j, 1 ≤ j → j < n → ((w - 1 + j * s) % n < w ↔ (0 + j * (n - s)) % n < w) := fun j j1 j2 => by
    have e1 : (0 + j * (n - s)) % n = n - pt n s j := by rw [Int.zero_add]; exact pt_back ht j1 j2
    have p0 := hT.pos j1 j2
    have p1 := pt_hi (n := n) s j (by omega)
    have e2 : (w - 1 + j * s) % n = (w - 1 + pt n s j) % n := by unfold pt; rw [Int.add_emod_emod]
    rw [e1, e2]
    by_cases c : w - 1 + pt n s j < n
    · rw [Int.emod_eq_of_lt (by omega) c]; omega
    · have e3 : (w - 1 + pt n s j) % n = w - 1 + pt n s j - n := by
        rw [← Int.sub_emod_right]; exact Int.emod_eq_of_lt (by omega) (by omega)
      rw [e3]; omega
  exact ⟨a.pos, (key _ a.pos hlt).2 a.hit, fun j j1 j2 => by
    have h := a.miss j j1 j2
    have k := key j j1 (by omega)
    omega⟩

/-- the point at the time up is the near time of the opposite turn, and so below -/
theorem up_point {n s w : Int} (ht : tok n s = true) (w2 : 2 ≤ w) (hw : w ≤ n) : pt n s (retB n (invF n s) w 0) = nearA n (invF n s) w := by
  have h := nearA_is (tok_inv ht) w2 hw
  rw [ret_zero (tok_inv ht) w2 hw]
  exact pt_pt ht (by have := h.1; omega) (by have := h.2.1; omega)

theorem down_point {n s w : Int} (ht : tok n s = true) (w2 : 2 ≤ w) (hw : w ≤ n) : n - pt n s (retB n (invF n (n - s)) w 0) = nearB n (invF n s) w := by
  have hu := tok_inv ht
  have hb := tok_bd ht
  have h := nearB_is hu w2 hw
  have hq := pt_pt ht (x := nearB n (invF n s) w) (by have := h.1; omega) (by have := h.2.1; omega)
  have hp := (turns_of hu).pos (k := nearB n (invF n s) w) h.1 (by have := h.2.1; omega)
  have hp1 := pt_hi (n := n) (invF n s) (nearB n (invF n s) w) (by omega)
  rw [down_zero ht w2 hw]
  generalize nearB n (invF n s) w = q at *
  generalize pt n (invF n s) q = P at *
  have e := pt_sub (n := n) s n P (by omega)
  rw [pt_n, hq] at e
  have := h.1
  omega
end Go.Proofs.Ytppahekbgbbidac

set_option linter.unusedVariables false
namespace Go.Proofs.Ytppahekbgbbidac
open N

/-- the records above are the times that are nearer than all before -/
theorem rec_up_mem {n s : Nat} (h0 : 0 < n) (m : Nat) : (∀ j, 1 ≤ j → j < m → (recSt true n s m).1 ≤ j * s % n) ∧ ((recSt true n s m).1 = n ∨ ∃ j, 1 ≤ j ∧ j < m ∧ (recSt true n s m).1 = j * s % n) ∧
    ∀ k, k ∈ (recSt true n s m).2 ↔ (1 ≤ k ∧ k < m ∧ ∀ j, 1 ≤ j → j < k → k * s % n < j * s % n) := by
  induction m with
  | zero => exact ⟨fun j _ h => by omega, .inl rfl, fun k => ⟨fun h => (by cases h), fun h => (by omega)⟩⟩
  | succ m ih =>
    obtain ⟨a, b, c⟩ := ih
    rw [recSt_succ, recStep]
    generalize hst : recSt true n s m = st at *
    by_cases h : 1 ≤ m ∧ (if true then m * s % n < st.1 else st.1 < m * s % n)
    · rw [if_pos h]
      obtain ⟨h1, h2⟩ := h
      have h2' : m * s % n < st.1 := h2
      refine ⟨fun j j1 j2 => ?_, .inr ⟨m, h1, by omega, rfl⟩, fun k => ?_⟩
      · by_cases e : j = m
        · subst e; exact Nat.le_refl _
        · have := a j j1 (by omega); show m * s % n ≤ _; omega
      · show k ∈ st.2 ++ [m] ↔ _
        rw [List.mem_append, List.mem_singleton, c]
        constructor
        · rintro (⟨k1, k2, k3⟩ | rfl)
          · exact ⟨k1, by omega, k3⟩
          · exact ⟨h1, by omega, fun j j1 j2 => by have := a j j1 j2; omega⟩
        · rintro ⟨k1, k2, k3⟩
          by_cases e : k = m
          · exact .inr e
          · exact .inl ⟨k1, by omega, k3⟩
    · rw [if_neg h]
      have h' : 1 ≤ m → st.1 ≤ m * s % n := fun h1 => by
        by_cases c1 : m * s % n < st.1
        · exact absurd ⟨h1, c1⟩ h
        · omega
      refine ⟨fun j j1 j2 => ?_, ?_, fun k => ?_⟩
      · by_cases e : j = m
        · subst e; exact h' j1
        · exact a j j1 (by omega)
      · rcases b with b | ⟨j, j1, j2, j3⟩
        · exact .inl b
        · exact .inr ⟨j, j1, by omega, j3⟩
      · rw [c]
        constructor
        · rintro ⟨k1, k2, k3⟩; exact ⟨k1, by omega, k3⟩
        · rintro ⟨k1, k2, k3⟩
          refine ⟨k1, ?_, k3⟩
          by_cases e : k = m
          · exfalso
            subst e
            have h1 := h' k1
            rcases b with b | ⟨j, j1, j2, j3⟩
            · have := Nat.mod_lt (k * s) h0; omega
            · have := k3 j j1 j2; omega
          · omega

/-- the first time in an arc from 0 on is a record above -/
theorem up_record {n s : Nat} (ht : tokN n s = true) {w : Int} (w2 : 2 ≤ w) (hw : w ≤ n) {k : Nat} (hk : retB n (invF n s) w 0 = k) : k ∈ recL true n s := by
  have hI := tok_of_tokN ht
  have hb := tok_bd hI
  have a := (ret_is hI (by omega : 1 ≤ w) hw (Int.le_refl 0) (by omega)).1
  have hlt : retB (n : Int) (invF n s) w 0 < n := by rw [ret_zero (tok_inv hI) w2 hw]; exact pt_hi _ _ (by omega)
  rw [hk] at a hlt
  have e : ∀ j : Nat, (0 + (j : Int) * s) % n = ((j * s % n : Nat) : Int) := fun j => by rw [Int.zero_add]; simp
  show k ∈ (recSt true n s n).2
  rw [(rec_up_mem (by omega) n).2.2]
  have hp := a.pos
  refine ⟨by omega, by omega, fun j j1 j2 => ?_⟩
  have h1 := a.hit
  have h2 := a.miss j (by omega) (by omega)
  rw [e] at h1 h2
  omega

/-- how many points return after a time -/
theorem ret_count {n u : Int} (hu : tok n u = true) {w : Nat} (w1 : 1 ≤ w) (hw : (w : Int) ≤ n) (x : Int) : (List.range w).countP (fun p : Nat => retB n u w p == x) = (gapsT n u w).count x := by
  rw [(ret_perm hu w1 hw).count_eq, List.count, List.countP_map]
  rfl

/-- each once, in ascending order: the kinds of gaps of the opposite turn -/
theorem ret_kinds {n u : Int} (hu : tok n u = true) {w : Nat} (w1 : 1 ≤ w) (hw : (w : Int) ≤ n) : kindsL ((List.range w).map fun p : Nat => retB n u w p) = kindsL (gapsT n u w) := by
  have a := kindsL_is ((List.range w).map fun p : Nat => retB n u w p)
  have b := kindsL_is (gapsT n u w)
  exact asc_ext a.1 b.1 fun x => by rw [a.2, b.2, (ret_perm hu w1 hw).mem_iff]

/-- at most three; the greatest one is both others -/
theorem ret_three {n u : Int} (hu : tok n u = true) {w : Nat} (w1 : 1 ≤ w) (hw : (w : Int) ≤ n) : (kindsL (gapsT n u w)).length ≤ 3 ∧ ((kindsL (gapsT n u w)).length = 3 → (kindsL (gapsT n u w)).getD 2 0 = (kindsL (gapsT n u w)).getD 0 0 + (kindsL (gapsT n u w)).getD 1 0) := by
  have hb := tok_bd hu
  have k := kindsL_is (gapsT n u w)
  by_cases c : w = 1
  · subst c
    rw [gaps_one (turns_of hu)]
    have : (kindsL [n]).length ≤ 1 := kindsL_le [n]
    exact ⟨by omega, fun h => by omega⟩
  · have p := nearA_is hu (by omega : (2 : Int) ≤ w) hw
    have q := nearB_is hu (by omega : (2 : Int) ≤ w) hw
    have hp := (turns_of hu).pos p.1 (by have := p.2.1; omega)
    have hq := pt_hi (n := n) u (nearB n u w) (by omega)
    exact kinds_three (A := pt n u (nearA n u w)) (B := n - pt n u (nearB n u w)) (by omega) (by omega) k.1 fun x hx => gaps_mem hu hw p q ((k.2 x).1 hx)

/-- the three times and how often each is, in numbers -/
theorem ret_by_count {n u : Int} (hu : tok n u = true) {w : Nat} (w2 : 2 ≤ w) (hw : (w : Int) ≤ n) (x : Int) :
    (((gapsT n u w).count x : Nat) : Int) = (if pt n u (nearA n u w) = x then (w : Int) - nearA n u w else 0) + (if n - pt n u (nearB n u w) = x then (w : Int) - nearB n u w else 0) + (if pt n u (nearA n u w) + (n - pt n u (nearB n u w)) = x then nearA n u w + nearB n u w - w else 0) :=
  gaps_count hu hw (nearA_is hu (by omega : (2 : Int) ≤ w) hw) (nearB_is hu (by omega : (2 : Int) ≤ w) hw) x
end Go.Proofs.Ytppahekbgbbidac

set_option linter.unusedVariables false
namespace Go.Proofs.Ytppahekbgbbidac
open N

/-- the time of return -/
def retF (n s w p : Int) : Int := if tok n s = true ∧ 1 ≤ w ∧ w ≤ n ∧ 0 ≤ p ∧ p < w then retB n (invF n s) w p else -1

def landF (n s w p : Int) : Int := if tok n s = true ∧ 1 ≤ w ∧ w ≤ n ∧ 0 ≤ p ∧ p < w then nextT n (invF n s) w p else -1

def retsF (n s w : Int) : List Int := if tok n s = true ∧ 1 ≤ w ∧ w ≤ n then (List.range w.toNat).map (fun p : Nat => retB n (invF n s) w p) else []

def rtimesF (n s w : Int) : List Int := kindsL (retsF n s w)

def rlongF (n s w x : Int) : Int := if retsF n s w = [] then -1 else ((retsF n s w).count x : Nat)

def aupF (n s w : Int) : Int := if tok n s = true ∧ 2 ≤ w ∧ w ≤ n then retB n (invF n s) w 0 else -1

def adownF (n s w : Int) : Int := if tok n s = true ∧ 2 ≤ w ∧ w ≤ n then retB n (invF n (n - s)) w 0 else -1

def rbyF (n s w : Int) : List Int := if tok n s = true ∧ 2 ≤ w ∧ w ≤ n then
  [aupF n s w, w - pt n s (aupF n s w), adownF n s w, w - (n - pt n s (adownF n s w)), aupF n s w + adownF n s w, pt n s (aupF n s w) + (n - pt n s (adownF n s w)) - w] else []

theorem retF_yes {n s w p : Int} (ht : tok n s = true) (w1 : 1 ≤ w) (w2 : w ≤ n) (p0 : 0 ≤ p) (p1 : p < w) : retF n s w p = retB n (invF n s) w p := if_pos ⟨ht, w1, w2, p0, p1⟩

theorem retF_no {n s w p : Int} (h : ¬ (tok n s = true ∧ 1 ≤ w ∧ w ≤ n ∧ 0 ≤ p ∧ p < w)) : retF n s w p = -1 := if_neg h

theorem landF_yes {n s w p : Int} (ht : tok n s = true) (w1 : 1 ≤ w) (w2 : w ≤ n) (p0 : 0 ≤ p) (p1 : p < w) : landF n s w p = nextT n (invF n s) w p := if_pos ⟨ht, w1, w2, p0, p1⟩

theorem landF_no {n s w p : Int} (h : ¬ (tok n s = true ∧ 1 ≤ w ∧ w ≤ n ∧ 0 ≤ p ∧ p < w)) : landF n s w p = -1 := if_neg h

theorem retsF_yes {n s : Int} {w : Nat} (ht : tok n s = true) (w1 : 1 ≤ w) (w2 : (w : Int) ≤ n) : retsF n s w = (List.range w).map (fun p : Nat => retB n (invF n s) w p) := by
  unfold retsF; rw [if_pos ⟨ht, by omega, w2⟩, Int.toNat_natCast]

theorem retsF_no {n s w : Int} (h : ¬ (tok n s = true ∧ 1 ≤ w ∧ w ≤ n)) : retsF n s w = [] := if_neg h

theorem aupF_yes {n s w : Int} (ht : tok n s = true) (w1 : 2 ≤ w) (w2 : w ≤ n) : aupF n s w = retB n (invF n s) w 0 := if_pos ⟨ht, w1, w2⟩

theorem aupF_no {n s w : Int} (h : ¬ (tok n s = true ∧ 2 ≤ w ∧ w ≤ n)) : aupF n s w = -1 := if_neg h

theorem adownF_yes {n s w : Int} (ht : tok n s = true) (w1 : 2 ≤ w) (w2 : w ≤ n) : adownF n s w = retB n (invF n (n - s)) w 0 := if_pos ⟨ht, w1, w2⟩

theorem adownF_no {n s w : Int} (h : ¬ (tok n s = true ∧ 2 ≤ w ∧ w ≤ n)) : adownF n s w = -1 := if_neg h

theorem rbyF_no {n s w : Int} (h : ¬ (tok n s = true ∧ 2 ≤ w ∧ w ≤ n)) : rbyF n s w = [] := if_neg h

theorem rtimesF_no {n s w : Int} (h : ¬ (tok n s = true ∧ 1 ≤ w ∧ w ≤ n)) : rtimesF n s w = [] := by unfold rtimesF; rw [retsF_no h]; rfl

theorem retsF_len (n s w : Int) : (retsF n s w).length ≤ 60 := by
  by_cases h : tok n s = true ∧ 1 ≤ w ∧ w ≤ n
  · have hb := tok_bd h.1
    unfold retsF; rw [if_pos h, List.length_map, List.length_range]; omega
  · rw [retsF_no h]; simp

theorem rtimesF_len (n s w : Int) : (rtimesF n s w).length ≤ 60 := Nat.le_trans (kindsL_le _) (retsF_len n s w)

theorem rbyF_len (n s w : Int) : (rbyF n s w).length ≤ 60 := by
  by_cases h : tok n s = true ∧ 2 ≤ w ∧ w ≤ n
  · unfold rbyF; rw [if_pos h]; simp
  · rw [rbyF_no h]; simp

/-- the times of return of an arc's points, one after the other -/
def retsT (n s : Int) (u : Nat) : List Int := (List.range u).map (fun p : Nat => retB n (invF n s) u p)

theorem retsT_len (n s : Int) (u : Nat) : (retsT n s u).length = u := by unfold retsT; simp

theorem retsT_getD (n s : Int) {u k : Nat} (h : k < u) : (retsT n s u).getD k 0 = retB n (invF n s) u k := by
  unfold retsT
  rw [List.getD_eq_getElem?_getD, List.getElem?_map, List.getElem?_range h]; rfl

theorem retsT_take {n s : Int} {u k : Nat} (h : k < u) : (retsT n s u).take (k + 1) = (retsT n s u).take k ++ [retB n (invF n s) u k] := by
  rw [take_one _ (by rw [retsT_len]; exact h), retsT_getD n s h]

theorem retsF_T {n s : Int} {w : Nat} (ht : tok n s = true) (w1 : 1 ≤ w) (w2 : (w : Int) ≤ n) : retsF n s w = retsT n s w := retsF_yes ht w1 w2

theorem rlong_yes {n s : Int} {w : Nat} (ht : tok n s = true) (w1 : 1 ≤ w) (w2 : (w : Int) ≤ n) (x : Int) : rlongF n s w x = ((retsT n s w).count x : Nat) := by
  unfold rlongF
  rw [retsF_T ht w1 w2, if_neg]
  intro e
  have := retsT_len n s w
  rw [e] at this; simp at this; omega

theorem rlong_no {n s w x : Int} (h : ¬ (tok n s = true ∧ 1 ≤ w ∧ w ≤ n)) : rlongF n s w x = -1 := by unfold rlongF; rw [if_pos (retsF_no h)]

theorem retF_bd {n s w p : Int} (ht : tok n s = true) (w1 : 1 ≤ w) (w2 : w ≤ n) (p0 : 0 ≤ p) (p1 : p < w) : 1 ≤ retF n s w p ∧ retF n s w p ≤ n := by
  rw [retF_yes ht w1 w2 p0 p1]
  obtain ⟨w, rfl⟩ := Int.eq_ofNat_of_zero_le (by omega : 0 ≤ w)
  obtain ⟨p, rfl⟩ := Int.eq_ofNat_of_zero_le p0
  exact ret_bd (tok_inv ht) (by omega) w2 (by omega)

/-- the point so many steps after a point -/
def fromP (n s p : Int) (k : Nat) : Int := (p + (k : Int) * s) % n

theorem fromP_lo {n : Int} (s p : Int) (k : Nat) (h : 2 ≤ n) : 0 ≤ fromP n s p k := Int.emod_nonneg _ (by omega)

theorem fromP_hi {n : Int} (s p : Int) (k : Nat) (h : 2 ≤ n) : fromP n s p k < n := Int.emod_lt_of_pos _ (by omega)

theorem fromP_succ (n s p : Int) (k : Nat) : (fromP n s p k + s) % n = fromP n s p (k + 1) := by
  unfold fromP
  rw [Int.emod_add_emod, Int.add_assoc, show (k : Int) * s + s = ((k + 1 : Nat) : Int) * s by rw [Int.natCast_add, Int.add_mul]; simp]

theorem fromP_one (n s p : Int) : fromP n s p 1 = (p + s) % n := by unfold fromP; simp

theorem fromP_zero (n s : Int) (k : Nat) : fromP n s 0 k = (k : Int) * s % n := by unfold fromP; rw [Int.zero_add]

/-- the first of K times at which something holds -/
structure IsFirst (P : Int → Bool) (n s p : Int) (K : Nat) : Prop where
  pos : 1 ≤ K
  le : (K : Int) ≤ n
  hit : P (fromP n s p K) = true
  miss : ∀ j : Nat, 1 ≤ j → j < K → P (fromP n s p j) = false

theorem ret_first {n s w p : Int} (ht : tok n s = true) (w1 : 1 ≤ w) (w2 : w ≤ n) (p0 : 0 ≤ p) (p1 : p < w) :
    ∃ K : Nat, retF n s w p = K ∧ IsFirst (fun x => decide (x < w)) n s p K ∧ landF n s w p = fromP n s p K := by
  have hbd := retF_bd ht w1 w2 p0 p1
  obtain ⟨K, hK⟩ := Int.eq_ofNat_of_zero_le (by omega : 0 ≤ retF n s w p)
  have e := retF_yes ht w1 w2 p0 p1
  obtain ⟨a, l⟩ := ret_is ht w1 w2 p0 p1
  rw [← e, hK] at a l
  refine ⟨K, hK, ⟨by omega, by omega, (by show decide (fromP n s p K < w) = true; unfold fromP; exact decide_eq_true a.hit), fun j j1 j2 => ?_⟩, ?_⟩
  · have := a.miss j (by omega) (by omega)
    show decide (fromP n s p j < w) = false; unfold fromP; exact decide_eq_false (by omega)
  · rw [landF_yes ht w1 w2 p0 p1]; exact l.symm

theorem up_first {n s w : Int} (ht : tok n s = true) (w1 : 2 ≤ w) (w2 : w ≤ n) :
    ∃ K : Nat, aupF n s w = K ∧ IsFirst (fun x => decide (x < w)) n s 0 K := by
  obtain ⟨K, a, b, _⟩ := ret_first ht (by omega : 1 ≤ w) w2 (Int.le_refl 0) (by omega)
  rw [retF_yes ht (by omega) w2 (Int.le_refl 0) (by omega)] at a
  exact ⟨K, by rw [aupF_yes ht w1 w2]; exact a, b⟩

theorem down_lt {n s w : Int} (ht : tok n s = true) (w1 : 2 ≤ w) (w2 : w ≤ n) : 1 ≤ adownF n s w ∧ adownF n s w < n := by
  have hb := tok_bd ht
  have hk : tok n (n - s) = true := by rw [tok_back]; exact ht
  have a := (ret_is hk (by omega : 1 ≤ w) w2 (Int.le_refl 0) (by omega)).1
  rw [adownF_yes ht w1 w2]
  refine ⟨a.pos, ?_⟩
  rw [ret_zero (tok_inv hk) w1 w2]; exact pt_hi _ _ (by omega)

theorem up_lt {n s w : Int} (ht : tok n s = true) (w1 : 2 ≤ w) (w2 : w ≤ n) : 1 ≤ aupF n s w ∧ aupF n s w < n := by
  have hb := tok_bd ht
  have a := (ret_is ht (by omega : 1 ≤ w) w2 (Int.le_refl 0) (by omega)).1
  rw [aupF_yes ht w1 w2]
  refine ⟨a.pos, ?_⟩
  rw [ret_zero (tok_inv ht) w1 w2]; exact pt_hi _ _ (by omega)

theorem down_first {n s w : Int} (ht : tok n s = true) (w1 : 2 ≤ w) (w2 : w ≤ n) :
    ∃ K : Nat, adownF n s w = K ∧ IsFirst (fun x => decide (n - w < x)) n s 0 K := by
  have hbd := down_lt ht w1 w2
  have hk : tok n (n - s) = true := by rw [tok_back]; exact ht
  obtain ⟨K, hK⟩ := Int.eq_ofNat_of_zero_le (by omega : 0 ≤ adownF n s w)
  have e := adownF_yes ht w1 w2
  have a := (ret_is hk (by omega : 1 ≤ w) w2 (Int.le_refl 0) (by omega)).1
  rw [← e, hK] at a
  have key : ∀ j : Int, 1 ≤ j → j < n → (0 + j * (n - s)) % n = n - (0 + j * s) % n := fun j j1 j2 => by
    rw [Int.zero_add, Int.zero_add]; exact pt_back ht j1 j2
  refine ⟨K, hK, ⟨by omega, by omega, ?_, fun j j1 j2 => ?_⟩⟩
  · have := a.hit
    rw [key _ (by omega) (by omega)] at this
    show decide (n - w < fromP n s 0 K) = true; unfold fromP; exact decide_eq_true (by omega)
  · have := a.miss j (by omega) (by omega)
    rw [key _ (by omega) (by omega)] at this
    show decide (n - w < fromP n s 0 j) = false; unfold fromP; exact decide_eq_false (by omega)
end Go.Proofs.Ytppahekbgbbidac
