/- Plain reading of runs: one step, and the answer. -/
import Derived.Test.YtckkgjgfjnfeoaaGreatDoorGMov
import Derived.Test.YtckkgjgfjnfeoaaGreatDoorDigT
set_option linter.unusedVariables false
namespace Go.Proofs.YtckkgjgfjnfeoaaGreatDoor
set_option maxRecDepth 4000

set_option maxRecDepth 4000

open Classical in

/-- the moves whose text of runs a text is -/
noncomputable def rrF (t : ByteArray) : ByteArray × Bool := if h : ∃ u : List Bool, u.length ≤ 58 ∧ runsTxt u = t then (txtM h.choose, true) else (⟨#[]⟩, false)

theorem rrF_yes {u : List Bool} (h : u.length ≤ 58) : rrF (runsTxt u) = (txtM u, true) := by
  have e : ∃ v : List Bool, v.length ≤ 58 ∧ runsTxt v = runsTxt u := ⟨u, h, rfl⟩
  unfold rrF
  rw [dif_pos e, runsTxt_inj e.choose_spec.1 h e.choose_spec.2]

theorem rrF_no {t : ByteArray} (h : ∀ u : List Bool, u.length ≤ 58 → runsTxt u ≠ t) : rrF t = (⟨#[]⟩, false) := by
  unfold rrF
  rw [dif_neg (fun ⟨u, a, b⟩ => h u a b)]

theorem rrF_size (t : ByteArray) : (rrF t).1.size ≤ 58 := by
  by_cases e : ∃ u : List Bool, u.length ≤ 58 ∧ runsTxt u = t
  · obtain ⟨u, hu, rfl⟩ := e
    rw [rrF_yes hu, txtM_size]; exact hu
  · rw [rrF_no (fun u a b => e ⟨u, a, b⟩)]; exact Nat.zero_le _

/-- runs whose text is l -/
def Good (rs : List (Bool × Nat)) (l : List UInt8) : Prop := runsB rs = l ∧ (∀ r ∈ rs, 1 ≤ r.2) ∧ (expR rs).length ≤ 58

theorem good_of {u : List Bool} {l : List UInt8} (h : u.length ≤ 58) (he : runsTxt u = txtL l) (hd : l ≠ [46]) : Good (runsM u) l ∧ u ≠ [] := by
  have hu : u ≠ [] := by
    intro e
    rw [e] at he
    exact hd (txtL_inj (he.symm.trans rfl))
  refine ⟨⟨?_, runsM_pos u, by rw [expR_runs]; exact h⟩, hu⟩
  unfold runsTxt at he
  rw [if_neg hu] at he
  exact txtL_inj he

/-- so far read -/
def ReadTo (l : List UInt8) (k : Nat) (A : ByteArray) : Prop := ∀ rs, Good rs l → ∃ d r, rs = d ++ r ∧ k = (runsB d).length ∧ A = txtM (expR d)

theorem ReadTo.first (l : List UInt8) : ReadTo l 0 ⟨#[]⟩ := fun rs _ => ⟨[], rs, rfl, rfl, rfl⟩

theorem take_span (l : List UInt8) (n : Nat) (h1 : ∀ i, i < n → isDig (l.getD i 0) = true) (h2 : l.length = n ∨ (n < l.length ∧ isDig (l.getD n 0) = false)) : l.take n = l.takeWhile isDig := by
  induction l generalizing n with
  | nil => simp
  | cons x l ih =>
    cases n with
    | zero =>
      rcases h2 with h2 | h2
      · simp at h2
      · have : isDig x = false := h2.2
        rw [List.takeWhile_cons, this]; rfl
    | succ n =>
      have hx : isDig x = true := h1 0 (by omega)
      rw [List.takeWhile_cons, hx, List.take_succ_cons]
      show x :: l.take n = x :: l.takeWhile isDig
      rw [ih n (fun i hi => h1 (i + 1) (by omega)) (by
        rcases h2 with h2 | ⟨h2, h3⟩
        · left; simp at h2; exact h2
        · right; exact ⟨by simp at h2; exact h2, h3⟩)]

theorem read_step {l : List UInt8} {k e : Nat} {A : ByteArray} (h : ReadTo l k A) (hk : k < l.length) (he : k + 1 ≤ e) (hel : e ≤ l.length) (hd : ∀ i, k + 1 ≤ i → i < e → isDig (l.getD i 0) = true)
    (hx : e = l.length ∨ isDig (l.getD e 0) = false) {rs : List (Bool × Nat)} (g : Good rs l) :
    ∃ d x c r, rs = d ++ (x, c) :: r ∧ A = txtM (expR d) ∧ l.getD k 0 = byteM x ∧ (l.drop (k + 1)).take (e - (k + 1)) = decN c ∧ e = (runsB (d ++ [(x, c)])).length ∧ 1 ≤ c ∧ (expR d).length + c ≤ 58 := by
  obtain ⟨d, r, rfl, rfl, rfl⟩ := h rs g
  obtain ⟨g1, g2, g3⟩ := g
  rw [runsB_app] at g1
  cases r with
  | nil =>
    rw [show runsB [] = [] from rfl, List.append_nil] at g1
    rw [g1] at hk
    omega
  | cons p r =>
    obtain ⟨x, c⟩ := p
    have hc := g2 (x, c) (by simp)
    have hc' : 1 ≤ c := hc
    have g3' : (expR d).length + c ≤ 58 := by
      rw [show expR (d ++ (x, c) :: r) = expR d ++ (List.replicate c x ++ expR r) by unfold expR; simp, List.length_append, List.length_append, List.length_replicate] at g3
      omega
    have g1' : (runsB d ++ [byteM x]) ++ (decN c ++ runsB r) = l := by rw [← g1, runsB_cons]; unfold runB; simp
    have hdrop : l.drop ((runsB d).length + 1) = decN c ++ runsB r := by
      rw [← g1']
      exact List.drop_left' (by simp)
    have hget : l.getD (runsB d).length 0 = byteM x := by
      rw [← g1', List.append_assoc, List.getD_eq_getElem?_getD, List.getElem?_append_right (Nat.le_refl _), Nat.sub_self]; rfl
    have hsp := span_dig (decN c) (runsB r) (decN_val (by omega)).2 (runsB_begin r)
    have ht : (l.drop ((runsB d).length + 1)).take (e - ((runsB d).length + 1)) = decN c := by
      rw [take_span (l.drop ((runsB d).length + 1)) (e - ((runsB d).length + 1)) (fun i hi => by
        have := hd ((runsB d).length + 1 + i) (by omega) (by omega)
        rw [List.getD_eq_getElem?_getD, List.getElem?_drop, ← List.getD_eq_getElem?_getD]; exact this) (by
        rw [List.length_drop]
        rcases hx with hx | hx
        · left; omega
        · by_cases q : e = l.length
          · left; omega
          · right
            refine ⟨by omega, ?_⟩
            rw [List.getD_eq_getElem?_getD, List.getElem?_drop, show (runsB d).length + 1 + (e - ((runsB d).length + 1)) = e by omega, ← List.getD_eq_getElem?_getD]; exact hx)]
      rw [hdrop]; exact hsp.1
    refine ⟨d, x, c, r, rfl, rfl, hget, ht, ?_, hc', g3'⟩
    have hl := congrArg List.length ht
    rw [List.length_take, List.length_drop] at hl
    rw [runsB_snoc, List.length_append]
    show e = (runsB d).length + ((decN c).length + 1)
    omega

/-- the number that is read -/
theorem dg_dec {c : Nat} (h : c ≤ 58) : dgF (decN c) = (c : Int) := by
  rw [dgF_yes (decN_can (by omega)) (Nat.le_trans (decN_len 1 (by omega) (by omega)) (by omega)), (decN_val (n := c) (by omega)).1]

theorem dg_bd (l : List UInt8) : -1 ≤ dgF l ∧ dgF l ≤ 1000000 := by
  unfold dgF
  split
  · rename_i h
    obtain ⟨h1, h2⟩ := h
    have := (can_dec l.length l rfl (by omega) h1).2.1
    have : 10 ^ l.length ≤ 10 ^ 6 := Nat.pow_le_pow_right (by omega) h2
    omega
  · omega

/-- so many letters more -/
theorem read_more {l : List UInt8} {k e : Nat} {A : ByteArray} (h : ReadTo l k A) (hk : k < l.length) (he : k + 1 ≤ e) (hel : e ≤ l.length) (hd : ∀ i, k + 1 ≤ i → i < e → isDig (l.getD i 0) = true)
    (hx : e = l.length ∨ isDig (l.getD e 0) = false) {c : Nat} (hc : dgF ((l.drop (k + 1)).take (e - (k + 1))) = c) : ReadTo l e (A ++ txtL (List.replicate c (l.getD k 0))) := by
  intro rs g
  obtain ⟨d, x, c', r, h1, h2, h3, h4, h5, h6, h7⟩ := read_step h hk he hel hd hx g
  rw [h4, dg_dec (by omega)] at hc
  obtain rfl : c' = c := by omega
  refine ⟨d ++ [(x, c')], r, by rw [h1, List.append_assoc]; rfl, h5, ?_⟩
  rw [h2, h3, expR_snoc, ← txtM_append]
  congr 1
  unfold txtM
  rw [List.map_replicate]

theorem read_fail {l : List UInt8} {k e : Nat} {A : ByteArray} (h : ReadTo l k A) (hk : k < l.length) (he : k + 1 ≤ e) (hel : e ≤ l.length) (hd : ∀ i, k + 1 ≤ i → i < e → isDig (l.getD i 0) = true)
    (hx : e = l.length ∨ isDig (l.getD e 0) = false) (h46 : l ≠ [46]) (hc : dgF ((l.drop (k + 1)).take (e - (k + 1))) < 1 ∨ 58 < (A.size : Int) + dgF ((l.drop (k + 1)).take (e - (k + 1)))) : rrF (txtL l) = (⟨#[]⟩, false) := by
  refine rrF_no fun u hu e1 => ?_
  obtain ⟨d, x, c', r, h1, h2, h3, h4, h5, h6, h7⟩ := read_step h hk he hel hd hx (good_of hu e1 h46).1
  rw [h4, dg_dec (by omega), h2, txtM_size] at hc
  omega

theorem read_end {l : List UInt8} {A : ByteArray} (h : ReadTo l l.length A) (h0 : 0 < l.length) (h46 : l ≠ [46]) :
    (rtF A = txtL l → rrF (txtL l) = (A, true)) ∧ (rtF A ≠ txtL l → rrF (txtL l) = (⟨#[]⟩, false)) := by
  constructor
  · intro e
    rcases mvOk_cases A with ⟨v, hv, rfl, hok⟩ | ⟨hno, hok⟩
    · rw [show rtF (txtM v) = runsTxt v from onM_yes hv] at e
      rw [← e, rrF_yes hv]
    · rw [show rtF A = ⟨#[]⟩ from onM_no hno] at e
      have := congrArg ByteArray.size e
      rw [txtL_size] at this
      have z : (⟨#[]⟩ : ByteArray).size = 0 := rfl
      omega
  · intro ne
    refine rrF_no fun u hu e1 => ?_
    obtain ⟨g, hu0⟩ := good_of hu e1 h46
    obtain ⟨d, r, h1, h2, h3⟩ := h _ g
    have g1 := g.1
    rw [h1, runsB_app] at g1
    have hl := congrArg List.length g1
    rw [List.length_append] at hl
    have hr : r = [] := by
      cases r with
      | nil => rfl
      | cons q r => rw [runsB_cons] at hl; unfold runB at hl; simp at hl; omega
    rw [hr, List.append_nil] at h1
    rw [← h1, expR_runs] at h3
    apply ne
    rw [h3, show rtF (txtM u) = runsTxt u from onM_yes hu, e1]
end Go.Proofs.YtckkgjgfjnfeoaaGreatDoor
