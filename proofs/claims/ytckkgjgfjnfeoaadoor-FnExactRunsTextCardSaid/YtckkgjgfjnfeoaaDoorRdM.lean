/- A machine that reads a text of runs sign by sign: what it takes, and what it answers. -/
import Derived.Test.YtckkgjgfjnfeoaaDoorReadF
set_option linter.unusedVariables false
namespace Go.Proofs.YtckkgjgfjnfeoaaDoor
set_option maxRecDepth 4000

set_option maxRecDepth 4000

/-- the moves of all runs but the last one; its letter, and how many so far; and whether a letter was read just now -/
structure RS where
  before : List Bool
  lt : UInt8
  many : Nat
  beh : Bool

def RS.first : RS := ⟨[], 0, 0, false⟩

def RS.word (r : RS) : List Bool := r.before ++ List.replicate r.many (r.lt == 82)

def RS.digit (r : RS) (c : UInt8) : Option RS :=
  if isDig c = true then (if r.before.length + (10 * r.many + (c.toNat - 48)) ≤ 58 then some ⟨r.before, r.lt, 10 * r.many + (c.toNat - 48), false⟩ else none) else none

def RS.begin (r : RS) (c : UInt8) : Option RS := if c = r.lt then none else some ⟨r.word, c, 0, true⟩

def RS.take (r : RS) (c : UInt8) : Option RS :=
  if r.beh = true then (if c = 48 then none else r.digit c)
  else if c = 76 ∨ c = 82 then r.begin c
  else if 0 < r.many then r.digit c else none

def runR (r : RS) : List UInt8 → Option RS
  | [] => some r
  | c :: l => match r.take c with
    | none => none
    | some q => runR q l

theorem runR_app (l k : List UInt8) : ∀ r, runR r (l ++ k) = match runR r l with | none => none | some q => runR q k := by
  induction l with
  | nil => intro r; rfl
  | cons c l ih =>
    intro r
    show (match r.take c with | none => none | some q => runR q (l ++ k)) = _
    simp only [runR]
    cases r.take c with
    | none => rfl
    | some q => exact ih q

theorem runR_snoc (l : List UInt8) (c : UInt8) (r q : RS) (h : runR r l = some q) : runR r (l ++ [c]) = q.take c := by
  rw [runR_app, h]
  show (match q.take c with | none => none | some q => some q) = _
  cases q.take c <;> rfl

theorem runR_none (l k : List UInt8) (r : RS) (h : runR r l = none) : runR r (l ++ k) = none := by rw [runR_app, h]

/-! ### all texts of runs are taken -/

theorem digB_is {k : Nat} (h : k < 10) : isDig (digB k) = true ∧ (digB k).toNat - 48 = k := by
  refine ⟨isDig_digB h, ?_⟩
  rw [digB_nat h]; omega

theorem digB_not {k : Nat} (h : k < 10) : ¬ (digB k = 76 ∨ digB k = 82) := by
  rintro (e | e) <;> (have := congrArg UInt8.toNat e; rw [digB_nat h] at this; simp at this; omega)

theorem digB_zero {k : Nat} (h : k < 10) (h1 : 1 ≤ k) : digB k ≠ 48 := by
  intro e; have := congrArg UInt8.toNat e; rw [digB_nat h] at this; simp at this; omega

theorem run_digits (b : List Bool) (y : UInt8) (c : Nat) (h1 : 1 ≤ c) (h : b.length + c ≤ 58) : runR ⟨b, y, 0, true⟩ (decN c) = some ⟨b, y, c, false⟩ := by
  by_cases hc : c < 10
  · rw [decN_small hc]
    have hd := digB_is hc
    simp only [runR, RS.take, if_neg (digB_zero hc h1), RS.digit, hd.1, if_true, hd.2]
    rw [if_pos (by omega)]
    simp
  · have ha : c / 10 < 10 := by omega
    have hb : c % 10 < 10 := by omega
    rw [decN_big hc (by omega), decN_small ha]
    have hda := digB_is ha
    have hdb := digB_is hb
    rw [List.singleton_append]
    simp only [runR, RS.take, if_neg (digB_zero ha (by omega)), RS.digit, hda.1, if_true, hda.2]
    rw [if_pos (by omega)]
    simp only [Bool.false_eq_true, if_false, if_neg (digB_not hb), if_pos (show 0 < 10 * 0 + c / 10 by omega), hdb.1, if_true, hdb.2]
    rw [if_pos (by omega)]
    have e : 10 * (10 * 0 + c / 10) + c % 10 = c := by omega
    simp only [e]

theorem span_run (x : Bool) : ∀ u : List Bool, ∃ c v, x :: u = List.replicate (c + 1) x ++ v ∧ (v = [] ∨ v.head? = some (!x)) := by
  intro u
  induction u with
  | nil => exact ⟨0, [], rfl, .inl rfl⟩
  | cons y u ih =>
    by_cases e : y = x
    · subst e
      obtain ⟨c, v, h, hv⟩ := ih
      refine ⟨c + 1, v, ?_, hv⟩
      rw [h]; rfl
    · refine ⟨0, y :: u, rfl, .inr ?_⟩
      cases x <;> cases y <;> simp_all

theorem byteM_eq (b : Bool) : (byteM b == 82) = b := by cases b <;> rfl

theorem byteM_lt (b : Bool) : byteM b = 76 ∨ byteM b = 82 := by cases b <;> simp [byteM]

theorem byteM_ne (b : Bool) : byteM b ≠ 0 ∧ byteM b ≠ byteM (!b) := by cases b <;> decide

/-- behind a number, or at first, the runs of a word that begins with another letter are taken -/
theorem run_word : ∀ (f : Nat) (u : List Bool), u.length ≤ f → ∀ r : RS, r.beh = false → (∀ x, u.head? = some x → byteM x ≠ r.lt) → r.word.length + u.length ≤ 58 →
    ∃ q, runR r (runsB (runsM u)) = some q ∧ q.word = r.word ++ u ∧ q.beh = false := by
  intro f
  induction f with
  | zero =>
    intro u hu r hr _ _
    obtain rfl : u = [] := List.length_eq_zero_iff.1 (by omega)
    exact ⟨r, rfl, by simp, hr⟩
  | succ f ih =>
    intro u hu r hr hx hl
    cases u with
    | nil => exact ⟨r, rfl, by simp, hr⟩
    | cons x u' =>
      obtain ⟨c, v, he, hv⟩ := span_run x u'
      rw [he, runsM_run x v hv c, runsB_cons]
      have hlen : (x :: u').length = (c + 1) + v.length := by rw [he, List.length_append, List.length_replicate]
      have h0 := hx x rfl
      have hstep : runR r (runB (x, c + 1)) = some ⟨r.word, byteM x, c + 1, false⟩ := by
        show (match r.take (byteM x) with | none => none | some q => runR q (decN (c + 1))) = _
        have ht : r.take (byteM x) = some ⟨r.word, byteM x, 0, true⟩ := by
          unfold RS.take
          rw [hr, if_neg (by simp), if_pos (byteM_lt x)]
          unfold RS.begin
          rw [if_neg h0]
        rw [ht]
        exact run_digits r.word (byteM x) (c + 1) (by omega) (by omega)
      obtain ⟨q, h1, h2, h3⟩ := ih v (by omega) ⟨r.word, byteM x, c + 1, false⟩ rfl (by
        intro y hy
        rcases hv with rfl | hv
        · cases hy
        · rw [hv] at hy
          obtain rfl := Option.some.inj hy
          exact fun e => (byteM_ne x).2 e.symm) (by
        show (r.word ++ List.replicate (c + 1) (byteM x == 82)).length + v.length ≤ 58
        rw [List.length_append, List.length_replicate]; omega)
      refine ⟨q, ?_, ?_, h3⟩
      · rw [runR_app, hstep]; exact h1
      · rw [h2]
        show (r.word ++ List.replicate (c + 1) (byteM x == 82)) ++ v = _
        rw [byteM_eq, List.append_assoc]

theorem run_all {u : List Bool} (hu : u.length ≤ 58) : ∃ q, runR .first (runsB (runsM u)) = some q ∧ q.word = u ∧ q.beh = false := by
  obtain ⟨q, h1, h2, h3⟩ := run_word _ u (Nat.le_refl _) .first rfl (fun x _ => (byteM_ne x).1) (by show 0 + u.length ≤ 58; omega)
  exact ⟨q, h1, by rw [h2]; rfl, h3⟩

/-! ### what is taken is a text of runs -/
structure RSound (l : List UInt8) (q : RS) (rs : List (Bool × Nat)) (x : Bool) (ds : List UInt8) : Prop where
  hl : l = runsB rs ++ (byteM x :: ds)
  hb : q.before = expR rs
  hx : q.lt = byteM x
  hbeh : q.beh = true → ds = [] ∧ q.many = 0
  hnum : q.beh = false → ds = decN q.many ∧ 1 ≤ q.many
  hlen : q.before.length + q.many ≤ 58
  halt : ∀ m v, (v = [] ∨ v.head? = some (!x)) → runsM (expR rs ++ (List.replicate (m + 1) x ++ v)) = rs ++ ((x, m + 1) :: runsM v)

theorem isDig_bd {c : UInt8} (h : isDig c = true) : 48 ≤ c.toNat ∧ c.toNat ≤ 57 := by
  unfold isDig at h
  simpa using h

theorem digit_sound {l : List UInt8} {q p : RS} {rs x ds} (h : RSound l q rs x ds) (c : UInt8) (hz : q.beh = true → c ≠ 48) (hp : q.digit c = some p) : RSound (l ++ [c]) p rs x (ds ++ [c]) := by
  unfold RS.digit at hp
  by_cases hd : isDig c = true
  · rw [if_pos hd] at hp
    by_cases hm : q.before.length + (10 * q.many + (c.toNat - 48)) ≤ 58
    · rw [if_pos hm] at hp
      obtain rfl := Option.some.inj hp
      obtain ⟨d, hdd⟩ : ∃ d, c.toNat - 48 = d := ⟨_, rfl⟩
      have hc := digB_of hd
      have hbd := isDig_bd hd
      rw [hdd] at hm hc ⊢
      have hd10 : d < 10 := by omega
      refine { hl := by rw [h.hl]; simp, hb := h.hb, hx := h.hx, hbeh := fun e => (by cases e), hnum := fun _ => ?_, hlen := hm, halt := h.halt }
      show ds ++ [c] = decN (10 * q.many + d) ∧ 1 ≤ 10 * q.many + d
      cases hbe : q.beh with
      | true =>
        obtain ⟨e1, e2⟩ := h.hbeh hbe
        have hd1 : 1 ≤ d := by
          by_cases z : d = 0
          · subst z; exact absurd hc.symm (hz hbe)
          · omega
        rw [e1, e2]
        simp only [Nat.mul_zero, Nat.zero_add, List.nil_append]
        exact ⟨by rw [decN_small hd10, hc], hd1⟩
      | false =>
        obtain ⟨e1, e2⟩ := h.hnum hbe
        refine ⟨?_, by omega⟩
        rw [decN_big (by omega) (by omega), show (10 * q.many + d) / 10 = q.many by omega, show (10 * q.many + d) % 10 = d by omega, hc, ← e1]
    · rw [if_neg hm] at hp; cases hp
  · rw [if_neg hd] at hp; cases hp

theorem run_sound (n : Nat) : ∀ (l : List UInt8) (q : RS), l.length = n → runR .first l = some q → (l = [] ∧ q = .first) ∨ ∃ rs x ds, RSound l q rs x ds := by
  induction n with
  | zero =>
    intro l q hl h
    obtain rfl : l = [] := List.length_eq_zero_iff.1 hl
    exact .inl ⟨rfl, (Option.some.inj h).symm⟩
  | succ n ih =>
    intro l q hl h
    obtain ⟨k, c, rfl⟩ := snoc_cases l (by intro e; subst e; cases hl)
    have hk : k.length = n := by rw [List.length_append] at hl; simp at hl; omega
    right
    cases hq : runR .first k with
    | none => rw [runR_none k [c] _ hq] at h; cases h
    | some r =>
      rw [runR_snoc k c _ r hq] at h
      rcases ih k r hk hq with ⟨rfl, rfl⟩ | ⟨rs, x, ds, hs⟩
      · -- the first sign
        unfold RS.take at h
        rw [if_neg (by show ¬ false = true; simp)] at h
        by_cases hc : c = 76 ∨ c = 82
        · rw [if_pos hc] at h
          unfold RS.begin at h
          by_cases e : c = (RS.first).lt
          · rw [if_pos e] at h; cases h
          · rw [if_neg e] at h
            obtain rfl := Option.some.inj h
            have hx : byteM (c == 82) = c := by rcases hc with rfl | rfl <;> rfl
            have halt : ∀ m v, (v = [] ∨ v.head? = some (!(c == 82))) → runsM (expR [] ++ (List.replicate (m + 1) (c == 82) ++ v)) = [] ++ (((c == 82), m + 1) :: runsM v) := by
              intro m v hv
              show runsM (List.replicate (m + 1) (c == 82) ++ v) = _
              rw [runsM_run _ v hv m]; rfl
            exact ⟨[], (c == 82), [], { hl := (by rw [hx]; rfl), hb := rfl, hx := hx.symm, hbeh := fun _ => ⟨rfl, rfl⟩, hnum := fun e => (by cases e), hlen := (by show 0 + 0 ≤ 58; omega), halt := halt }⟩
        · rw [if_neg hc, if_neg (by show ¬ 0 < 0; omega)] at h; cases h
      · unfold RS.take at h
        cases hbe : r.beh with
        | true =>
          rw [if_pos hbe] at h
          by_cases h48 : c = 48
          · rw [if_pos h48] at h; cases h
          · rw [if_neg h48] at h
            exact ⟨rs, x, ds ++ [c], digit_sound hs c (fun _ => h48) h⟩
        | false =>
          rw [if_neg (by rw [hbe]; simp)] at h
          by_cases hc : c = 76 ∨ c = 82
          · rw [if_pos hc] at h
            unfold RS.begin at h
            by_cases e : c = r.lt
            · rw [if_pos e] at h; cases h
            · rw [if_neg e] at h
              obtain rfl := Option.some.inj h
              obtain ⟨e1, e2⟩ := hs.hnum hbe
              have hx : byteM (!x) = c := by
                have e' : c ≠ byteM x := by rw [← hs.hx]; exact e
                cases x <;> rcases hc with rfl | rfl <;> first | rfl | exact absurd rfl e'
              obtain ⟨m, hm⟩ : ∃ m, r.many = m + 1 := ⟨r.many - 1, by omega⟩
              refine ⟨rs ++ [(x, r.many)], !x, [], { hl := ?_, hb := ?_, hx := hx.symm, hbeh := fun _ => ⟨rfl, rfl⟩, hnum := fun e => (by cases e), hlen := ?_, halt := fun m' v hv => ?_ }⟩
              · rw [hs.hl, runsB_snoc, hx, e1]
                show (runsB rs ++ (byteM x :: decN r.many)) ++ [c] = (runsB rs ++ (byteM x :: decN r.many)) ++ [c]
                rfl
              · show r.word = _
                unfold RS.word
                rw [expR_snoc, hs.hb, hs.hx, byteM_eq]
              · show (r.word).length + 0 ≤ 58
                unfold RS.word
                rw [List.length_append, List.length_replicate]
                exact hs.hlen
              · rw [expR_snoc, List.append_assoc, hm, hs.halt m _ (.inr (by rw [List.replicate_succ]; rfl)), runsM_run _ v hv m', List.append_assoc]
                rfl
          · rw [if_neg hc] at h
            by_cases h0 : 0 < r.many
            · rw [if_pos h0] at h
              exact ⟨rs, x, ds ++ [c], digit_sound hs c (fun e => by rw [hbe] at e; cases e) h⟩
            · rw [if_neg h0] at h; cases h

/-- bounds that hold all the time -/
theorem run_bd {l : List UInt8} {q : RS} (h : runR .first l = some q) : q.before.length + q.many ≤ 58 ∧ (q.lt = 0 ∨ q.lt = 76 ∨ q.lt = 82) ∧ (q.lt = 0 → q.many = 0) := by
  rcases run_sound _ l q rfl h with ⟨_, rfl⟩ | ⟨rs, x, ds, hs⟩
  · exact ⟨by show 0 + 0 ≤ 58; omega, .inl rfl, fun _ => rfl⟩
  · refine ⟨hs.hlen, .inr (by rw [hs.hx]; exact byteM_lt x), fun e => ?_⟩
    rw [hs.hx] at e
    exact absurd e (byteM_ne x).1

/-! ### the answer -/

theorem rd_dot : rrF (txtL [46]) = (⟨#[]⟩, true) := by
  have h := rrF_yes (u := []) (by show 0 ≤ 58; omega)
  have e : runsTxt [] = txtL [46] := if_pos rfl
  rw [e] at h
  rw [h]; rfl

theorem runsTxt_cons {u : List Bool} (h : u ≠ []) : runsTxt u = txtL (runsB (runsM u)) := if_neg h

theorem rd_no {l : List UInt8} (h46 : l ≠ [46]) (h : ∀ q, runR .first l = some q → l = [] ∨ q.beh = true) : rrF (txtL l) = (⟨#[]⟩, false) := by
  refine rrF_no fun u hu e => ?_
  by_cases h0 : u = []
  · subst h0
    exact h46 (txtL_inj (Eq.trans e.symm (if_pos rfl)))
  · rw [runsTxt_cons h0] at e
    obtain rfl := txtL_inj e
    obtain ⟨q, h1, _, h3⟩ := run_all hu
    rcases h q h1 with h4 | h4
    · cases u with
      | nil => exact h0 rfl
      | cons x r =>
        have := congrArg List.length h4
        rcases hr : runsM (x :: r) with _ | ⟨p, rs⟩
        · exact h0 ((runsM_nil_iff _).1 hr)
        · rw [hr, runsB_cons] at this
          simp [runB] at this
    · rw [h3] at h4; cases h4

theorem rd_fail {l : List UInt8} (h46 : l ≠ [46]) (k : Nat) (h : runR .first (l.take k) = none) : rrF (txtL l) = (⟨#[]⟩, false) := by
  refine rd_no h46 fun q hq => ?_
  rw [← List.take_append_drop k l, runR_none _ _ _ h] at hq
  cases hq

theorem rd_yes {l : List UInt8} {q : RS} (h : runR .first l = some q) (h0 : l ≠ []) (hb : q.beh = false) : rrF (txtL l) = (txtM q.word, true) := by
  rcases run_sound _ l q rfl h with ⟨e, _⟩ | ⟨rs, x, ds, hs⟩
  · exact absurd e h0
  · obtain ⟨e1, e2⟩ := hs.hnum hb
    obtain ⟨m, hm⟩ : ∃ m, q.many = m + 1 := ⟨q.many - 1, by omega⟩
    have hw : q.word = expR rs ++ (List.replicate (m + 1) x ++ []) := by
      unfold RS.word
      rw [hs.hb, hs.hx, byteM_eq, hm, List.append_nil]
    have hr := hs.halt m [] (.inl rfl)
    rw [← hw] at hr
    have hne : q.word ≠ [] := by rw [hw, List.replicate_succ]; simp
    have hlen : q.word.length ≤ 58 := by
      unfold RS.word
      rw [List.length_append, List.length_replicate]
      exact hs.hlen
    have ht : runsTxt q.word = txtL l := by
      rw [runsTxt_cons hne, hr, hs.hl, e1, hm]
      show txtL (runsB (rs ++ [(x, m + 1)])) = _
      rw [runsB_snoc]
      rfl
    rw [← ht, rrF_yes hlen]
end Go.Proofs.YtckkgjgfjnfeoaaDoor
