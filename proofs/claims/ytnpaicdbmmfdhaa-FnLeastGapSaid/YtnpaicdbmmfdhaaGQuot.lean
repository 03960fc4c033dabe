/- Contracts of QuotientsOf and NearTimes, of the program and of the model. Contracts of QuotientsOf and NearTimes, of the program and of the model. Contracts of NearTimes, of the program and of the model. -/
import Derived.Test.YtnpaicdbmmfdhaaGList
import Derived.Test.YtnpaicdbmmfdhaaFrom
import Derived.Test.YtnpaicdbmmfdhaaGApp
set_option linter.unusedVariables false
namespace Go.Proofs.Ytnpaicdbmmfdhaa

set_option maxRecDepth 4000
open Go.ChangeShapes Go.WideShapes Go.ChangeAt Go.RowKit Go.Joins

def quotF (n s : Int) : List Int := if tok n s = true then castL (quotsN n.toNat s.toNat) else []

theorem quotF_yes {n s : Nat} (h : tokN n s = true) : quotF n s = castL (quotsN n s) := by
  unfold quotF; rw [if_pos (tok_of_tokN h)]; rfl

theorem quotF_no {n s : Int} (h : ¬ tok n s = true) : quotF n s = [] := if_neg h

theorem quots_len {n s : Nat} (h : tokN n s = true) : (quotsN n s).length ≤ 8 := by
  have := all_turns chkQuots_all h
  unfold chkQuots at this
  simp only [Bool.and_eq_true, Nat.ble_eq] at this
  exact this.2.2.2.2.2

theorem quots_le {n s : Nat} (h : tokN n s = true) : ∀ x ∈ quotsN n s, 1 ≤ x ∧ x ≤ 60 := by
  have := all_turns chkQuots_all h
  unfold chkQuots at this
  simp only [Bool.and_eq_true, List.all_eq_true, Nat.ble_eq] at this
  exact this.1

theorem quotF_len (n s : Int) : (quotF n s).length ≤ 8 := by
  by_cases h : tok n s = true
  · obtain ⟨N, S, rfl, rfl, hN⟩ := tokN_of h
    rw [quotF_yes hN, castL_len]
    exact quots_len hN
  · rw [quotF_no h]; simp

set_option maxHeartbeats 2000000 in
theorem specQuotientsOf_any (n s : Int) (w : World) :
    Calls Try.prog 77 #[(.agg #[.int .i64 (n), .int .i64 (s)])] w (ListPost (quotF n s) w) := by
  
  have hnil := made_nil (w.alloc (.cells #[.int .i64 n, .int .i64 s] 24))
  rw [World.size_alloc] at hnil
  by_cases ht : tok n s = true
  · obtain ⟨N, S, rfl, rfl, hN⟩ := tokN_of ht
    obtain ⟨b1, b2, b3, b4, _⟩ := tokN_bd hN
    
    rw [quotF_yes hN]
    have HQ : Hid (quotsF N N S = quotsN N S) := by show _ = _; rfl
    have HL8 := Lib.hid (quots_len hN)
    generalize quotsN N S = Q at *
    have hN0 : N ≤ 60 := b2
    go_enter Try.func77, Try.ntmps77
    go_wp2_with fail
    refine (specTurnOk_any _ _ _).mono ?_; rintro e w1 ⟨rfl, hb1⟩
    have hz1 := hb1.size
    try simp at hz1
    have t1 : Two w1 (w.heap.size) (.int .i64 N) (.int .i64 S) 24 := Two.below (by repeat (first | assumption | exact Two.new' _ _ _ _ _ (by simp) | refine Two.alloc ?_ _ | refine Two.drewN ?_ _)) hb1 (by first | omega | (simp <;> omega))
    have hlt1 : (w.heap.size) < w1.heap.size := t1.lt
    have hnt1 : ¬ (w.heap.size) = w1.heap.size := Nat.ne_of_lt hlt1
    have t1c := t1.cell0
    have t1d := t1.cell1
    rw [ht]
    have hn1 := hnil.below hb1
    have hB1 : Below w.heap.size w w1 := (by repeat (first | exact Below.refl _ _ | assumption | (refine Below.trans ?_ (Below.mono (by assumption) (by first | omega | (simp <;> omega)))) | (refine Below.alloc ?_ (by first | omega | (simp <;> omega)) _) | (refine below_drewN ?_ _) | (refine Below.drew ?_) | (refine Below.setCell ?_ (by first | omega | (simp <;> omega)) _)))
    clear ht hN hnil hb1
    go_wp2_with fail
    go_loopw [3, 4, 5] (fun o xa xb wr => ∃ (f a b : Nat) (D : List Nat) (v0 : Value), xa = .int .i64 a ∧ v0 = o ∧ xb = .int .i64 b ∧ a ≤ 60 ∧ b ≤ 60 ∧ b < f ∧ w.heap.size + 1 < wr.heap.size ∧ Hid (D ++ quotsF f a b = Q) ∧ OwnL wr (w.heap.size + 1) v0 (castL D) ∧ Below w.heap.size w wr) (fun _ _ xb _ => (intOf xb).toNat)
    case atStart => exact ⟨N, N, S, [], _, rfl, rfl, rfl, by omega, by omega, by omega, by omega, by show _ = _; rw [List.nil_append]; exact HQ.out, hn1, hB1⟩
    case round =>
      obtain ⟨f, a, b, D, v0, rfl, rfl, rfl, ha, hb, hbf, hsz, HD, ho, hB⟩ := hrel
      clear hn1 hB1
      by_cases h0 : b = 0
      · subst h0
        have hE : D = Q := by have := HD.out; rw [quotsF_zero, List.append_nil] at this; exact this
        subst hE
        have ho' : OwnL wr w.heap.size v0 (castL D) := OwnL.mono (b := w.heap.size + 1) ho (by omega)
        clear ho HD
        go_wp2
        go_ret
        exact ⟨_, rfl, ho', hB⟩
      · have hpos : (0 : Int) < b := by omega
        have hne : ¬ (b : Int) = 0 := by omega
        obtain ⟨f, rfl⟩ : ∃ g, f = g + 1 := ⟨f - 1, by omega⟩
        have HD2 : Hid ((D ++ [a / b]) ++ quotsF f b (a % b) = Q) := by
          show _ = _
          have := HD.out
          rw [quotsF_pos (by omega)] at this
          rw [List.append_assoc]
          exact this
        have hlen : D.length ≤ 8 := by
          have h1 := HL8.out
          rw [← HD.out, List.length_append] at h1
          omega
        have HL : Hid ((castL D).length = D.length) := castL_len D
        have hlt := Nat.mod_lt a (show 0 < b by omega)
        have hdl : a / b ≤ 60 := Nat.le_trans (Nat.div_le_self a b) ha
        have eq1 : (a : Int) / (b : Int) = ((a / b : Nat) : Int) := by simp
        have eq2 : (a : Int) % (b : Int) = ((a % b : Nat) : Int) := by simp
        have eq3 : (a : Int).tdiv (b : Int) = ((a / b : Nat) : Int) := by rw [Int.tdiv_eq_ediv_of_nonneg (by omega)]; simp
        have eq4 : (a : Int).tmod (b : Int) = ((a % b : Nat) : Int) := by rw [Int.tmod_eq_emod_of_nonneg (by omega)]; simp
        generalize a / b = X at *
        generalize a % b = Y at *
        have hz1 : w.heap.size + 1 ≤ wr.heap.size := by omega
        go_wp2_with (at_builtin; refine append_int rfl _ _ rfl (w.heap.size + 1) v0 (castL D) D.length HL (by omega) rfl ho hz1 rfl ?_)
        intro v5 w5 ho5 hn5 hb5
        have hB5 := hB.trans (hb5.mono (by omega))
        have hz5 := hb5.size
        rw [← castL_snoc] at ho5
        clear ho hB hb5
        go_wp2_with fail
        go_roundw
        case rel => exact ⟨f, b, Y, D ++ [X], v5, rfl, rfl, rfl, by omega, by omega, by omega, by omega, HD2.out, ho5, hB5⟩
        case measure => simp only [intOf]; omega
  · 
    rw [quotF_no ht]
    have ht' : tok n s = false := by simpa using ht
    go_enter Try.func77, Try.ntmps77
    go_wp2_with fail
    refine (specTurnOk_any _ _ _).mono ?_; rintro e w1 ⟨rfl, hb1⟩
    have hz1 := hb1.size
    try simp at hz1
    have t1 : Two w1 (w.heap.size) (.int .i64 n) (.int .i64 s) 24 := Two.below (by repeat (first | assumption | exact Two.new' _ _ _ _ _ (by simp) | refine Two.alloc ?_ _ | refine Two.drewN ?_ _)) hb1 (by first | omega | (simp <;> omega))
    have hlt1 : (w.heap.size) < w1.heap.size := t1.lt
    have hnt1 : ¬ (w.heap.size) = w1.heap.size := Nat.ne_of_lt hlt1
    have t1c := t1.cell0
    have t1d := t1.cell1
    rw [ht']
    have hn1 := hnil.below hb1
    go_wp2
    go_ret
    exact ⟨_, rfl, hn1.mono (b' := w.heap.size) (by omega), (by repeat (first | exact Below.refl _ _ | assumption | (refine Below.trans ?_ (Below.mono (by assumption) (by first | omega | (simp <;> omega)))) | (refine Below.alloc ?_ (by first | omega | (simp <;> omega)) _) | (refine below_drewN ?_ _) | (refine Below.drew ?_) | (refine Below.setCell ?_ (by first | omega | (simp <;> omega)) _)))⟩
end Go.Proofs.Ytnpaicdbmmfdhaa

set_option linter.unusedVariables false
namespace Go.Proofs.Ytnpaicdbmmfdhaa

set_option maxRecDepth 4000
open Go.ChangeShapes Go.WideShapes Go.ChangeAt Go.RowKit Go.Joins

set_option maxHeartbeats 2000000 in
theorem quotientsOf_any (n s : Int) (w : World) :
    Calls Try.prog 65 #[(.agg #[.int .i64 (n), .int .i64 (s)])] w (ListPost (quotF n s) w) := by
  by_cases ht : tok n s = true
  · obtain ⟨N, S, rfl, rfl, hN⟩ := tokN_of ht
    obtain ⟨b1, b2, b3, b4, _⟩ := tokN_bd hN
    
    rw [quotF_yes hN]
    have HQ : Hid (quotsF N N S = quotsN N S) := by show _ = _; rfl
    have HL8 := Lib.hid (quots_len hN)
    generalize quotsN N S = Q at *
    have hN0 : N ≤ 60 := b2
    go_enter Try.func65, Try.ntmps65
    go_wp2_with fail
    refine (turnOk_any _ _ _).mono ?_; rintro e w1 ⟨rfl, hb1⟩
    have hz1 := hb1.size
    try simp at hz1
    have t1 : Two w1 (w.heap.size) (.int .i64 N) (.int .i64 S) 24 := Two.below (by repeat (first | assumption | exact Two.new' _ _ _ _ _ (by simp) | refine Two.alloc ?_ _ | refine Two.drewN ?_ _)) hb1 (by first | omega | (simp <;> omega))
    have hlt1 : (w.heap.size) < w1.heap.size := t1.lt
    have hnt1 : ¬ (w.heap.size) = w1.heap.size := Nat.ne_of_lt hlt1
    have t1c := t1.cell0
    have t1d := t1.cell1
    rw [ht]
    have hB1 : Below w.heap.size w w1 := (by repeat (first | exact Below.refl _ _ | assumption | (refine Below.trans ?_ (Below.mono (by assumption) (by first | omega | (simp <;> omega)))) | (refine Below.alloc ?_ (by first | omega | (simp <;> omega)) _) | (refine below_drewN ?_ _) | (refine Below.drew ?_) | (refine Below.setCell ?_ (by first | omega | (simp <;> omega)) _)))
    clear ht hN hb1
    go_wp2_with fail
    go_quiet (fail)
    have hBq := below_drewN hB1 nq
    have hq : w.heap.size < (w1.drewN nq).heap.size := by simpa using hlt1
    generalize w1.drewN nq = wq at *
    clear hB1 t1 t1c t1d
    go_wp2_with fail
    go_loopw [3, 4, 5] (fun o xa xb wr => ∃ (f a b : Nat) (D : List Nat) (v0 : Value), xa = .int .i64 a ∧ v0 = o ∧ xb = .int .i64 b ∧ a ≤ 60 ∧ b ≤ 60 ∧ b < f ∧ w.heap.size < wr.heap.size ∧ Hid (D ++ quotsF f a b = Q) ∧ OwnL wr w.heap.size v0 (castL D) ∧ Below w.heap.size w wr) (fun _ _ xb _ => (intOf xb).toNat)
    case atStart => exact ⟨N, N, S, [], _, rfl, rfl, rfl, by omega, by omega, by omega, by omega, by show _ = _; rw [List.nil_append]; exact HQ.out, World.ownsRow_nil _ _ _ _, hBq⟩
    case round =>
      obtain ⟨f, a, b, D, v0, rfl, rfl, rfl, ha, hb, hbf, hsz, HD, ho, hB⟩ := hrel
      by_cases h0 : b = 0
      · subst h0
        have hE : D = Q := by have := HD.out; rw [quotsF_zero, List.append_nil] at this; exact this
        subst hE
        clear HD
        go_wp2
        go_ret
        exact ⟨_, rfl, ho, hB⟩
      · have hpos : (0 : Int) < b := by omega
        have hne : ¬ (b : Int) = 0 := by omega
        have hbne : ((b : Int) != 0) = true := by simp; omega
        obtain ⟨f, rfl⟩ : ∃ g, f = g + 1 := ⟨f - 1, by omega⟩
        have HD2 : Hid ((D ++ [a / b]) ++ quotsF f b (a % b) = Q) := by
          show _ = _
          have := HD.out
          rw [quotsF_pos (by omega)] at this
          rw [List.append_assoc]
          exact this
        have hlen : D.length ≤ 8 := by
          have h1 := HL8.out
          rw [← HD.out, List.length_append] at h1
          omega
        have HL : Hid ((castL D).length = D.length) := castL_len D
        have hlt := Nat.mod_lt a (show 0 < b by omega)
        have hdl : a / b ≤ 60 := Nat.le_trans (Nat.div_le_self a b) ha
        have eq1 : (a : Int) / (b : Int) = ((a / b : Nat) : Int) := by simp
        have eq2 : (a : Int) % (b : Int) = ((a % b : Nat) : Int) := by simp
        have eq3 : (a : Int).tdiv (b : Int) = ((a / b : Nat) : Int) := by rw [Int.tdiv_eq_ediv_of_nonneg (by omega)]; simp
        have eq4 : (a : Int).tmod (b : Int) = ((a % b : Nat) : Int) := by rw [Int.tmod_eq_emod_of_nonneg (by omega)]; simp
        generalize a / b = X at *
        generalize a % b = Y at *
        have hw1 : IntKind.i64.wrap (Y : Int) = Y := IntWalk.i64_in _ (by omega)
        have hz1 : w.heap.size ≤ wr.heap.size := by omega
        go_wp2_with (at_builtin; refine append_int rfl _ _ rfl w.heap.size v0 (castL D) D.length HL (by omega) rfl ho hz1 rfl ?_)
        intro v5 w5 ho5 hn5 hb5
        have hB5 := hB.trans (hb5.mono (by omega))
        have hz5 := hb5.size
        rw [← castL_snoc] at ho5
        clear ho hB hb5
        go_wp2_with fail
        go_quiet (fail)
        go_wp2_with fail
        go_roundw
        case rel => exact ⟨f, b, Y, D ++ [X], v5, rfl, rfl, rfl, by omega, by omega, by omega, by simp; omega, HD2.out, ho5, below_drewN hB5 _⟩
        case measure => simp only [intOf]; omega
  · 
    rw [quotF_no ht]
    have ht' : tok n s = false := by simpa using ht
    go_enter Try.func65, Try.ntmps65
    go_wp2_with fail
    refine (turnOk_any _ _ _).mono ?_; rintro e w1 ⟨rfl, hb1⟩
    have hz1 := hb1.size
    try simp at hz1
    have t1 : Two w1 (w.heap.size) (.int .i64 n) (.int .i64 s) 24 := Two.below (by repeat (first | assumption | exact Two.new' _ _ _ _ _ (by simp) | refine Two.alloc ?_ _ | refine Two.drewN ?_ _)) hb1 (by first | omega | (simp <;> omega))
    have hlt1 : (w.heap.size) < w1.heap.size := t1.lt
    have hnt1 : ¬ (w.heap.size) = w1.heap.size := Nat.ne_of_lt hlt1
    have t1c := t1.cell0
    have t1d := t1.cell1
    rw [ht']
    go_wp2
    go_ret
    exact ⟨_, rfl, World.ownsRow_nil _ _ _ _, (by repeat (first | exact Below.refl _ _ | assumption | (refine Below.trans ?_ (Below.mono (by assumption) (by first | omega | (simp <;> omega)))) | (refine Below.alloc ?_ (by first | omega | (simp <;> omega)) _) | (refine below_drewN ?_ _) | (refine Below.drew ?_) | (refine Below.setCell ?_ (by first | omega | (simp <;> omega)) _)))⟩
end Go.Proofs.Ytnpaicdbmmfdhaa

set_option linter.unusedVariables false
namespace Go.Proofs.Ytnpaicdbmmfdhaa

set_option maxRecDepth 4000
open Go.ChangeShapes Go.WideShapes Go.ChangeAt Go.RowKit Go.Joins

def nearF (n s : Int) : List Int := if tok n s = true then castL (nearN n.toNat s.toNat) else []

theorem nearF_yes {n s : Nat} (h : tokN n s = true) : nearF n s = castL (nearN n s) := by
  unfold nearF; rw [if_pos (tok_of_tokN h)]; rfl

theorem nearF_no {n s : Int} (h : ¬ tok n s = true) : nearF n s = [] := if_neg h

theorem near_facts {n s : Nat} (h : tokN n s = true) : (∀ x ∈ nearN n s, 1 ≤ x ∧ x ≤ n) ∧ (nearN n s).length ≤ 9 ∧ 2 ≤ (nearN n s).length := by
  have := all_turns chkNear_all h
  unfold chkNear at this
  simp only [Bool.and_eq_true, List.all_eq_true, Nat.ble_eq] at this
  exact ⟨fun x hx => ⟨(this.1 x hx).1, (this.1 x hx).2.1⟩, this.2.2.2.1, this.2.2.1⟩

theorem nearF_len (n s : Int) : (nearF n s).length ≤ 9 := by
  by_cases h : tok n s = true
  · obtain ⟨N, S, rfl, rfl, hN⟩ := tokN_of h
    rw [nearF_yes hN, castL_len]
    exact (near_facts hN).2.1
  · rw [nearF_no h]; simp

theorem quots_ne {n s : Nat} (h : tokN n s = true) : quotsN n s ≠ [] := by
  have h1 := (near_facts h).2.2
  intro e
  rw [nearN, e] at h1
  simp [ntL] at h1

theorem ntL_eq {Q : List Nat} (h : Q ≠ []) : ntL Q = 1 :: ntF Q 0 1 := by
  cases Q with
  | nil => exact absurd rfl h
  | cons q qs => simp [ntL, ntF]

theorem ntF_drop {Q : List Nat} {k : Nat} (h : k < Q.length) (x y : Nat) : ntF (Q.drop k) x y = (Q.getD k 0 * y + x) :: ntF (Q.drop (k + 1)) y (Q.getD k 0 * y + x) := by
  rw [List.drop_eq_getElem_cons h, ntF, List.getD_eq_getElem?_getD, List.getElem?_eq_getElem h]; rfl

theorem ntF_end {Q : List Nat} {k : Nat} (h : Q.length ≤ k) (x y : Nat) : ntF (Q.drop k) x y = [] := by
  rw [List.drop_of_length_le h]; rfl

/-- a new row of one integer, of two -/
theorem row1 (w : World) (b : Nat) (x0 : Int) (hb : b ≤ w.heap.size) :
    OwnL (w.alloc (.cells #[.int .i64 x0] 3)) b (.slice (some ⟨w.heap.size, 0, none⟩) 1 1) [x0] :=
  ⟨by simp, .inr ⟨w.heap.size, 1, _, rfl, hb, heap_alloc_new w _, by simp, by unfold maxLen; omega, by simp, by simp⟩⟩

theorem row2 (w : World) (b : Nat) (x0 x1 : Int) (hb : b ≤ w.heap.size) :
    OwnL (w.alloc (.cells #[.int .i64 x0, .int .i64 x1] 3)) b (.slice (some ⟨w.heap.size, 0, none⟩) 2 2) [x0, x1] :=
  ⟨by simp, .inr ⟨w.heap.size, 2, _, rfl, hb, heap_alloc_new w _, by simp, by unfold maxLen; omega, by simp, by simp⟩⟩

set_option maxHeartbeats 2000000 in
theorem nearTimes_any (n s : Int) (w : World) :
    Calls Try.prog 45 #[(.agg #[.int .i64 (n), .int .i64 (s)])] w (ListPost (nearF n s) w) := by
  by_cases ht : tok n s = true
  · obtain ⟨N, S, rfl, rfl, hN⟩ := tokN_of ht
    obtain ⟨b1, b2, b3, b4, _⟩ := tokN_bd hN
    
    rw [nearF_yes hN]
    have hq := quotientsOf_any N S
    rw [quotF_yes hN] at hq
    have HX : Hid (∀ x ∈ nearN N S, 1 ≤ x ∧ x ≤ N) := (near_facts hN).1
    have HL9 := Lib.hid (near_facts hN).2.1
    have HQ0 : Hid (1 :: ntF (quotsN N S) 0 1 = nearN N S) := (ntL_eq (quots_ne hN)).symm
    have HQ8 := Lib.hid (quots_len hN)
    have HQ60 : Hid (∀ x ∈ quotsN N S, 1 ≤ x ∧ x ≤ 60) := quots_le hN
    generalize quotsN N S = Q at *
    generalize nearN N S = T at *
    obtain ⟨m, hm⟩ : ∃ m, Q.length = m := ⟨_, rfl⟩
    go_enter Try.func45, Try.ntmps45
    go_wp2_with fail
    refine (turnOk_any _ _ _).mono ?_; rintro e w1 ⟨rfl, hb1⟩
    have hz1 := hb1.size
    try simp at hz1
    have t1 : Two w1 (w.heap.size) (.int .i64 N) (.int .i64 S) 24 := Two.below (by repeat (first | assumption | exact Two.new' _ _ _ _ _ (by simp) | refine Two.alloc ?_ _ | refine Two.drewN ?_ _)) hb1 (by first | omega | (simp <;> omega))
    have hlt1 : (w.heap.size) < w1.heap.size := t1.lt
    have hnt1 : ¬ (w.heap.size) = w1.heap.size := Nat.ne_of_lt hlt1
    have t1c := t1.cell0
    have t1d := t1.cell1
    rw [ht]
    clear ht hN
    have hr1 := row1 w1 w1.heap.size 1 (Nat.le_refl _)
    go_wp2_with fail
    refine (hq _).mono ?_; rintro e w2 ⟨v2, rfl, ho2, hb2⟩
    have hz2 := hb2.size
    try simp at hz2
    have t2 : Two w2 (w.heap.size) (.int .i64 N) (.int .i64 S) 24 := Two.below (by repeat (first | assumption | exact Two.new' _ _ _ _ _ (by simp) | refine Two.alloc ?_ _ | refine Two.drewN ?_ _)) hb2 (by first | omega | (simp <;> omega))
    have hlt2 : (w.heap.size) < w2.heap.size := t2.lt
    have hnt2 : ¬ (w.heap.size) = w2.heap.size := Nat.ne_of_lt hlt2
    have t2c := t2.cell0
    have t2d := t2.cell1
    have hr2 := hr1.below hb2
    clear hq hr1
    have hlm : (castL Q).length = m := (castL_len Q).trans hm
    obtain ⟨a, cap, rfl, HC0⟩ := ho2.cells hlm
    have HC : Hid (∀ j, j < m → ∃ g, a = some ⟨g, 0, none⟩ ∧ g < w2.heap.size ∧ g ≠ w1.heap.size ∧ w2.cell? ⟨g, j, none⟩ = some (.int .i64 ((Q.getD j 0 : Nat) : Int))) := fun j hj => by
      obtain ⟨g, e, g1, g2, h⟩ := HC0 (by omega)
      have h' := h.out j hj
      rw [castL_getD] at h'
      simp at g1
      exact ⟨g, e, g2, by omega, h'⟩
    have hB1 : Below w.heap.size w w2 := (by repeat (first | exact Below.refl _ _ | assumption | (refine Below.trans ?_ (Below.mono (by assumption) (by first | omega | (simp <;> omega)))) | (refine Below.alloc ?_ (by first | omega | (simp <;> omega)) _) | (refine below_drewN ?_ _) | (refine Below.drew ?_) | (refine Below.setCell ?_ (by first | omega | (simp <;> omega)) _)))
    have HM := Lib.hid hm
    have hm8 : m ≤ 8 := by have := HQ8.out; omega
    have hat0 : OnlyAt w1.heap.size w2.heap.size (.slice (some ⟨w1.heap.size, 0, none⟩) 1 1) := .inl rfl
    clear ho2 hb2 HC0 hm hb1 hlm
    go_wp2_with fail
    go_loopw [3, 4, 5, 15] (fun y xb xa x wr => ∃ (k A B : Nat) (D : List Nat) (v0 : Value), x = .int .i64 k ∧ v0 = y ∧ xa = .int .i64 A ∧ xb = .int .i64 B ∧ k ≤ m ∧ A ≤ 60 ∧ B ≤ 60 ∧ w2.heap.size ≤ wr.heap.size ∧ Hid (D ++ ntF (Q.drop k) B A = T) ∧ OwnL wr w.heap.size v0 (castL D) ∧ OnlyAt w1.heap.size w2.heap.size v0 ∧ SaveAt w1.heap.size w2.heap.size w2 wr ∧ Below w.heap.size w wr) (fun _ _ _ x _ => m - (intOf x).toNat)
    case atStart => exact ⟨0, 1, 0, [1], _, rfl, rfl, rfl, rfl, by omega, by omega, by omega, Nat.le_refl _, HQ0.out, OwnL.mono hr2 (by omega), hat0, SaveAt.refl _ _ _, hB1⟩
    case round =>
      obtain ⟨k, A, B, D, v0, rfl, rfl, rfl, rfl, hk, hA, hBb, hsz, HD, ho, hat, hsv, hB⟩ := hrel
      clear hr2
      by_cases hkm : k < m
      · have hkm' : (k : Int) < m := by omega
        obtain ⟨g, rfl, g1, g2, c1⟩ := HC.out k hkm
        have ck := (hsv.cell (i := k) g1 g2).trans c1
        have hQk : Q.getD k 0 ∈ Q := by rw [List.getD_eq_getElem?_getD, List.getElem?_eq_getElem (by rw [HM.out]; exact hkm)]; simp
        have hq60 := (HQ60.out _ hQk).2
        have hX := HD.out
        rw [ntF_drop (by rw [HM.out]; exact hkm)] at hX
        have hxT : Q.getD k 0 * A + B ∈ T := by rw [← hX]; simp
        have hx60 := (HX.out _ hxT).2
        have hlen : D.length ≤ 9 := by
          have h1 := HL9.out
          rw [← hX, List.length_append] at h1
          omega
        generalize Q.getD k 0 = q at *
        obtain ⟨X, hXe⟩ : ∃ X, q * A + B = X := ⟨_, rfl⟩
        rw [hXe] at hX hx60
        have hm0 : (0 : Int) ≤ (q : Int) * A := Int.mul_nonneg (by omega) (by omega)
        have hm1 : (q : Int) * A ≤ 60 * 60 := Int.mul_le_mul (by omega) (by omega) (by omega) (by omega)
        have hXi : (q : Int) * A + B = X := by rw [← hXe]; simp
        have HX2 : Hid ((D ++ [X]) ++ ntF (Q.drop (k + 1)) A X = T) := by show _ = _; rw [List.append_assoc]; exact hX
        have HL : Hid ((castL D).length = D.length) := castL_len D
        clear hX hXe hxT hQk c1
        go_wp2_with (at_builtin; refine append_at rfl _ _ rfl w1.heap.size w2.heap.size w.heap.size v0 (castL D) D.length HL (by omega) rfl ho hat hB.size hsz rfl ?_)
        intro v5 w5 ho5 hat5 hn5 hb5 hs5
        have hB5 := hB.trans (hb5.mono (by omega))
        have hz5 := hb5.size
        have hsv5 := hsv.trans hs5
        rw [← castL_snoc] at ho5
        clear ho hat hsv hB hb5 hs5 ck
        go_wp2_with fail
        go_roundw
        case rel => exact ⟨k + 1, X, A, D ++ [X], v5, by go_num, rfl, rfl, rfl, by omega, by omega, by omega, by omega, HX2.out, ho5, hat5, hsv5, hB5⟩
        case measure => simp only [intOf]; omega
      · obtain rfl : k = m := by omega
        have hkm' : decide ((k : Int) < k) = false := by simp
        have hE : D = T := by have := HD.out; rw [ntF_end (by rw [HM.out]; exact Nat.le_refl _), List.append_nil] at this; exact this
        subst hE
        clear HD HX HC
        go_wp2
        go_ret
        exact ⟨_, rfl, ho, hB⟩
  · 
    rw [nearF_no ht]
    have ht' : tok n s = false := by simpa using ht
    go_enter Try.func45, Try.ntmps45
    go_wp2_with fail
    refine (turnOk_any _ _ _).mono ?_; rintro e w1 ⟨rfl, hb1⟩
    have hz1 := hb1.size
    try simp at hz1
    have t1 : Two w1 (w.heap.size) (.int .i64 n) (.int .i64 s) 24 := Two.below (by repeat (first | assumption | exact Two.new' _ _ _ _ _ (by simp) | refine Two.alloc ?_ _ | refine Two.drewN ?_ _)) hb1 (by first | omega | (simp <;> omega))
    have hlt1 : (w.heap.size) < w1.heap.size := t1.lt
    have hnt1 : ¬ (w.heap.size) = w1.heap.size := Nat.ne_of_lt hlt1
    have t1c := t1.cell0
    have t1d := t1.cell1
    rw [ht']
    go_wp2
    go_ret
    exact ⟨_, rfl, World.ownsRow_nil _ _ _ _, (by repeat (first | exact Below.refl _ _ | assumption | (refine Below.trans ?_ (Below.mono (by assumption) (by first | omega | (simp <;> omega)))) | (refine Below.alloc ?_ (by first | omega | (simp <;> omega)) _) | (refine below_drewN ?_ _) | (refine Below.drew ?_) | (refine Below.setCell ?_ (by first | omega | (simp <;> omega)) _)))⟩

set_option maxHeartbeats 2000000 in
theorem specNearTimes_any (n s : Int) (w : World) :
    Calls Try.prog 76 #[(.agg #[.int .i64 (n), .int .i64 (s)])] w (ListPost (nearF n s) w) := by
  by_cases ht : tok n s = true
  · obtain ⟨N, S, rfl, rfl, hN⟩ := tokN_of ht
    obtain ⟨b1, b2, b3, b4, _⟩ := tokN_bd hN
    
    rw [nearF_yes hN]
    have hq := specQuotientsOf_any N S
    rw [quotF_yes hN] at hq
    have HX : Hid (∀ x ∈ nearN N S, 1 ≤ x ∧ x ≤ N) := (near_facts hN).1
    have HL9 := Lib.hid (near_facts hN).2.1
    have hQ0 : 1 :: ntF (quotsN N S) 0 1 = nearN N S := (ntL_eq (quots_ne hN)).symm
    have HQ8 := Lib.hid (quots_len hN)
    have hne := quots_ne hN
    have HQ60 : Hid (∀ x ∈ quotsN N S, 1 ≤ x ∧ x ≤ 60) := quots_le hN
    generalize quotsN N S = Q at *
    generalize nearN N S = T at *
    obtain ⟨m, hm⟩ : ∃ m, Q.length = m := ⟨_, rfl⟩
    have hm1 : 1 ≤ m := by
      cases Q with
      | nil => exact absurd rfl hne
      | cons x r => simp at hm; omega
    have hQ1 := ntF_drop (Q := Q) (k := 0) (by omega) 0 1
    rw [List.drop_zero, Nat.mul_one, Nat.add_zero] at hQ1
    rw [hQ1] at hQ0
    clear ht hN hne hQ1
    go_enter Try.func76, Try.ntmps76
    go_wp2_with fail
    refine (hq _).mono ?_; rintro e w1 ⟨v1, rfl, ho1, hb1⟩
    have hz1 := hb1.size
    try simp at hz1
    have t1 : Two w1 (w.heap.size) (.int .i64 N) (.int .i64 S) 24 := Two.below (by repeat (first | assumption | exact Two.new' _ _ _ _ _ (by simp) | refine Two.alloc ?_ _ | refine Two.drewN ?_ _)) hb1 (by first | omega | (simp <;> omega))
    have hlt1 : (w.heap.size) < w1.heap.size := t1.lt
    have hnt1 : ¬ (w.heap.size) = w1.heap.size := Nat.ne_of_lt hlt1
    have t1c := t1.cell0
    have t1d := t1.cell1
    clear hq
    have hlm : (castL Q).length = m := (castL_len Q).trans hm
    obtain ⟨a, cap, rfl, HC0⟩ := ho1.cells hlm
    obtain ⟨g, rfl, g1, g2, HC1⟩ := HC0 (by omega)
    have HC : Hid (∀ j, j < m → w1.cell? ⟨g, j, none⟩ = some (.int .i64 ((Q.getD j 0 : Nat) : Int))) := fun j hj => by
      have h' := HC1.out j hj
      rwa [castL_getD] at h'
    have hB1 : Below w.heap.size w w1 := (by repeat (first | exact Below.refl _ _ | assumption | (refine Below.trans ?_ (Below.mono (by assumption) (by first | omega | (simp <;> omega)))) | (refine Below.alloc ?_ (by first | omega | (simp <;> omega)) _) | (refine below_drewN ?_ _) | (refine Below.drew ?_) | (refine Below.setCell ?_ (by first | omega | (simp <;> omega)) _)))
    have HM := Lib.hid hm
    have hm8 : m ≤ 8 := by have := HQ8.out; omega
    have c0 := HC.out 0 (by omega)
    have hq0 : Q.getD 0 0 ≤ 60 := by
      refine (HQ60.out _ ?_).2
      rw [List.getD_eq_getElem?_getD, List.getElem?_eq_getElem (by omega)]
      simp
    generalize Q.getD 0 0 = q0 at *
    have hr1 := row2 w1 w1.heap.size 1 q0 (Nat.le_refl _)
    have HQ0 : Hid ([1, q0] ++ ntF (Q.drop 1) 1 q0 = T) := hQ0
    have hm0 : ((m : Int) == 0) = false := by simp; omega
    have hB2 : Below w1.heap.size w1 (w1.alloc (.cells #[.int .i64 (1 : Int), .int .i64 (q0 : Int)] 3)) := (Below.refl _ _).alloc (Nat.le_refl _) _
    clear ho1 hb1 HC0 HC1 hm hlm hQ0 g1
    have h01 : (0 : Int) < m := by omega
    go_wp2_with fail
    go_loopw [4, 5] (fun y x wr => ∃ (k A B : Nat) (D : List Nat) (v0 : Value), x = .int .i64 k ∧ v0 = y ∧ 1 ≤ k ∧ k ≤ m ∧ A ≤ 60 ∧ B ≤ 60 ∧ D.length = k + 1 ∧ D.getD k 0 = A ∧ D.getD (k - 1) 0 = B ∧ Hid (D ++ ntF (Q.drop k) B A = T) ∧ OwnL wr w1.heap.size v0 (castL D) ∧ Below w1.heap.size w1 wr) (fun _ x _ => m - (intOf x).toNat)
    case atStart => exact ⟨1, q0, 1, [1, q0], _, rfl, rfl, by omega, by omega, by omega, by omega, rfl, rfl, rfl, HQ0.out, hr1, hB2⟩
    case round =>
      obtain ⟨k, A, B, D, v0, rfl, rfl, hk1, hk, hA, hBb, hDl, hDa, hDb, HD, ho, hB⟩ := hrel
      clear hr1 hB2
      by_cases hkm : k < m
      · have hkm' : (k : Int) < m := by omega
        have ck := (hB.cell (p := ⟨g, k, none⟩) g2).trans (HC.out k hkm)
        have hQk : Q.getD k 0 ∈ Q := by rw [List.getD_eq_getElem?_getD, List.getElem?_eq_getElem (by rw [HM.out]; exact hkm)]; simp
        have hq60 := (HQ60.out _ hQk).2
        have hX := HD.out
        rw [ntF_drop (by rw [HM.out]; exact hkm)] at hX
        have hxT : Q.getD k 0 * A + B ∈ T := by rw [← hX]; simp
        have hx60 := (HX.out _ hxT).2
        generalize Q.getD k 0 = q at *
        obtain ⟨X, hXe⟩ : ∃ X, q * A + B = X := ⟨_, rfl⟩
        rw [hXe] at hX hx60
        have hm0 : (0 : Int) ≤ (q : Int) * A := Int.mul_nonneg (by omega) (by omega)
        have hm1 : (q : Int) * A ≤ 60 * 60 := Int.mul_le_mul (by omega) (by omega) (by omega) (by omega)
        have hXi : (q : Int) * A + B = X := by rw [← hXe]; simp
        have hw1 : IntKind.i64.wrap ((q : Int) * A) = (q : Int) * A := IntWalk.i64_in _ (by omega)
        have hw2 : IntKind.i64.wrap (X : Int) = X := IntWalk.i64_in _ (by omega)
        have hw3 : IntKind.i64.wrap ((k : Int) - 1) = (k : Int) - 1 := IntWalk.i64_in _ (by omega)
        have HX2 : Hid ((D ++ [X]) ++ ntF (Q.drop (k + 1)) A X = T) := by show _ = _; rw [List.append_assoc]; exact hX
        have HL : Hid ((castL D).length = k + 1) := (castL_len D).trans hDl
        obtain ⟨a5, cap5, rfl, HC5⟩ := ho.cells HL.out
        obtain ⟨h, rfl, h1, h2, HC6⟩ := HC5 (by omega)
        have d1 := HC6.out k (by omega)
        have d2 := HC6.out (k - 1) (by omega)
        rw [castL_getD, hDa] at d1
        rw [castL_getD, hDb] at d2
        have hDa2 : Hid ((D ++ [X]).getD (k + 1) 0 = X ∧ (D ++ [X]).getD (k + 1 - 1) 0 = A) := by
          show _ ∧ _
          constructor
          · rw [List.getD_eq_getElem?_getD, List.getElem?_append_right (by omega), hDl]; simp
          · rw [Nat.add_sub_cancel, List.getD_eq_getElem?_getD, List.getElem?_append_left (by omega), ← List.getD_eq_getElem?_getD]; exact hDa
        have hz := hB.size
        have p0 : (0 : Int) ≤ k := by omega
        have p7 : (1 : Int) ≤ k := by omega
        have p1 : (k : Int) < ((k + 1 : Nat) : Int) := by omega
        have p2 : (0 : Int) ≤ (k : Int) - 1 := by omega
        have p3 : (k : Int) - 1 < ((k + 1 : Nat) : Int) := by omega
        have p4 : ((k : Int) - 1).toNat = k - 1 := by omega
        have p5 : (k : Int) < (k : Int) + 1 := by omega
        have p6 : (k : Int) - 1 < (k : Int) + 1 := by omega
        clear hX hXe hxT hQk HC5 HC6 hDa hDb
        go_wp2_with fail
        have ck0 := ck
        go_region_held3 (fun w' => w'.cell? ⟨g, k, none⟩ = some (.int .i64 (q : Int)) ∧ w'.cell? ⟨h, k, none⟩ = some (.int .i64 (A : Int)) ∧ w'.cell? ⟨h, k - 1, none⟩ = some (.int .i64 (B : Int)))
          (first | go_keep | (go_split_ands; exact ⟨hk5 _ _ (fun e => absurd e (by simp [Value.ownBlock]; omega)) rfl (by assumption), hk5 _ _ (fun _ => by simp) rfl (by assumption), hk5 _ _ (fun _ => by simp; omega) rfl (by assumption)⟩))
          (first | (refine step_int (by rfl) _ _ (by rfl) w1.heap.size _ (castL D) (k + 1) HL (by omega) (by rfl) ((OwnL.below ho ((Below.refl _ _).alloc (Nat.le_refl _) _)).drew) (by simp; omega) wr.heap.size 1 (by rfl) (heap_alloc_new wr _) ?_; intro v5 w5 ho5 hn5 hb5 hk5))
        have ho6 : OwnL w5 w1.heap.size v5 (castL (D ++ [X])) := by rw [castL_snoc]; exact ho5
        have hB5 := (hB.trans (((Below.refl _ _).alloc hz _).drew)).trans hb5
        clear ho ho5 hk5 hb5 hB d1 d2 ck ck0
        go_wp2_with fail
        go_roundw
        case rel => exact ⟨k + 1, X, A, D ++ [X], v5, by go_num, rfl, by omega, by omega, by omega, by omega, by simp [hDl], hDa2.out.1, hDa2.out.2, HX2.out, ho6, hB5⟩
        case measure => simp only [intOf]; omega
      · obtain rfl : k = m := by omega
        have hkm' : decide ((k : Int) < k) = false := by simp
        have hE : D = T := by have := HD.out; rw [ntF_end (by rw [HM.out]; exact Nat.le_refl _), List.append_nil] at this; exact this
        subst hE
        have ho' : OwnL wr w.heap.size v0 (castL D) := ho.mono (by omega)
        have hB' : Below w.heap.size w wr := hB1.trans (hB.mono (by omega))
        clear HD HX HC ho hB
        go_wp2
        go_ret
        exact ⟨_, rfl, ho', hB'⟩
  · 
    rw [nearF_no ht]
    have hq := specQuotientsOf_any n s
    rw [quotF_no ht] at hq
    go_enter Try.func76, Try.ntmps76
    go_wp2_with fail
    refine (hq _).mono ?_; rintro e w1 ⟨v1, rfl, ho1, hb1⟩
    have hz1 := hb1.size
    try simp at hz1
    have t1 : Two w1 (w.heap.size) (.int .i64 n) (.int .i64 s) 24 := Two.below (by repeat (first | assumption | exact Two.new' _ _ _ _ _ (by simp) | refine Two.alloc ?_ _ | refine Two.drewN ?_ _)) hb1 (by first | omega | (simp <;> omega))
    have hlt1 : (w.heap.size) < w1.heap.size := t1.lt
    have hnt1 : ¬ (w.heap.size) = w1.heap.size := Nat.ne_of_lt hlt1
    have t1c := t1.cell0
    have t1d := t1.cell1
    obtain ⟨a, cap, rfl, _⟩ := ho1.reads.cells (N := 0) rfl
    have hr := made_nil w1
    go_wp2
    go_ret
    exact ⟨_, rfl, hr.mono (by omega), (by repeat (first | exact Below.refl _ _ | assumption | (refine Below.trans ?_ (Below.mono (by assumption) (by first | omega | (simp <;> omega)))) | (refine Below.alloc ?_ (by first | omega | (simp <;> omega)) _) | (refine below_drewN ?_ _) | (refine Below.drew ?_) | (refine Below.setCell ?_ (by first | omega | (simp <;> omega)) _)))⟩
end Go.Proofs.Ytnpaicdbmmfdhaa
