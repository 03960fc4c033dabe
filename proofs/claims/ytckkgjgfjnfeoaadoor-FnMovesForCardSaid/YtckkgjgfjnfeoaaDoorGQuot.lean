/- Contracts of QuotientsOf and NearTimes, of the program and of the model. Contracts of QuotientsOf and NearTimes, of the program and of the model. Contracts of NearTimes, of the program and of the model. -/
import Derived.Test.YtckkgjgfjnfeoaaDoorGList
import Derived.Test.YtckkgjgfjnfeoaaDoorFrom
import Derived.Test.YtckkgjgfjnfeoaaDoorGApp
set_option linter.unusedVariables false
namespace Go.Proofs.YtckkgjgfjnfeoaaDoor
set_option maxRecDepth 4000

set_option maxRecDepth 4000
open Go.ChangeShapes Go.WideShapes Go.ChangeAt Go.RowKit Go.Joins

def quotF (n s : Int) : List Int := if tok n s = true then castL (quotsN n.toNat s.toNat) else []

theorem quotF_yes {n s : Nat} (h : tokN n s = true) : quotF n s = castL (quotsN n s) := by
  unfold quotF; rw [if_pos (tok_of_tokN h)]; rfl

theorem quotF_no {n s : Int} (h : ¬ tok n s = true) : quotF n s = [] := if_neg h

theorem quots_len {n s : Nat} (h : tokN n s = true) : (quotsN n s).length ≤ 8 := by
  have := all_turns chkQuots_all h
  unfold chkQuots at this
  simp only [Bool.and_eq_true, Nat.ble_eq] at this
  exact this.2.2.2.2.2

theorem quots_le {n s : Nat} (h : tokN n s = true) : ∀ x ∈ quotsN n s, 1 ≤ x ∧ x ≤ 60 := by
  have := all_turns chkQuots_all h
  unfold chkQuots at this
  simp only [Bool.and_eq_true, List.all_eq_true, Nat.ble_eq] at this
  exact this.1

theorem quotF_len (n s : Int) : (quotF n s).length ≤ 8 := by
  by_cases h : tok n s = true
  · obtain ⟨N, S, rfl, rfl, hN⟩ := tokN_of h
    rw [quotF_yes hN, castL_len]
    exact quots_len hN
  · rw [quotF_no h]; simp

end Go.Proofs.YtckkgjgfjnfeoaaDoor

set_option linter.unusedVariables false
namespace Go.Proofs.YtckkgjgfjnfeoaaDoor

set_option maxRecDepth 4000
open Go.ChangeShapes Go.WideShapes Go.ChangeAt Go.RowKit Go.Joins

set_option maxHeartbeats 2000000 in
theorem quotientsOf_any (n s : Int) (w : World) :
    Calls Tryd.prog 24 #[(.agg #[.int .i64 (n), .int .i64 (s)])] w (ListPost (quotF n s) w) := by
  by_cases ht : tok n s = true
  · obtain ⟨N, S, rfl, rfl, hN⟩ := tokN_of ht
    obtain ⟨b1, b2, b3, b4, _⟩ := tokN_bd hN
    
    rw [quotF_yes hN]
    have HQ : Hid (quotsF N N S = quotsN N S) := by show _ = _; rfl
    have HL8 := Lib.hid (quots_len hN)
    generalize quotsN N S = Q at *
    have hN0 : N ≤ 60 := b2
    go_enter Tryd.func24, Tryd.ntmps24
    go_wp2_with fail
    refine (turnOk_any _ _ _).mono ?_; rintro e w1 ⟨rfl, hb1⟩
    have hz1 := hb1.size
    try simp at hz1
    have t1 : Two w1 (w.heap.size) (.int .i64 N) (.int .i64 S) 28 := Two.below (by repeat (first | assumption | exact Two.new' _ _ _ _ _ (by simp) | refine Two.alloc ?_ _ | refine Two.drewN ?_ _)) hb1 (by first | omega | (simp <;> omega))
    have hlt1 : (w.heap.size) < w1.heap.size := t1.lt
    have hnt1 : ¬ (w.heap.size) = w1.heap.size := Nat.ne_of_lt hlt1
    have t1c := t1.cell0
    have t1d := t1.cell1
    rw [ht]
    have hB1 : Below w.heap.size w w1 := (by repeat (first | exact Below.refl _ _ | assumption | (refine Below.trans ?_ (Below.mono (by assumption) (by first | omega | (simp <;> omega)))) | (refine Below.alloc ?_ (by first | omega | (simp <;> omega)) _) | (refine below_drewN ?_ _) | (refine Below.drew ?_) | (refine Below.setCell ?_ (by first | omega | (simp <;> omega)) _)))
    clear ht hN hb1
    go_wp2_with fail
    go_quiet (fail)
    have hBq := below_drewN hB1 nq
    have hq : w.heap.size < (w1.drewN nq).heap.size := by simpa using hlt1
    generalize w1.drewN nq = wq at *
    clear hB1 t1 t1c t1d
    go_wp2_with fail
    go_loopw [3, 4, 5] (fun o xa xb wr => ∃ (f a b : Nat) (D : List Nat) (v0 : Value), xa = .int .i64 a ∧ v0 = o ∧ xb = .int .i64 b ∧ a ≤ 60 ∧ b ≤ 60 ∧ b < f ∧ w.heap.size < wr.heap.size ∧ Hid (D ++ quotsF f a b = Q) ∧ OwnL wr w.heap.size v0 (castL D) ∧ Below w.heap.size w wr) (fun _ _ xb _ => (intOf xb).toNat)
    case atStart => exact ⟨N, N, S, [], _, rfl, rfl, rfl, by omega, by omega, by omega, by omega, by show _ = _; rw [List.nil_append]; exact HQ.out, World.ownsRow_nil _ _ _ _, hBq⟩
    case round =>
      obtain ⟨f, a, b, D, v0, rfl, rfl, rfl, ha, hb, hbf, hsz, HD, ho, hB⟩ := hrel
      by_cases h0 : b = 0
      · subst h0
        have hE : D = Q := by have := HD.out; rw [quotsF_zero, List.append_nil] at this; exact this
        subst hE
        clear HD
        go_wp2
        go_ret
        exact ⟨_, rfl, ho, hB⟩
      · have hpos : (0 : Int) < b := by omega
        have hne : ¬ (b : Int) = 0 := by omega
        have hbne : ((b : Int) != 0) = true := by simp; omega
        obtain ⟨f, rfl⟩ : ∃ g, f = g + 1 := ⟨f - 1, by omega⟩
        have HD2 : Hid ((D ++ [a / b]) ++ quotsF f b (a % b) = Q) := by
          show _ = _
          have := HD.out
          rw [quotsF_pos (by omega)] at this
          rw [List.append_assoc]
          exact this
        have hlen : D.length ≤ 8 := by
          have h1 := HL8.out
          rw [← HD.out, List.length_append] at h1
          omega
        have HL : Hid ((castL D).length = D.length) := castL_len D
        have hlt := Nat.mod_lt a (show 0 < b by omega)
        have hdl : a / b ≤ 60 := Nat.le_trans (Nat.div_le_self a b) ha
        have eq1 : (a : Int) / (b : Int) = ((a / b : Nat) : Int) := by simp
        have eq2 : (a : Int) % (b : Int) = ((a % b : Nat) : Int) := by simp
        have eq3 : (a : Int).tdiv (b : Int) = ((a / b : Nat) : Int) := by rw [Int.tdiv_eq_ediv_of_nonneg (by omega)]; simp
        have eq4 : (a : Int).tmod (b : Int) = ((a % b : Nat) : Int) := by rw [Int.tmod_eq_emod_of_nonneg (by omega)]; simp
        generalize a / b = X at *
        generalize a % b = Y at *
        have hw1 : IntKind.i64.wrap (Y : Int) = Y := IntWalk.i64_in _ (by omega)
        have hz1 : w.heap.size ≤ wr.heap.size := by omega
        go_wp2_with (at_builtin; refine append_int rfl _ _ rfl w.heap.size v0 (castL D) D.length HL (by omega) rfl ho hz1 rfl ?_)
        intro v5 w5 ho5 hn5 hb5
        have hB5 := hB.trans (hb5.mono (by omega))
        have hz5 := hb5.size
        rw [← castL_snoc] at ho5
        clear ho hB hb5
        go_wp2_with fail
        go_quiet (fail)
        go_wp2_with fail
        go_roundw
        case rel => exact ⟨f, b, Y, D ++ [X], v5, rfl, rfl, rfl, by omega, by omega, by omega, by simp; omega, HD2.out, ho5, below_drewN hB5 _⟩
        case measure => simp only [intOf]; omega
  · 
    rw [quotF_no ht]
    have ht' : tok n s = false := by simpa using ht
    go_enter Tryd.func24, Tryd.ntmps24
    go_wp2_with fail
    refine (turnOk_any _ _ _).mono ?_; rintro e w1 ⟨rfl, hb1⟩
    have hz1 := hb1.size
    try simp at hz1
    have t1 : Two w1 (w.heap.size) (.int .i64 n) (.int .i64 s) 28 := Two.below (by repeat (first | assumption | exact Two.new' _ _ _ _ _ (by simp) | refine Two.alloc ?_ _ | refine Two.drewN ?_ _)) hb1 (by first | omega | (simp <;> omega))
    have hlt1 : (w.heap.size) < w1.heap.size := t1.lt
    have hnt1 : ¬ (w.heap.size) = w1.heap.size := Nat.ne_of_lt hlt1
    have t1c := t1.cell0
    have t1d := t1.cell1
    rw [ht']
    go_wp2
    go_ret
    exact ⟨_, rfl, World.ownsRow_nil _ _ _ _, (by repeat (first | exact Below.refl _ _ | assumption | (refine Below.trans ?_ (Below.mono (by assumption) (by first | omega | (simp <;> omega)))) | (refine Below.alloc ?_ (by first | omega | (simp <;> omega)) _) | (refine below_drewN ?_ _) | (refine Below.drew ?_) | (refine Below.setCell ?_ (by first | omega | (simp <;> omega)) _)))⟩
end Go.Proofs.YtckkgjgfjnfeoaaDoor

set_option linter.unusedVariables false
namespace Go.Proofs.YtckkgjgfjnfeoaaDoor

set_option maxRecDepth 4000
open Go.ChangeShapes Go.WideShapes Go.ChangeAt Go.RowKit Go.Joins

def nearF (n s : Int) : List Int := if tok n s = true then castL (nearN n.toNat s.toNat) else []

theorem nearF_yes {n s : Nat} (h : tokN n s = true) : nearF n s = castL (nearN n s) := by
  unfold nearF; rw [if_pos (tok_of_tokN h)]; rfl

theorem nearF_no {n s : Int} (h : ¬ tok n s = true) : nearF n s = [] := if_neg h

theorem near_facts {n s : Nat} (h : tokN n s = true) : (∀ x ∈ nearN n s, 1 ≤ x ∧ x ≤ n) ∧ (nearN n s).length ≤ 9 ∧ 2 ≤ (nearN n s).length := by
  have := all_turns chkNear_all h
  unfold chkNear at this
  simp only [Bool.and_eq_true, List.all_eq_true, Nat.ble_eq] at this
  exact ⟨fun x hx => ⟨(this.1 x hx).1, (this.1 x hx).2.1⟩, this.2.2.2.1, this.2.2.1⟩

theorem nearF_len (n s : Int) : (nearF n s).length ≤ 9 := by
  by_cases h : tok n s = true
  · obtain ⟨N, S, rfl, rfl, hN⟩ := tokN_of h
    rw [nearF_yes hN, castL_len]
    exact (near_facts hN).2.1
  · rw [nearF_no h]; simp

theorem quots_ne {n s : Nat} (h : tokN n s = true) : quotsN n s ≠ [] := by
  have h1 := (near_facts h).2.2
  intro e
  rw [nearN, e] at h1
  simp [ntL] at h1

theorem ntL_eq {Q : List Nat} (h : Q ≠ []) : ntL Q = 1 :: ntF Q 0 1 := by
  cases Q with
  | nil => exact absurd rfl h
  | cons q qs => simp [ntL, ntF]

theorem ntF_drop {Q : List Nat} {k : Nat} (h : k < Q.length) (x y : Nat) : ntF (Q.drop k) x y = (Q.getD k 0 * y + x) :: ntF (Q.drop (k + 1)) y (Q.getD k 0 * y + x) := by
  rw [List.drop_eq_getElem_cons h, ntF, List.getD_eq_getElem?_getD, List.getElem?_eq_getElem h]; rfl

theorem ntF_end {Q : List Nat} {k : Nat} (h : Q.length ≤ k) (x y : Nat) : ntF (Q.drop k) x y = [] := by
  rw [List.drop_of_length_le h]; rfl

/-- a new row of one integer, of two -/
theorem row1 (w : World) (b : Nat) (x0 : Int) (hb : b ≤ w.heap.size) :
    OwnL (w.alloc (.cells #[.int .i64 x0] 3)) b (.slice (some ⟨w.heap.size, 0, none⟩) 1 1) [x0] :=
  ⟨by simp, .inr ⟨w.heap.size, 1, _, rfl, hb, heap_alloc_new w _, by simp, by unfold maxLen; omega, by simp, by simp⟩⟩

theorem row2 (w : World) (b : Nat) (x0 x1 : Int) (hb : b ≤ w.heap.size) :
    OwnL (w.alloc (.cells #[.int .i64 x0, .int .i64 x1] 3)) b (.slice (some ⟨w.heap.size, 0, none⟩) 2 2) [x0, x1] :=
  ⟨by simp, .inr ⟨w.heap.size, 2, _, rfl, hb, heap_alloc_new w _, by simp, by unfold maxLen; omega, by simp, by simp⟩⟩

end Go.Proofs.YtckkgjgfjnfeoaaDoor
