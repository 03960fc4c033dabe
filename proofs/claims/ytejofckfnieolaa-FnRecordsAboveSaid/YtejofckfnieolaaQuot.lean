/- Contracts of QuotientsOf and NearTimes, of the program and of the model. -/
import Derived.Test.YtejofckfnieolaaApp
import Derived.Test.YtejofckfnieolaaFrom
set_option linter.unusedVariables false
namespace Go.Proofs.Ytejofckfnieolaa

set_option maxRecDepth 4000
open Go.ChangeShapes Go.WideShapes Go.ChangeAt Go.RowKit Go.Joins

def quotF (n s : Int) : List Int := if tok n s = true then castL (quotsN n.toNat s.toNat) else []

theorem quotF_yes {n s : Nat} (h : tokN n s = true) : quotF n s = castL (quotsN n s) := by
  unfold quotF; rw [if_pos (tok_of_tokN h)]; rfl

theorem quotF_no {n s : Int} (h : ¬ tok n s = true) : quotF n s = [] := if_neg h

theorem quots_len {n s : Nat} (h : tokN n s = true) : (quotsN n s).length ≤ 8 := by
  have := all_turns chkQuots_all h
  unfold chkQuots at this
  simp only [Bool.and_eq_true, Nat.ble_eq] at this
  exact this.2.2.2.2.2

theorem quots_le {n s : Nat} (h : tokN n s = true) : ∀ x ∈ quotsN n s, 1 ≤ x ∧ x ≤ 60 := by
  have := all_turns chkQuots_all h
  unfold chkQuots at this
  simp only [Bool.and_eq_true, List.all_eq_true, Nat.ble_eq] at this
  exact this.1

theorem quotF_len (n s : Int) : (quotF n s).length ≤ 8 := by
  by_cases h : tok n s = true
  · obtain ⟨N, S, rfl, rfl, hN⟩ := tokN_of h
    rw [quotF_yes hN, castL_len]
    exact quots_len hN
  · rw [quotF_no h]; simp

set_option maxHeartbeats 2000000 in
theorem specQuotientsOf_any (n s : Int) (w : World) :
    Calls Try.prog 52 #[(.agg #[.int .i64 (n), .int .i64 (s)])] w (ListPost (quotF n s) w) := by
  
  have hnil := made_nil (w.alloc (.cells #[.int .i64 n, .int .i64 s] 24))
  rw [World.size_alloc] at hnil
  by_cases ht : tok n s = true
  · obtain ⟨N, S, rfl, rfl, hN⟩ := tokN_of ht
    obtain ⟨b1, b2, b3, b4, _⟩ := tokN_bd hN
    
    rw [quotF_yes hN]
    have HQ : Hid (quotsF N N S = quotsN N S) := by show _ = _; rfl
    have HL8 := Lib.hid (quots_len hN)
    generalize quotsN N S = Q at *
    have hN0 : N ≤ 60 := b2
    go_enter Try.func52, Try.ntmps52
    go_wp2_with fail
    refine (specTurnOk_any _ _ _).mono ?_; rintro e w1 ⟨rfl, hb1⟩
    have hz1 := hb1.size
    try simp at hz1
    have t1 : Two w1 (w.heap.size) (.int .i64 N) (.int .i64 S) 24 := Two.below (by repeat (first | assumption | exact Two.new' _ _ _ _ _ (by simp) | refine Two.alloc ?_ _ | refine Two.drewN ?_ _)) hb1 (by first | omega | (simp <;> omega))
    have hlt1 : (w.heap.size) < w1.heap.size := t1.lt
    have hnt1 : ¬ (w.heap.size) = w1.heap.size := Nat.ne_of_lt hlt1
    have t1c := t1.cell0
    have t1d := t1.cell1
    rw [ht]
    have hn1 := hnil.below hb1
    have hB1 : Below w.heap.size w w1 := (by repeat (first | exact Below.refl _ _ | assumption | (refine Below.trans ?_ (Below.mono (by assumption) (by first | omega | (simp <;> omega)))) | (refine Below.alloc ?_ (by first | omega | (simp <;> omega)) _) | (refine below_drewN ?_ _) | (refine Below.drew ?_) | (refine Below.setCell ?_ (by first | omega | (simp <;> omega)) _)))
    clear ht hN hnil hb1
    go_wp2_with fail
    go_loopw [3, 4, 5] (fun o xa xb wr => ∃ (f a b : Nat) (D : List Nat) (v0 : Value), xa = .int .i64 a ∧ v0 = o ∧ xb = .int .i64 b ∧ a ≤ 60 ∧ b ≤ 60 ∧ b < f ∧ w.heap.size + 1 < wr.heap.size ∧ Hid (D ++ quotsF f a b = Q) ∧ OwnL wr (w.heap.size + 1) v0 (castL D) ∧ Below w.heap.size w wr) (fun _ _ xb _ => (intOf xb).toNat)
    case atStart => exact ⟨N, N, S, [], _, rfl, rfl, rfl, by omega, by omega, by omega, by omega, by show _ = _; rw [List.nil_append]; exact HQ.out, hn1, hB1⟩
    case round =>
      obtain ⟨f, a, b, D, v0, rfl, rfl, rfl, ha, hb, hbf, hsz, HD, ho, hB⟩ := hrel
      clear hn1 hB1
      by_cases h0 : b = 0
      · subst h0
        have hE : D = Q := by have := HD.out; rw [quotsF_zero, List.append_nil] at this; exact this
        subst hE
        have ho' : OwnL wr w.heap.size v0 (castL D) := OwnL.mono (b := w.heap.size + 1) ho (by omega)
        clear ho HD
        go_wp2
        go_ret
        exact ⟨_, rfl, ho', hB⟩
      · have hpos : (0 : Int) < b := by omega
        have hne : ¬ (b : Int) = 0 := by omega
        obtain ⟨f, rfl⟩ : ∃ g, f = g + 1 := ⟨f - 1, by omega⟩
        have HD2 : Hid ((D ++ [a / b]) ++ quotsF f b (a % b) = Q) := by
          show _ = _
          have := HD.out
          rw [quotsF_pos (by omega)] at this
          rw [List.append_assoc]
          exact this
        have hlen : D.length ≤ 8 := by
          have h1 := HL8.out
          rw [← HD.out, List.length_append] at h1
          omega
        have HL : Hid ((castL D).length = D.length) := castL_len D
        have hlt := Nat.mod_lt a (show 0 < b by omega)
        have hdl : a / b ≤ 60 := Nat.le_trans (Nat.div_le_self a b) ha
        have eq1 : (a : Int) / (b : Int) = ((a / b : Nat) : Int) := by simp
        have eq2 : (a : Int) % (b : Int) = ((a % b : Nat) : Int) := by simp
        have eq3 : (a : Int).tdiv (b : Int) = ((a / b : Nat) : Int) := by rw [Int.tdiv_eq_ediv_of_nonneg (by omega)]; simp
        have eq4 : (a : Int).tmod (b : Int) = ((a % b : Nat) : Int) := by rw [Int.tmod_eq_emod_of_nonneg (by omega)]; simp
        generalize a / b = X at *
        generalize a % b = Y at *
        have hz1 : w.heap.size + 1 ≤ wr.heap.size := by omega
        go_wp2_with (at_builtin; refine append_int rfl _ _ rfl (w.heap.size + 1) v0 (castL D) D.length HL (by omega) rfl ho hz1 rfl ?_)
        intro v5 w5 ho5 hn5 hb5
        have hB5 := hB.trans (hb5.mono (by omega))
        have hz5 := hb5.size
        rw [← castL_snoc] at ho5
        clear ho hB hb5
        go_wp2_with fail
        go_roundw
        case rel => exact ⟨f, b, Y, D ++ [X], v5, rfl, rfl, rfl, by omega, by omega, by omega, by omega, HD2.out, ho5, hB5⟩
        case measure => simp only [intOf]; omega
  · 
    rw [quotF_no ht]
    have ht' : tok n s = false := by simpa using ht
    go_enter Try.func52, Try.ntmps52
    go_wp2_with fail
    refine (specTurnOk_any _ _ _).mono ?_; rintro e w1 ⟨rfl, hb1⟩
    have hz1 := hb1.size
    try simp at hz1
    have t1 : Two w1 (w.heap.size) (.int .i64 n) (.int .i64 s) 24 := Two.below (by repeat (first | assumption | exact Two.new' _ _ _ _ _ (by simp) | refine Two.alloc ?_ _ | refine Two.drewN ?_ _)) hb1 (by first | omega | (simp <;> omega))
    have hlt1 : (w.heap.size) < w1.heap.size := t1.lt
    have hnt1 : ¬ (w.heap.size) = w1.heap.size := Nat.ne_of_lt hlt1
    have t1c := t1.cell0
    have t1d := t1.cell1
    rw [ht']
    have hn1 := hnil.below hb1
    go_wp2
    go_ret
    exact ⟨_, rfl, hn1.mono (b' := w.heap.size) (by omega), (by repeat (first | exact Below.refl _ _ | assumption | (refine Below.trans ?_ (Below.mono (by assumption) (by first | omega | (simp <;> omega)))) | (refine Below.alloc ?_ (by first | omega | (simp <;> omega)) _) | (refine below_drewN ?_ _) | (refine Below.drew ?_) | (refine Below.setCell ?_ (by first | omega | (simp <;> omega)) _)))⟩
end Go.Proofs.Ytejofckfnieolaa
