/- Contract of NearRule of the model. -/
import Derived.Test.YtejofckfnieolaaLists
import Derived.Test.YtejofckfnieolaaQuot3
set_option linter.unusedVariables false
namespace Go.Proofs.Ytejofckfnieolaa

set_option maxRecDepth 4000
open Go.ChangeShapes Go.WideShapes Go.ChangeAt Go.RowKit Go.Joins

def rowI (r : Row) : List Int := [(r.p : Int), (r.a : Int), (r.q : Int), (r.b : Int)]

def rowsI (n s : Nat) : List (List Int) := (rowsN n s).map rowI

def ruleF (n s : Int) : List (List Int) := if tok n s = true then rowsI n.toNat s.toNat else []

theorem ruleF_yes {n s : Nat} (h : tokN n s = true) : ruleF n s = rowsI n s := by
  unfold ruleF; rw [if_pos (tok_of_tokN h)]; rfl

theorem ruleF_no {n s : Int} (h : ¬ tok n s = true) : ruleF n s = [] := if_neg h

theorem rowsF_len : ∀ (f p a q b : Nat), (rowsF f p a q b).length ≤ f + 1 := by
  intro f
  induction f with
  | zero => intro p a q b; simp [rowsF]
  | succ f ih =>
    intro p a q b
    rw [rowsF]
    cases Nat.beq a b
    · cases Nat.blt b a
      · have := ih p a (p + q) (b - a); simp only [cond_false, List.length_cons]; omega
      · have := ih (p + q) (a - b) q b; simp only [cond_false, cond_true, List.length_cons]; omega
    · simp

theorem rowsF_head (f p a q b : Nat) : rowsF f p a q b = ⟨p, a, q, b⟩ :: (rowsF f p a q b).tail := by
  cases f with
  | zero => rfl
  | succ f =>
    rw [rowsF]
    cases Nat.beq a b <;> rfl

theorem rowsI_len {n s : Nat} (h : tokN n s = true) : (rowsI n s).length ≤ 61 := by
  have := rowsF_len n 1 s 1 (n - s)
  have := tokN_bd h
  unfold rowsI rowsN
  rw [List.length_map]
  omega

theorem ruleF_len (n s : Int) : (ruleF n s).length ≤ 61 := by
  by_cases h : tok n s = true
  · obtain ⟨N, S, rfl, rfl, hN⟩ := tokN_of h
    rw [ruleF_yes hN]; exact rowsI_len hN
  · rw [ruleF_no h]; simp

theorem RowInv.bd {n s p a q b : Nat} (h : RowInv n s p a q b) (h2 : 2 ≤ n) : a ≤ n ∧ b ≤ n ∧ p ≤ n ∧ q ≤ n := by
  have := h.ea; have := h.eb; have := h.le; have := h.p1; have := h.q1
  have := N.pt_hi (n := (n : Int)) s (p : Int) (by omega)
  have := N.pt_lo (n := (n : Int)) s (q : Int) (by omega)
  omega

theorem rule_up {n s : Nat} {f p a q b : Nat} {D T : List (List Int)} (h : b < a) (hd : D ++ ((rowsF (f + 1) p a q b).tail).map rowI = T) :
    (D ++ [rowI ⟨p + q, a - b, q, b⟩]) ++ ((rowsF f (p + q) (a - b) q b).tail).map rowI = T := by
  rw [rowsF_up h, List.tail_cons, rowsF_head, List.map_cons] at hd
  rw [List.append_assoc]
  exact hd

theorem rule_down {n s : Nat} {f p a q b : Nat} {D T : List (List Int)} (h : a < b) (hd : D ++ ((rowsF (f + 1) p a q b).tail).map rowI = T) :
    (D ++ [rowI ⟨p, a, p + q, b - a⟩]) ++ ((rowsF f p a (p + q) (b - a)).tail).map rowI = T := by
  rw [rowsF_down h, List.tail_cons, rowsF_head, List.map_cons] at hd
  rw [List.append_assoc]
  exact hd

def RowsPost (Ls : List (List Int)) (w : World) (e : Ending) (w' : World) : Prop := ∃ v, e = .returned v ∧ OwnLL w' w.heap.size v Ls ∧ Below w.heap.size w w'

/-- a new row of four integers -/
theorem row4 (w : World) (b : Nat) (x0 x1 x2 x3 : Int) (hb : b ≤ w.heap.size) :
    OwnL (w.alloc (.cells #[.int .i64 x0, .int .i64 x1, .int .i64 x2, .int .i64 x3] 3)) b (.slice (some ⟨w.heap.size, 0, none⟩) 4 4) [x0, x1, x2, x3] :=
  ⟨by simp, .inr ⟨w.heap.size, 4, _, rfl, hb, heap_alloc_new w _, by simp, by unfold maxLen; omega, by simp, by simp⟩⟩

set_option maxHeartbeats 4000000 in
theorem specNearRule_any (n s : Int) (w : World) :
    Calls Try.prog 18 #[(.agg #[.int .i64 (n), .int .i64 (s)])] w (RowsPost (ruleF n s) w) := by
  have hnil := OwnLL.made (w.alloc (.cells #[.int .i64 n, .int .i64 s] 24))
  rw [World.size_alloc] at hnil
  by_cases ht : tok n s = true
  · obtain ⟨N, S, rfl, rfl, hN⟩ := tokN_of ht
    obtain ⟨b1, b2, b3, b4, _⟩ := tokN_bd hN
    
    rw [ruleF_yes hN]
    have HT := Lib.hid hN
    have HL := Lib.hid (rowsI_len hN)
    have H0 : Hid ([rowI ⟨1, S, 1, N - S⟩] ++ ((rowsF N 1 S 1 (N - S)).tail).map rowI = rowsI N S) := by
      show _ = _
      unfold rowsI rowsN
      conv => rhs; rw [rowsF_head]
      rfl
    generalize rowsI N S = T at *
    obtain ⟨M, hM⟩ : ∃ M : Nat, N - S = M := ⟨_, rfl⟩
    rw [hM] at H0
    have hMi : (N : Int) - S = M := by omega
    have HI : Hid (RowInv N S 1 S 1 M) := by rw [← hM]; exact RowInv.start hN
    go_enter Try.func18, Try.ntmps18
    go_wp2_with fail
    refine (specTurnOk_any _ _ _).mono ?_; rintro e w1 ⟨rfl, hb1⟩
    have hz1 := hb1.size
    try simp at hz1
    have t1 : Two w1 (w.heap.size) (.int .i64 N) (.int .i64 S) 24 := Two.below (by repeat (first | assumption | exact Two.new' _ _ _ _ _ (by simp) | refine Two.alloc ?_ _ | refine Two.drewN ?_ _)) hb1 (by first | omega | (simp <;> omega))
    have hlt1 : (w.heap.size) < w1.heap.size := t1.lt
    have hnt1 : ¬ (w.heap.size) = w1.heap.size := Nat.ne_of_lt hlt1
    have t1c := t1.cell0
    have t1d := t1.cell1
    rw [ht]
    have hn1 := hnil.below hb1
    have hB1 : Below w.heap.size w w1 := (by repeat (first | exact Below.refl _ _ | assumption | (refine Below.trans ?_ (Below.mono (by assumption) (by first | omega | (simp <;> omega)))) | (refine Below.alloc ?_ (by first | omega | (simp <;> omega)) _) | (refine below_drewN ?_ _) | (refine Below.drew ?_) | (refine Below.setCell ?_ (by first | omega | (simp <;> omega)) _)))
    clear ht hN hnil hb1
    have hr4 := row4 w1 w1.heap.size 1 S 1 M (Nat.le_refl _)
    have hBr : Below w1.heap.size w1 (w1.alloc (.cells #[.int .i64 (1 : Int), .int .i64 (S : Int), .int .i64 (1 : Int), .int .i64 (M : Int)] 3)) := (Below.refl _ _).alloc (Nat.le_refl _) _
    go_wp2_with (at_builtin; refine append_row rfl _ _ rfl (w.heap.size + 1) _ [] 0 rfl (by omega) rfl hn1 hBr (by omega) hr4 (w1.heap.size + 1) (by simp) rfl ?_)
    intro v2 w2 ho2 hn2 hb2
    have hB2 : Below w.heap.size w w2 := hB1.trans ((hBr.mono (by omega)).trans (hb2.mono (by omega)))
    have hz2 := hb2.size
    simp at hz2
    have HF : Hid (S + M ≤ N + 1) := by show _ ≤ _; omega
    clear hr4 hBr hb2 hn1 hB1
    go_wp2_with fail
    go_loopw [3, 4, 5, 6, 7] (fun o xp xa xq xb wr => ∃ (f p a q b : Nat) (D : List (List Int)) (v0 : Value), v0 = o ∧ xp = .int .i64 p ∧ xa = .int .i64 a ∧ xq = .int .i64 q ∧ xb = .int .i64 b ∧ a + b ≤ f + 1 ∧ w.heap.size + 1 < wr.heap.size ∧ Hid (RowInv N S p a q b) ∧ Hid (D ++ ((rowsF f p a q b).tail).map rowI = T) ∧ OwnLL wr (w.heap.size + 1) v0 D ∧ Below w.heap.size w wr) (fun _ _ xa _ xb _ => (intOf xa + intOf xb).toNat)
    case atStart => exact ⟨N, 1, S, 1, M, _, v2, rfl, rfl, rfl, rfl, rfl, HF.out, by omega, HI, H0, ho2, hB2⟩
    case round =>
      obtain ⟨f, p, a, q, b, D, v0, rfl, rfl, rfl, rfl, rfl, hf, hsz, HR, HD, ho, hB⟩ := hrel
      clear ho2 hB2 H0 HI HF
      obtain ⟨hs, a1, bb1⟩ := HR.out.size HT.out
      have p1 := HR.out.p1
      have q1 := HR.out.q1
      have hle := HR.out.le
      have hab := (big_sum (a := a) (b := b) (p := p) (q := q) (n := N) (by omega) (by omega) (by omega) (by omega) hs)
      by_cases e : a = b
      · subst e
        have hE : D = T := by have := HD.out; rw [rowsF_stop rfl] at this; simpa using this
        subst hE
        have ho' : OwnLL wr w.heap.size v0 D := ho.mono (by omega)
        have hne : ((a : Int) != a) = false := by simp
        clear ho HD HL
        go_wp2
        go_ret
        exact ⟨_, rfl, ho', hB⟩
      · obtain ⟨lt, hn1, hn2⟩ := HR.out.next HT.out e
        obtain ⟨f, rfl⟩ : ∃ g, f = g + 1 := ⟨f - 1, by omega⟩
        obtain ⟨bd1, bd2, bd3, bd4⟩ := HR.out.bd b1
        by_cases c0 : b < a
        · have c1 : (b : Int) < a := by omega
          have HD2 := rule_up (n := N) (s := S) c0 HD.out
          have hni := hn1 c0
          obtain ⟨c, hc⟩ : ∃ c, a - b = c := ⟨_, rfl⟩
          obtain ⟨r, hr⟩ : ∃ r, p + q = r := ⟨_, rfl⟩
          rw [hc, hr] at HD2 hni
          have hci : ((a : Int) - b) = c := by omega
          have hri : (p : Int) + q = r := by omega
          have HD3 := Lib.hid HD2
          have HN := Lib.hid hni
          have hlen : D.length ≤ 61 := by
            have := HL.out
            rw [← HD2, List.length_append, List.length_append] at this
            omega
          have HLn : Hid (D.length = D.length) := rfl
          clear HD HD2 hni HR hs hab hn1 hn2
          have hr4 := row4 wr wr.heap.size r c q b (Nat.le_refl _)
          have hBr : Below wr.heap.size wr (wr.alloc (.cells #[.int .i64 (r : Int), .int .i64 (c : Int), .int .i64 (q : Int), .int .i64 (b : Int)] 3)) := (Below.refl _ _).alloc (Nat.le_refl _) _
          have hne : ((a : Int) != b) = true := by simp; omega
          go_wp2_with (at_builtin; refine append_row rfl _ _ rfl (w.heap.size + 1) _ D D.length HLn (by omega) rfl ho hBr (by omega) hr4 (wr.heap.size + 1) (by simp) rfl ?_)
          intro v5 w5 ho5 hn5 hb5
          have hB5 : Below w.heap.size w w5 := hB.trans ((hBr.mono (by omega)).trans (hb5.mono (by omega)))
          have hz5 := hb5.size
          simp at hz5
          clear ho hB hb5 hr4 hBr
          go_wp2_with fail
          go_roundw
          case rel => exact ⟨f, r, c, q, b, _, v5, rfl, rfl, rfl, rfl, rfl, by omega, by omega, HN.out, HD3.out, ho5, hB5⟩
          case measure => simp only [intOf]; omega
        · have c0' : a < b := by omega
          have c1 : decide ((b : Int) < a) = false := by simp; omega
          have HD2 := rule_down (n := N) (s := S) c0' HD.out
          have hni := hn2 c0'
          obtain ⟨c, hc⟩ : ∃ c, b - a = c := ⟨_, rfl⟩
          obtain ⟨r, hr⟩ : ∃ r, p + q = r := ⟨_, rfl⟩
          rw [hc, hr] at HD2 hni
          have hci : ((b : Int) - a) = c := by omega
          have hri : (p : Int) + q = r := by omega
          have HD3 := Lib.hid HD2
          have HN := Lib.hid hni
          have hlen : D.length ≤ 61 := by
            have := HL.out
            rw [← HD2, List.length_append, List.length_append] at this
            omega
          have HLn : Hid (D.length = D.length) := rfl
          clear HD HD2 hni HR hs hab hn1 hn2
          have hr4 := row4 wr wr.heap.size p a r c (Nat.le_refl _)
          have hBr : Below wr.heap.size wr (wr.alloc (.cells #[.int .i64 (p : Int), .int .i64 (a : Int), .int .i64 (r : Int), .int .i64 (c : Int)] 3)) := (Below.refl _ _).alloc (Nat.le_refl _) _
          have hne : ((a : Int) != b) = true := by simp; omega
          go_wp2_with (at_builtin; refine append_row rfl _ _ rfl (w.heap.size + 1) _ D D.length HLn (by omega) rfl ho hBr (by omega) hr4 (wr.heap.size + 1) (by simp) rfl ?_)
          intro v5 w5 ho5 hn5 hb5
          have hB5 : Below w.heap.size w w5 := hB.trans ((hBr.mono (by omega)).trans (hb5.mono (by omega)))
          have hz5 := hb5.size
          simp at hz5
          clear ho hB hb5 hr4 hBr
          go_wp2_with fail
          go_roundw
          case rel => exact ⟨f, p, a, r, c, _, v5, rfl, rfl, rfl, rfl, rfl, by omega, by omega, HN.out, HD3.out, ho5, hB5⟩
          case measure => simp only [intOf]; omega
  · 
    rw [ruleF_no ht]
    have ht' : tok n s = false := by simpa using ht
    go_enter Try.func18, Try.ntmps18
    go_wp2_with fail
    refine (specTurnOk_any _ _ _).mono ?_; rintro e w1 ⟨rfl, hb1⟩
    have hz1 := hb1.size
    try simp at hz1
    have t1 : Two w1 (w.heap.size) (.int .i64 n) (.int .i64 s) 24 := Two.below (by repeat (first | assumption | exact Two.new' _ _ _ _ _ (by simp) | refine Two.alloc ?_ _ | refine Two.drewN ?_ _)) hb1 (by first | omega | (simp <;> omega))
    have hlt1 : (w.heap.size) < w1.heap.size := t1.lt
    have hnt1 : ¬ (w.heap.size) = w1.heap.size := Nat.ne_of_lt hlt1
    have t1c := t1.cell0
    have t1d := t1.cell1
    rw [ht']
    have hn1 := hnil.below hb1
    go_wp2
    go_ret
    exact ⟨_, rfl, hn1.mono (b' := w.heap.size) (by omega), (by repeat (first | exact Below.refl _ _ | assumption | (refine Below.trans ?_ (Below.mono (by assumption) (by first | omega | (simp <;> omega)))) | (refine Below.alloc ?_ (by first | omega | (simp <;> omega)) _) | (refine below_drewN ?_ _) | (refine Below.drew ?_) | (refine Below.setCell ?_ (by first | omega | (simp <;> omega)) _)))⟩
end Go.Proofs.Ytejofckfnieolaa
