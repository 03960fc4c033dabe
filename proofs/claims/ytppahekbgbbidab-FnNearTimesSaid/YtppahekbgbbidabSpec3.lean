/- Contracts of RecordsAbove, RecordsBelow, QuotientsOf and NearTimes of the model. -/
import Derived.Test.YtppahekbgbbidabGList
import Derived.Test.YtppahekbgbbidabFrom
set_option linter.unusedVariables false
namespace Go.Proofs.Ytppahekbgbbidab
open Go.ChangeShapes Go.WideShapes Go.ChangeAt Go.RowKit Go.Joins

theorem recSt_yes {up : Bool} {n s k : Nat} (h1 : 1 ≤ k) (h : if up then k * s % n < (recSt up n s k).1 else (recSt up n s k).1 < k * s % n) : recSt up n s (k + 1) = (k * s % n, (recSt up n s k).2 ++ [k]) := by
  rw [recSt_succ, recStep, if_pos ⟨h1, h⟩]

theorem recSt_no {up : Bool} {n s k : Nat} (h : ¬ (1 ≤ k ∧ if up then k * s % n < (recSt up n s k).1 else (recSt up n s k).1 < k * s % n)) : recSt up n s (k + 1) = recSt up n s k := by
  rw [recSt_succ, recStep, if_neg h]

theorem recSt_len (up : Bool) (n s k : Nat) : (recSt up n s k).2.length ≤ k := by
  induction k with
  | zero => simp [recSt]
  | succ k ih =>
    rw [recSt_succ, recStep]
    have key : ∀ (c : Prop) [Decidable c], (if c then (k * s % n, (recSt up n s k).2 ++ [k]) else recSt up n s k).2.length ≤ k + 1 := by
      intro c _
      split
      · simp; exact ih
      · omega
    exact key _

def recF (up : Bool) (n s : Int) : List Int := if tok n s = true then castL (recL up n.toNat s.toNat) else []

theorem recF_yes {up : Bool} {n s : Nat} (h : tokN n s = true) : recF up n s = castL (recL up n s) := by
  unfold recF; rw [if_pos (tok_of_tokN h)]; rfl

theorem recF_no {up : Bool} {n s : Int} (h : ¬ tok n s = true) : recF up n s = [] := if_neg h

theorem recF_len (up : Bool) (n s : Int) : (recF up n s).length ≤ 60 := by
  by_cases h : tok n s = true
  · obtain ⟨N, S, rfl, rfl, hN⟩ := tokN_of h
    have := tokN_bd hN
    rw [recF_yes hN, castL_len]
    have := recSt_len up N S N
    unfold recL
    omega
  · rw [recF_no h]; simp

set_option maxHeartbeats 2000000 in
theorem specRecordsAbove_any (n s : Int) (w : World) :
    Calls Try.prog 32 #[(.agg #[.int .i64 (n), .int .i64 (s)])] w (ListPost (recF true n s) w) := by
  
  have hnil := made_nil (w.alloc (.cells #[.int .i64 n, .int .i64 s] 24))
  rw [World.size_alloc] at hnil
  have ht0 : Two ((w.alloc (Obj.cells #[Value.int IntKind.i64 n, Value.int IntKind.i64 s] 24)).alloc (Obj.cells #[] 3)) w.heap.size (.int .i64 n) (.int .i64 s) 24 := (Two.new _ _ _ _).alloc _
  have hB0 : Below w.heap.size w ((w.alloc (Obj.cells #[Value.int IntKind.i64 n, Value.int IntKind.i64 s] 24)).alloc (Obj.cells #[] 3)) := (by repeat (first | exact Below.refl _ _ | assumption | (refine Below.trans ?_ (Below.mono (by assumption) (by first | omega | (simp <;> omega)))) | (refine Below.alloc ?_ (by first | omega | (simp <;> omega)) _) | (refine below_drewN ?_ _) | (refine Below.drew ?_) | (refine Below.setCell ?_ (by first | omega | (simp <;> omega)) _)))
  by_cases ht : tok n s = true
  · obtain ⟨N, S, rfl, rfl, hN⟩ := tokN_of ht
    obtain ⟨b1, b2, b3, b4, _⟩ := tokN_bd hN
    rw [recF_yes hN]
    have HT := Lib.hid ht
    clear ht hN
    go_enter Try.func32, Try.ntmps32
    go_wp2_with fail
    go_loopw [3, 4, 5] (fun o bst x wr => ∃ (k B : Nat) (v0 : Value), x = .int .i64 k ∧ v0 = o ∧ bst = .int .i64 B ∧ 1 ≤ k ∧ k ≤ N ∧ B ≤ 60 ∧ Hid ((recSt true N S k).1 = B) ∧ OwnL wr (w.heap.size + 1) v0 (castL (recSt true N S k).2) ∧ Two wr w.heap.size (.int .i64 N) (.int .i64 S) 24 ∧ Below w.heap.size w wr) (fun _ _ x _ => N - (intOf x).toNat)
    case atStart => exact ⟨1, N, _, rfl, rfl, rfl, by omega, by omega, by omega, by show _ = _; rfl, hnil, ht0, hB0⟩
    case round =>
      obtain ⟨k, B, v0, rfl, rfl, rfl, hk1, hk, hB60, HB, ho, t3, hB3⟩ := hrel
      clear hnil ht0 hB0
      have hl3 := t3.lt
      have t3c := t3.cell0
      have t3d := t3.cell1
      by_cases hkm : k < N
      · have hkm' : (k : Int) < N := by omega
        have m0 : 0 ≤ (k : Int) * S := Int.mul_nonneg (by omega) (by omega)
        have m1 : (k : Int) * S ≤ 60 * 60 := Int.mul_le_mul (by omega) (by omega) (by omega) (by omega)
        have eX : ((k * S % N : Nat) : Int) = (k : Int) * (S : Int) % (N : Int) := by simp
        have X1 : k * S % N < N := Nat.mod_lt _ (by omega)
        go_wp2_with fail
        refine (specTurnOk_any _ _ _).mono ?_; rintro e w4 ⟨rfl, hb4⟩
        rw [HT.out]
        have t4 := t3.below hb4 hl3
        have ho4 := ho.below hb4
        have hB4 := hB3.trans (hb4.mono hB3.size)
        have hl4 := t4.lt
        have t4c := t4.cell0
        have t4d := t4.cell1
        clear t3 ho hb4 t3c t3d
        by_cases c : k * S % N < B
        · have HS : Hid (recSt true N S (k + 1) = (k * S % N, (recSt true N S k).2 ++ [k])) := recSt_yes (by omega) (by rw [HB.out]; exact c)
          have c' : (k : Int) * (S : Int) % (N : Int) < (B : Int) := by rw [← eX]; exact Int.ofNat_lt.2 c
          have HL : Hid ((castL (recSt true N S k).2).length = (recSt true N S k).2.length) := by show _ = _; simp [castL]
          have hlen := recSt_len true N S k
          generalize (recSt true N S k).2 = L at *
          generalize (recSt true N S k).1 = B' at *
          generalize hX : k * S % N = X at *
          have HX := Lib.hid eX
          clear eX c hX HB
          go_wp2_with (at_builtin; refine append_int rfl _ _ rfl (w.heap.size + 1) v0 (castL L) L.length HL (by omega) rfl ho4 hl4 rfl ?_)
          intro v5 w5 ho5 hn5 hb5
          have t5 : Two w5 w.heap.size (.int .i64 N) (.int .i64 S) 24 := t4.below hb5 (by omega)
          have hB5 := hB4.trans (hb5.mono (by omega))
          have ho6 : OwnL w5 (w.heap.size + 1) v5 (castL (recSt true N S (k + 1)).2) := by rw [HS.out]; show OwnL _ _ _ (castL (L ++ [k])); rw [castL_snoc]; exact ho5
          clear ho4 t4 t4c t4d hb5 hB4 ho5
          go_wp2_with fail
          rw [← HX.out]
          go_roundw
          case rel => exact ⟨k + 1, X, v5, by go_num, rfl, rfl, by omega, by omega, by omega, by rw [HS.out]; rfl, ho6, t5, hB5⟩
          case measure => simp only [intOf]; omega
        · have HS : Hid (recSt true N S (k + 1) = recSt true N S k) := recSt_no (by rintro ⟨_, h⟩; rw [HB.out] at h; exact c h)
          have c' : decide ((k : Int) * (S : Int) % (N : Int) < (B : Int)) = false := by rw [← eX]; simp only [decide_eq_false_iff_not]; intro h; exact c (Int.ofNat_lt.1 h)
          have ho6 : OwnL w4 (w.heap.size + 1) v0 (castL (recSt true N S (k + 1)).2) := by rw [HS.out]; exact ho4
          have HB6 : Hid ((recSt true N S (k + 1)).1 = B) := by show _ = _; rw [HS.out]; exact HB.out
          clear ho4 eX c HB HS
          go_wp2_with fail
          go_roundw
          case rel => exact ⟨k + 1, B, v0, by go_num, rfl, rfl, by omega, by omega, by omega, HB6.out, ho6, t4, hB4⟩
          case measure => simp only [intOf]; omega
      · have hkm' : decide ((k : Int) < N) = false := by simp; omega
        obtain rfl : k = N := by omega
        have ho' : OwnL wr w.heap.size v0 (castL (recL true k S)) := OwnL.mono (b := w.heap.size + 1) ho (by omega)
        clear ho
        go_wp2
        go_ret
        exact ⟨_, rfl, ho', hB3⟩
  · rw [recF_no ht]
    have ht' : tok n s = false := by simpa using ht
    by_cases h1 : 1 < n
    · go_enter Try.func32, Try.ntmps32
      go_wp2_with fail
      go_loopw [3, 5] (fun o x wr => o = .slice (some ⟨w.heap.size + 1, 0, none⟩) 0 0 ∧ x = .int .i64 1 ∧ wr = ((w.alloc (Obj.cells #[Value.int IntKind.i64 n, Value.int IntKind.i64 s] 24)).alloc (Obj.cells #[] 3))) (fun _ _ _ => 0)
      case atStart => exact ⟨rfl, rfl, rfl⟩
      case round =>
        obtain ⟨rfl, rfl, rfl⟩ := hrel
        go_wp2_with fail
        refine (specTurnOk_any _ _ _).mono ?_; rintro e w1 ⟨rfl, hb1⟩
        have hz1 := hb1.size
        try simp at hz1
        have t1 : Two w1 (w.heap.size) (.int .i64 n) (.int .i64 s) 24 := Two.below (by repeat (first | assumption | exact Two.new' _ _ _ _ _ (by simp) | refine Two.alloc ?_ _ | refine Two.drewN ?_ _)) hb1 (by first | omega | (simp <;> omega))
        have hlt1 : (w.heap.size) < w1.heap.size := t1.lt
        have hnt1 : ¬ (w.heap.size) = w1.heap.size := Nat.ne_of_lt hlt1
        have t1c := t1.cell0
        have t1d := t1.cell1
        rw [ht']
        have hn1 := hnil.below hb1
        have hB1 := hB0.trans (hb1.mono hB0.size)
        go_wp2
        go_ret
        exact ⟨_, rfl, hn1.mono (b' := w.heap.size) (by omega), hB1⟩
    · have h1' : decide (1 < n) = false := by simpa using h1
      go_enter Try.func32, Try.ntmps32
      go_wp2_with fail
      go_loopw [3, 5] (fun o x wr => o = .slice (some ⟨w.heap.size + 1, 0, none⟩) 0 0 ∧ x = .int .i64 1 ∧ wr = ((w.alloc (Obj.cells #[Value.int IntKind.i64 n, Value.int IntKind.i64 s] 24)).alloc (Obj.cells #[] 3))) (fun _ _ _ => 0)
      case atStart => exact ⟨rfl, rfl, rfl⟩
      case round =>
        obtain ⟨rfl, rfl, rfl⟩ := hrel
        go_wp2
        go_ret
        exact ⟨_, rfl, hnil.mono (b' := w.heap.size) (by omega), hB0⟩

end Go.Proofs.Ytppahekbgbbidab
