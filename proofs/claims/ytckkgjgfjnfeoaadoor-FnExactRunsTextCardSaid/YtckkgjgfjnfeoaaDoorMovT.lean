/- Contracts of chapter 13's functions of the model: the moves of a turn. -/
import Derived.Test.YtckkgjgfjnfeoaaDoorMovS
set_option linter.unusedVariables false
namespace Go.Proofs.YtckkgjgfjnfeoaaDoor
set_option maxRecDepth 4000

set_option maxRecDepth 4000
open Go.ChangeShapes Go.WideShapes Go.ChangeAt Go.RowKit Go.Joins

theorem byte_app (u : List Bool) (b : Bool) : txtM u ++ (⟨#[byteM b]⟩ : ByteArray) = txtM (u ++ [b]) := by
  rw [← txtM_append]; rfl

set_option maxHeartbeats 2000000 in
theorem specMovesFor_any (n s : Int) (w : World) :
    Calls Tryd.prog 19 #[(.agg #[.int .i64 (n), .int .i64 (s)])] w fun e w' => e = .returned (.tuple #[.string (mfF n s), .bool (tok n s)]) ∧ Below w.heap.size w w' := by
  by_cases ht : tok n s = true
  · obtain ⟨N, S, rfl, rfl, hN⟩ := tokN_of ht
    have hb := tok_bd ht
    
    have hml := moves_le hN
    rw [mfF_yes hN, ht]
    obtain ⟨V, hV⟩ : ∃ V, movesN N S = V := ⟨_, rfl⟩
    have hV0 : Hid ([] ++ mvF N S (N - S) = V) := hV
    rw [hV] at hml ⊢
    have hSN : S < N := by omega
    have hS1 : 1 ≤ S := by omega
    have wd : IntKind.i64.wrap ((N : Int) - (S : Int)) = ((N - S : Nat) : Int) := by rw [show ((N : Int) - (S : Int)) = ((N - S : Nat) : Int) by omega]; exact IntWalk.i64_in _ (by omega)
    go_enter Tryd.func19, Tryd.ntmps19
    go_wp2_with fail
    refine (specTurnOk_any _ _ _).mono ?_; rintro e w1 ⟨rfl, hb1⟩
    have hz1 := hb1.size
    try simp at hz1
    have t1 : Two w1 (w.heap.size) (.int .i64 N) (.int .i64 S) 28 := Two.below (by repeat (first | assumption | exact Two.new' _ _ _ _ _ (by simp) | refine Two.alloc ?_ _ | refine Two.drewN ?_ _)) hb1 (by first | omega | (simp <;> omega))
    have hlt1 : (w.heap.size) < w1.heap.size := t1.lt
    have hnt1 : ¬ (w.heap.size) = w1.heap.size := Nat.ne_of_lt hlt1
    have t1c := t1.cell0
    have t1d := t1.cell1
    rw [ht]
    have hB1 : Below w.heap.size w w1 := (by repeat (first | exact Below.refl _ _ | assumption | (refine Below.trans ?_ (Below.mono (by assumption) (by first | omega | (simp <;> omega)))) | (refine Below.alloc ?_ (by first | omega | (simp <;> omega)) _) | (refine below_drewN ?_ _) | (refine Below.drew ?_) | (refine Below.setCell ?_ (by first | omega | (simp <;> omega)) _)))
    clear hV ht hN hb1
    go_wp2_with fail
    go_loopw [4, 5, 6] (fun xo xl xh wr => ∃ (u : List Bool) (f a b : Nat), xo = .string (txtM u) ∧ xl = .int .i64 a ∧ xh = .int .i64 b ∧ 1 ≤ a ∧ 1 ≤ b ∧ a + b ≤ f + 1 ∧ a + b ≤ 60 ∧ u.length ≤ 58 ∧ Hid (u ++ mvF f a b = V) ∧ Below w.heap.size w wr) (fun _ xl xh _ => (intOf xl + intOf xh).toNat)
    case atStart => exact ⟨[], N, S, N - S, rfl, rfl, by first | rfl | (congr 1; omega), by omega, by omega, by omega, by omega, by simp, hV0.out, hB1⟩
    case round =>
      obtain ⟨u, f, a, b, rfl, rfl, rfl, ha, hb, hf, h60, hu, HE, hBr⟩ := hrel
      clear hV0 wd t1 t1c t1d hB1
      have hsz := txtM_size u
      obtain ⟨f, rfl⟩ : ∃ g, f = g + 1 := ⟨f - 1, by omega⟩
      rcases Nat.lt_trichotomy a b with c | c | c
      · have HE' : Hid ((u ++ [false]) ++ mvF f a (b - a) = V) := by show _ = _; rw [← HE.out, mvF_down c, List.append_assoc]; rfl
        have hul : u.length + 1 ≤ 58 := by
          have := congrArg List.length HE'.out
          rw [List.length_append, List.length_append, List.length_singleton] at this
          omega
        have E : Hid (txtM u ++ ⟨#[76]⟩ = txtM (u ++ [false])) := byte_app u false
        have c1 : (a : Int) < (b : Int) := by omega
        have c2 : ((a : Int) != (b : Int)) = true := by simp; omega
        have c3 : ¬ (a : Int) = (b : Int) := by omega
        have c4 : ¬ a = b := by omega
        have wd : IntKind.i64.wrap ((b : Int) - (a : Int)) = ((b - a : Nat) : Int) := by rw [show ((b : Int) - (a : Int)) = ((b - a : Nat) : Int) by omega]; exact IntWalk.i64_in _ (by omega)
        clear HE
        go_wp2_with fail
        go_roundw
        case rel => exact ⟨u ++ [false], f, a, b - a, by rw [E.out], rfl, rfl, ha, by omega, by omega, by omega, by rw [List.length_append, List.length_singleton]; omega, HE'.out, hBr⟩
        case measure => simp only [intOf]; omega
      · subst c
        have HE' : Hid (u = V) := by show _ = _; rw [← HE.out, mvF_stop rfl, List.append_nil]
        rw [HE'.out]
        clear HE
        have c2 : ((a : Int) != (a : Int)) = false := by simp
        go_wp2
        refine bodyPost_ret (v := .tuple #[.string (txtM V), .bool true]) (by simp [results, Tryd.results19, go_sem]) rfl ?_
        exact ⟨rfl, hBr⟩
      · have HE' : Hid ((u ++ [true]) ++ mvF f (a - b) b = V) := by show _ = _; rw [← HE.out, mvF_up c, List.append_assoc]; rfl
        have hul : u.length + 1 ≤ 58 := by
          have := congrArg List.length HE'.out
          rw [List.length_append, List.length_append, List.length_singleton] at this
          omega
        have E : Hid (txtM u ++ ⟨#[82]⟩ = txtM (u ++ [true])) := byte_app u true
        have c1 : ¬ (a : Int) < (b : Int) := by omega
        have c1' : ¬ a < b := by omega
        have c2 : ((a : Int) != (b : Int)) = true := by simp; omega
        have c3 : ¬ (a : Int) = (b : Int) := by omega
        have c4 : ¬ a = b := by omega
        have wd : IntKind.i64.wrap ((a : Int) - (b : Int)) = ((a - b : Nat) : Int) := by rw [show ((a : Int) - (b : Int)) = ((a - b : Nat) : Int) by omega]; exact IntWalk.i64_in _ (by omega)
        clear HE
        go_wp2_with fail
        go_roundw
        case rel => exact ⟨u ++ [true], f, a - b, b, by rw [E.out], rfl, rfl, by omega, hb, by omega, by omega, by rw [List.length_append, List.length_singleton]; omega, HE'.out, hBr⟩
        case measure => simp only [intOf]; omega
  · have hf : tok n s = false := by simpa using ht
    rw [mfF_no ht, hf]
    
    go_enter Tryd.func19, Tryd.ntmps19
    go_wp2_with fail
    refine (specTurnOk_any _ _ _).mono ?_; rintro e w1 ⟨rfl, hb1⟩
    have hz1 := hb1.size
    try simp at hz1
    have t1 : Two w1 (w.heap.size) (.int .i64 n) (.int .i64 s) 28 := Two.below (by repeat (first | assumption | exact Two.new' _ _ _ _ _ (by simp) | refine Two.alloc ?_ _ | refine Two.drewN ?_ _)) hb1 (by first | omega | (simp <;> omega))
    have hlt1 : (w.heap.size) < w1.heap.size := t1.lt
    have hnt1 : ¬ (w.heap.size) = w1.heap.size := Nat.ne_of_lt hlt1
    have t1c := t1.cell0
    have t1d := t1.cell1
    rw [hf]
    go_wp2
    refine bodyPost_ret (v := .tuple #[.string ⟨#[]⟩, .bool false]) (by simp [results, Tryd.results19, go_sem]) rfl ?_
    exact ⟨rfl, (by repeat (first | exact Below.refl _ _ | assumption | (refine Below.trans ?_ (Below.mono (by assumption) (by first | omega | (simp <;> omega)))) | (refine Below.alloc ?_ (by first | omega | (simp <;> omega)) _) | (refine below_drewN ?_ _) | (refine Below.drew ?_) | (refine Below.setCell ?_ (by first | omega | (simp <;> omega)) _)))⟩
end Go.Proofs.YtckkgjgfjnfeoaaDoor
