/- Contracts of chapter 10's functions of the model: sums of products. -/
import Derived.Test.YtdkcodinlegheaaSumF
import Derived.Test.YtdkcodinlegheaaInns
import Derived.BigQuiet
set_option linter.unusedVariables false
namespace Go.Proofs.Ytdkcodinlegheaa

set_option maxRecDepth 4000
open Go.ChangeShapes Go.WideShapes Go.ChangeAt Go.RowKit Go.Joins

theorem mul_abs {x y : Int} {A B : Nat} (hx : x.natAbs ≤ A) (hy : y.natAbs ≤ B) : (x * y).natAbs ≤ A * B := by rw [Int.natAbs_mul]; exact Nat.mul_le_mul hx hy

theorem mod_cast10 (a b : Nat) : (a : Int).tmod (b : Int) = ((a % b : Nat) : Int) := by rw [Int.tmod_eq_emod_of_nonneg (by omega)]; simp

set_option maxHeartbeats 2000000 in
theorem specSawOf_any (n s : Int) (w : World) :
    Calls Try.prog 27 #[(.agg #[.int .i64 (n), .int .i64 (s)])] w fun e w' => e = .returned (.tuple #[.int .i64 (sawF n s), .bool (tok n s)]) ∧ Below w.heap.size w w' := by
  
  by_cases ht : tok n s = true
  · obtain ⟨N, S, rfl, rfl, hN⟩ := tokN_of ht
    
    obtain ⟨b1, b2, b3, b4, _⟩ := tokN_bd hN
    rw [sawF_yes hN, ht]
    have HBd : Hid (∀ k, k < N → -(k * 3600 : Int) ≤ sawS N S k ∧ sawS N S k ≤ k * 3600) := fun k hk => sawS_bd (by omega) b2 k hk
    have HSu : Hid (∀ K, 1 ≤ K → sawS N S K = sawS N S (K - 1) + (2 * (K : Int) - N) * (2 * ((K * S % N : Nat) : Int) - N)) := fun K hK => by
      obtain ⟨k, rfl⟩ : ∃ k, K = k + 1 := ⟨K - 1, by omega⟩
      rw [sawS_succ, Nat.add_sub_cancel]
    have HTe : Hid (∀ K, 1 ≤ K → K < N → -3600 ≤ (2 * (K : Int) - N) * (2 * ((K * S % N : Nat) : Int) - N) ∧ (2 * (K : Int) - N) * (2 * ((K * S % N : Nat) : Int) - N) ≤ 3600) := fun K hK hKN => by
      obtain ⟨k, rfl⟩ : ∃ k, K = k + 1 := ⟨K - 1, by omega⟩
      exact saw_term (by omega) b2 k hKN
    have HV : Hid (sawS N S (N - 1) = sawV N S) := rfl
    have H0 : Hid (sawS N S 0 = 0) := rfl
    clear hN
    go_enter Try.func27, Try.ntmps27
    go_wp2_with fail
    refine (specTurnOk_any _ _ _).mono ?_; rintro e w1 ⟨rfl, hb1⟩
    have hz1 := hb1.size
    try simp at hz1
    have t1 : Two w1 (w.heap.size) (.int .i64 N) (.int .i64 S) 29 := Two.below (by repeat (first | assumption | exact Two.new' _ _ _ _ _ (by simp) | refine Two.alloc ?_ _ | refine Two.drewN ?_ _)) hb1 (by first | omega | (simp <;> omega))
    have hlt1 : (w.heap.size) < w1.heap.size := t1.lt
    have hnt1 : ¬ (w.heap.size) = w1.heap.size := Nat.ne_of_lt hlt1
    have t1c := t1.cell0
    have t1d := t1.cell1
    rw [ht]
    have hB1 : Below w.heap.size w w1 := (by repeat (first | exact Below.refl _ _ | assumption | (refine Below.trans ?_ (Below.mono (by assumption) (by first | omega | (simp <;> omega)))) | (refine Below.alloc ?_ (by first | omega | (simp <;> omega)) _) | (refine below_drewN ?_ _) | (refine Below.drew ?_) | (refine Below.setCell ?_ (by first | omega | (simp <;> omega)) _)))
    clear hb1 ht
    go_wp2_with fail
    go_loopw [4, 5] (fun x y wr => ∃ K q : Nat, x = .int .i64 (sawS N S (K - 1)) ∧ y = .int .i64 K ∧ 1 ≤ K ∧ K ≤ N ∧ wr = w1.drewN q) (fun _ y _ => N - (intOf y).toNat)
    case atStart => exact ⟨1, 0, by rw [Nat.sub_self, H0.out], rfl, by omega, by omega, rfl⟩
    case round =>
      obtain ⟨K, q, rfl, rfl, hK1, hKN, rfl⟩ := hrel
      have c0 : (w1.drewN q).cell? ⟨w.heap.size, 0, none⟩ = some (.int .i64 (N : Int)) := t1c
      have c1 : (w1.drewN q).cell? ⟨w.heap.size, 1, none⟩ = some (.int .i64 (S : Int)) := t1d
      by_cases hlt : K < N
      · have hlt' : (K : Int) < N := by omega
        have hbd := HBd.out (K - 1) (by omega)
        have hte := HTe.out K hK1 hlt
        have hsu := Lib.hid (HSu.out K hK1)
        have hp := Nat.mod_lt (K * S) (show 0 < N by omega)
        have hks : K * S ≤ 60 * 60 := Nat.mul_le_mul (by omega) (by omega)
        have w1' : IntKind.i64.wrap (2 * (K : Int)) = 2 * (K : Int) := IntWalk.i64_in _ (by omega)
        have w2' : IntKind.i64.wrap (2 * (K : Int) - N) = 2 * (K : Int) - N := IntWalk.i64_in _ (by omega)
        have w3' : IntKind.i64.wrap ((K : Int) * (S : Int)) = ((K * S : Nat) : Int) := by rw [← Int.natCast_mul]; exact IntWalk.i64_in _ (by omega)
        have d1 := mod_cast10 (K * S) N
        have d1' : ((K * S : Nat) : Int) % (N : Int) = ((K * S % N : Nat) : Int) := by simp
        have hN0 : ¬ (N : Int) = 0 := by omega
        generalize K * S % N = p at *
        generalize K * S = ks at *
        have w4' : IntKind.i64.wrap (2 * (p : Int)) = 2 * (p : Int) := IntWalk.i64_in _ (by omega)
        have w5' : IntKind.i64.wrap (2 * (p : Int) - N) = 2 * (p : Int) - N := IntWalk.i64_in _ (by omega)
        have w6' : IntKind.i64.wrap ((2 * (K : Int) - N) * (2 * (p : Int) - N)) = (2 * (K : Int) - N) * (2 * (p : Int) - N) := IntWalk.i64_in _ (by omega)
        have w7' : IntKind.i64.wrap (sawS N S (K - 1) + (2 * (K : Int) - N) * (2 * (p : Int) - N)) = sawS N S (K - 1) + (2 * (K : Int) - N) * (2 * (p : Int) - N) := IntWalk.i64_in _ (by omega)
        generalize sawS N S (K - 1) = F at *
        clear hbd hte
        go_wp2_with fail
        go_quiet (fail)
        go_wp2_with fail
        go_roundw
        case rel => exact ⟨K + 1, q + nq, by rw [Nat.add_sub_cancel, hsu.out], by go_num, by omega, by omega, by simp⟩
        case measure => simp only [intOf]; omega
      · have hlt' : decide ((K : Int) < N) = false := by simp; omega
        obtain rfl : K = N := by omega
        rw [HV.out]
        go_wp2
        refine bodyPost_ret (v := .tuple #[.int .i64 _, .bool true]) (by simp [results, Try.results27, go_sem]; rfl) rfl ?_
        exact ⟨rfl, below_drewN hB1 q⟩
  · 
    have ht' : tok n s = false := by simpa using ht
    rw [sawF_no ht, ht']
    go_enter Try.func27, Try.ntmps27
    go_wp2_with fail
    refine (specTurnOk_any _ _ _).mono ?_; rintro e w1 ⟨rfl, hb1⟩
    have hz1 := hb1.size
    try simp at hz1
    have t1 : Two w1 (w.heap.size) (.int .i64 n) (.int .i64 s) 29 := Two.below (by repeat (first | assumption | exact Two.new' _ _ _ _ _ (by simp) | refine Two.alloc ?_ _ | refine Two.drewN ?_ _)) hb1 (by first | omega | (simp <;> omega))
    have hlt1 : (w.heap.size) < w1.heap.size := t1.lt
    have hnt1 : ¬ (w.heap.size) = w1.heap.size := Nat.ne_of_lt hlt1
    have t1c := t1.cell0
    have t1d := t1.cell1
    rw [ht']
    go_wp2
    refine bodyPost_ret (v := .tuple #[.int .i64 0, .bool false]) (by simp [results, Try.results27, go_sem]) rfl ?_
    exact ⟨rfl, (by repeat (first | exact Below.refl _ _ | assumption | (refine Below.trans ?_ (Below.mono (by assumption) (by first | omega | (simp <;> omega)))) | (refine Below.alloc ?_ (by first | omega | (simp <;> omega)) _) | (refine below_drewN ?_ _) | (refine Below.drew ?_) | (refine Below.setCell ?_ (by first | omega | (simp <;> omega)) _)))⟩

/-- the numbers of the law of both numbers, and what they come to -/
theorem saw_calc {N S : Nat} (ht : tokN N S = true) (h2 : 2 ≤ S) (hi : tokN S (N % S) = true) :
    ((N : Int) * S).natAbs ≤ 3600 ∧ ((S : Int) * S).natAbs ≤ 3600 ∧ ((N : Int) * N).natAbs ≤ 3600 ∧ (3 * (N : Int) * S).natAbs ≤ 10800 ∧ (3 * (N : Int) * N).natAbs ≤ 10800 ∧ (3 * (S : Int) * S).natAbs ≤ 10800 ∧
    ((N : Int) * S * ((S : Int) * S + (N : Int) * N + 1 - 3 * (N : Int) * S)).natAbs ≤ 100000000 ∧ (3 * (N : Int) * N * sawV S (N % S)).natAbs ≤ 10000000000 ∧ (3 * (S : Int) * S * sawV N S).natAbs ≤ 10000000000 ∧ ¬ 3 * (S : Int) * S = 0 ∧
    ((N : Int) * S * ((S : Int) * S + (N : Int) * N + 1 - 3 * (N : Int) * S) - 3 * (N : Int) * N * sawV S (N % S)).tdiv (3 * (S : Int) * S) = sawV N S ∧
    3 * (S : Int) * S * sawV N S + 3 * (N : Int) * N * sawV S (N % S) = (N : Int) * S * ((S : Int) * S + (N : Int) * N + 1 - 3 * (N : Int) * S) := by
  obtain ⟨b1, b2, b3, b4, _⟩ := tokN_bd ht
  have hV := sawV_bd ht
  have hW := sawV_bd hi
  have e := sawV_inner ht h2 hi
  have a1 : ((N : Int) * S).natAbs ≤ 60 * 60 := mul_abs (by omega) (by omega)
  have a2 : ((S : Int) * S).natAbs ≤ 60 * 60 := mul_abs (by omega) (by omega)
  have a3 : ((N : Int) * N).natAbs ≤ 60 * 60 := mul_abs (by omega) (by omega)
  have a4 : (3 * (N : Int) * S).natAbs ≤ 180 * 60 := mul_abs (by omega) (by omega)
  have a5 : (3 * (N : Int) * N).natAbs ≤ 180 * 60 := mul_abs (by omega) (by omega)
  have a6 : (3 * (S : Int) * S).natAbs ≤ 180 * 60 := mul_abs (by omega) (by omega)
  have a7 : ((N : Int) * S * ((S : Int) * S + (N : Int) * N + 1 - 3 * (N : Int) * S)).natAbs ≤ (60 * 60) * 18001 := mul_abs a1 (by omega)
  have a8 : (3 * (N : Int) * N * sawV S (N % S)).natAbs ≤ (180 * 60) * 216000 := mul_abs a5 (by omega)
  have a9 : (3 * (S : Int) * S * sawV N S).natAbs ≤ (180 * 60) * 216000 := mul_abs a6 (by omega)
  have p : 0 < 3 * (S : Int) * S := Int.mul_pos (by omega) (by omega)
  refine ⟨a1, a2, a3, a4, a5, a6, by omega, by omega, by omega, by omega, ?_, e⟩
  rw [show (N : Int) * S * ((S : Int) * S + (N : Int) * N + 1 - 3 * (N : Int) * S) - 3 * (N : Int) * N * sawV S (N % S) = 3 * (S : Int) * S * sawV N S by omega]
  exact Int.mul_tdiv_cancel_left _ (by omega)

theorem saw_calc1 {N : Nat} (ht : tokN N 1 = true) : ((N : Int) * ((N : Int) - 1)).natAbs ≤ 3600 ∧ ((N : Int) * ((N : Int) - 1) * ((N : Int) - 2)).natAbs ≤ 216000 ∧ ((N : Int) * ((N : Int) - 1) * ((N : Int) - 2)).tdiv 3 = sawV N 1 := by
  obtain ⟨b1, b2, _⟩ := tokN_bd ht
  have e := sawV_one ht
  have a1 : ((N : Int) * ((N : Int) - 1)).natAbs ≤ 60 * 60 := mul_abs (by omega) (by omega)
  have a2 : ((N : Int) * ((N : Int) - 1) * ((N : Int) - 2)).natAbs ≤ (60 * 60) * 60 := mul_abs a1 (by omega)
  refine ⟨a1, by omega, ?_⟩
  rw [← e]
  exact Int.mul_tdiv_cancel_left _ (by omega)

set_option maxHeartbeats 1000000 in
theorem saw_byNo (n s : Int) (w : World) (ht : ¬ tok n s = true) :
    Calls Try.prog 33 #[(.agg #[.int .i64 (n), .int .i64 (s)])] w fun e w' => e = .returned (.tuple #[.int .i64 (sawF n s), .bool (tok n s)]) ∧ Below w.heap.size w w' := by
  
  have ht' : tok n s = false := by simpa using ht
  rw [sawF_no ht, ht']
  go_enter Try.func33, Try.ntmps33
  go_wp2_with fail
  refine (specTurnOk_any _ _ _).mono ?_; rintro e w1 ⟨rfl, hb1⟩
  have hz1 := hb1.size
  try simp at hz1
  have t1 : Two w1 (w.heap.size) (.int .i64 n) (.int .i64 s) 29 := Two.below (by repeat (first | assumption | exact Two.new' _ _ _ _ _ (by simp) | refine Two.alloc ?_ _ | refine Two.drewN ?_ _)) hb1 (by first | omega | (simp <;> omega))
  have hlt1 : (w.heap.size) < w1.heap.size := t1.lt
  have hnt1 : ¬ (w.heap.size) = w1.heap.size := Nat.ne_of_lt hlt1
  have t1c := t1.cell0
  have t1d := t1.cell1
  rw [ht']
  go_wp2
  refine bodyPost_ret (v := .tuple #[.int .i64 0, .bool false]) (by simp [results, Try.results33, go_sem]) rfl ?_
  exact ⟨rfl, (by repeat (first | exact Below.refl _ _ | assumption | (refine Below.trans ?_ (Below.mono (by assumption) (by first | omega | (simp <;> omega)))) | (refine Below.alloc ?_ (by first | omega | (simp <;> omega)) _) | (refine below_drewN ?_ _) | (refine Below.drew ?_) | (refine Below.setCell ?_ (by first | omega | (simp <;> omega)) _)))⟩

set_option maxHeartbeats 4000000 in
theorem saw_by (K : Nat) : ∀ (n s : Int) (w : World), n.toNat ≤ K →
    Calls Try.prog 33 #[(.agg #[.int .i64 (n), .int .i64 (s)])] w fun e w' => e = .returned (.tuple #[.int .i64 (sawF n s), .bool (tok n s)]) ∧ Below w.heap.size w w' := by
  induction K with
  | zero =>
    intro n s w hn
    exact saw_byNo n s w (fun h => by have := tok_bd h; omega)
  | succ K ih =>
    intro n s w hn
    by_cases ht : tok n s = true
    · obtain ⟨N, S, rfl, rfl, hN⟩ := tokN_of ht
      
      obtain ⟨b1, b2, b3, b4, _⟩ := tokN_bd hN
      rw [sawF_yes hN, ht]
      by_cases h1 : S = 1
      · have hN1 : tokN N 1 = true := by rw [← h1]; exact hN
        obtain ⟨a1, a2, e⟩ := saw_calc1 hN1
        have eS : sawV N S = sawV N 1 := by rw [h1]
        rw [eS]
        have hS1 : ((S : Int) == 1) = true := by rw [h1]; rfl
        have w1' : IntKind.i64.wrap ((N : Int) - 1) = (N : Int) - 1 := IntWalk.i64_in _ (by omega)
        have w2' : IntKind.i64.wrap ((N : Int) * ((N : Int) - 1)) = (N : Int) * ((N : Int) - 1) := IntWalk.i64_in _ (by omega)
        have w3' : IntKind.i64.wrap ((N : Int) - 2) = (N : Int) - 2 := IntWalk.i64_in _ (by omega)
        have w4' : IntKind.i64.wrap ((N : Int) * ((N : Int) - 1) * ((N : Int) - 2)) = (N : Int) * ((N : Int) - 1) * ((N : Int) - 2) := IntWalk.i64_in _ (by omega)
        have e' := e
        have hvb := sawV_bd hN1
        generalize sawV N 1 = V at *
        have hwV : IntKind.i64.wrap V = V := IntWalk.i64_in _ (by omega)
        clear a1 a2 ih hN hN1 eS h1 hvb
        go_enter Try.func33, Try.ntmps33
        go_wp2_with fail
        refine (specTurnOk_any _ _ _).mono ?_; rintro e w1 ⟨rfl, hb1⟩
        have hz1 := hb1.size
        try simp at hz1
        have t1 : Two w1 (w.heap.size) (.int .i64 N) (.int .i64 S) 29 := Two.below (by repeat (first | assumption | exact Two.new' _ _ _ _ _ (by simp) | refine Two.alloc ?_ _ | refine Two.drewN ?_ _)) hb1 (by first | omega | (simp <;> omega))
        have hlt1 : (w.heap.size) < w1.heap.size := t1.lt
        have hnt1 : ¬ (w.heap.size) = w1.heap.size := Nat.ne_of_lt hlt1
        have t1c := t1.cell0
        have t1d := t1.cell1
        rw [ht]
        go_wp2
        refine bodyPost_ret (v := .tuple #[.int .i64 V, .bool true]) (by simp [results, Try.results33, go_sem]) rfl ?_
        exact ⟨rfl, (by repeat (first | exact Below.refl _ _ | assumption | (refine Below.trans ?_ (Below.mono (by assumption) (by first | omega | (simp <;> omega)))) | (refine Below.alloc ?_ (by first | omega | (simp <;> omega)) _) | (refine below_drewN ?_ _) | (refine Below.drew ?_) | (refine Below.setCell ?_ (by first | omega | (simp <;> omega)) _)))⟩
      · have h2 : 2 ≤ S := by omega
        have hi := tok_inner hN h2
        obtain ⟨a1, a2, a3, a4, a5, a6, a7, a8, a9, a10, a11, a12⟩ := saw_calc hN h2 hi
        have hV := sawV_bd hN
        have hI := Lib.hid (fun w => specInnerTurn_any (N : Int) (S : Int) w)
        unfold InnPost at hI
        rw [innF_yes ht (by omega), innP_yes ht (by omega)] at hI
        have hm : (N : Int) % (S : Int) = ((N % S : Nat) : Int) := by simp
        have hR := Lib.hid (fun w => ih (S : Int) ((N % S : Nat) : Int) w (by omega))
        rw [sawF_yes hi, tok_of_tokN hi] at hR
        dsimp only at hI
        rw [hm] at hI
        have hs1 : ((S : Int) == 1) = false := by simp; omega
        have hd := sawV_bd hi
        generalize N % S = R at *
        generalize sawV S R = D at *
        generalize sawV N S = V at *
        have w1' : IntKind.i64.wrap ((N : Int) * S) = (N : Int) * S := IntWalk.i64_in _ (by omega)
        have w2' : IntKind.i64.wrap ((S : Int) * S) = (S : Int) * S := IntWalk.i64_in _ (by omega)
        have w3' : IntKind.i64.wrap ((N : Int) * N) = (N : Int) * N := IntWalk.i64_in _ (by omega)
        have w4' : IntKind.i64.wrap ((S : Int) * S + (N : Int) * N) = (S : Int) * S + (N : Int) * N := IntWalk.i64_in _ (by omega)
        have w5' : IntKind.i64.wrap ((S : Int) * S + (N : Int) * N + 1) = (S : Int) * S + (N : Int) * N + 1 := IntWalk.i64_in _ (by omega)
        have w6' : IntKind.i64.wrap (3 * (N : Int)) = 3 * (N : Int) := IntWalk.i64_in _ (by omega)
        have w7' : IntKind.i64.wrap (3 * (N : Int) * S) = 3 * (N : Int) * S := IntWalk.i64_in _ (by omega)
        have w8' : IntKind.i64.wrap ((S : Int) * S + (N : Int) * N + 1 - 3 * (N : Int) * S) = (S : Int) * S + (N : Int) * N + 1 - 3 * (N : Int) * S := IntWalk.i64_in _ (by omega)
        have w9' : IntKind.i64.wrap ((N : Int) * S * ((S : Int) * S + (N : Int) * N + 1 - 3 * (N : Int) * S)) = (N : Int) * S * ((S : Int) * S + (N : Int) * N + 1 - 3 * (N : Int) * S) := IntWalk.i64_in _ (by omega)
        have wa' : IntKind.i64.wrap (3 * (N : Int) * N) = 3 * (N : Int) * N := IntWalk.i64_in _ (by omega)
        have wb' : IntKind.i64.wrap (3 * (N : Int) * N * D) = 3 * (N : Int) * N * D := IntWalk.i64_in _ (by omega)
        have wc' : IntKind.i64.wrap ((N : Int) * S * ((S : Int) * S + (N : Int) * N + 1 - 3 * (N : Int) * S) - 3 * (N : Int) * N * D) = (N : Int) * S * ((S : Int) * S + (N : Int) * N + 1 - 3 * (N : Int) * S) - 3 * (N : Int) * N * D := IntWalk.i64_in _ (by omega)
        have hwV : IntKind.i64.wrap V = V := IntWalk.i64_in _ (by omega)
        have wd' : IntKind.i64.wrap (3 * (S : Int)) = 3 * (S : Int) := IntWalk.i64_in _ (by omega)
        have we' : IntKind.i64.wrap (3 * (S : Int) * S) = 3 * (S : Int) * S := IntWalk.i64_in _ (by omega)
        clear a1 a2 a3 a4 a5 a6 a7 a8 a9 a12 ih hN hi hm hV hd
        go_enter Try.func33, Try.ntmps33
        go_wp2_with fail
        refine (specTurnOk_any _ _ _).mono ?_; rintro e w1 ⟨rfl, hb1⟩
        have hz1 := hb1.size
        try simp at hz1
        have t1 : Two w1 (w.heap.size) (.int .i64 N) (.int .i64 S) 29 := Two.below (by repeat (first | assumption | exact Two.new' _ _ _ _ _ (by simp) | refine Two.alloc ?_ _ | refine Two.drewN ?_ _)) hb1 (by first | omega | (simp <;> omega))
        have hlt1 : (w.heap.size) < w1.heap.size := t1.lt
        have hnt1 : ¬ (w.heap.size) = w1.heap.size := Nat.ne_of_lt hlt1
        have t1c := t1.cell0
        have t1d := t1.cell1
        rw [ht]
        go_wp2_with fail
        refine (hI.out _).mono ?_; rintro e w2 ⟨rfl, hb2⟩
        have hz2 := hb2.size
        try simp at hz2
        have t2 : Two w2 (w.heap.size) (.int .i64 N) (.int .i64 S) 29 := Two.below (by repeat (first | assumption | exact Two.new' _ _ _ _ _ (by simp) | refine Two.alloc ?_ _ | refine Two.drewN ?_ _)) hb2 (by first | omega | (simp <;> omega))
        have hlt2 : (w.heap.size) < w2.heap.size := t2.lt
        have hnt2 : ¬ (w.heap.size) = w2.heap.size := Nat.ne_of_lt hlt2
        have t2c := t2.cell0
        have t2d := t2.cell1
        have u3 := Two.new w2 (.int .i64 (S : Int)) (.int .i64 (R : Int)) 29
        have u3c := u3.cell0
        have u3d := u3.cell1
        have hB2 : Below w.heap.size w w2 := (by repeat (first | exact Below.refl _ _ | assumption | (refine Below.trans ?_ (Below.mono (by assumption) (by first | omega | (simp <;> omega)))) | (refine Below.alloc ?_ (by first | omega | (simp <;> omega)) _) | (refine below_drewN ?_ _) | (refine Below.drew ?_) | (refine Below.setCell ?_ (by first | omega | (simp <;> omega)) _)))
        have hB3 := hB2.alloc hB2.size (.cells #[.int .i64 (S : Int), .int .i64 (R : Int)] 29)
        go_wp2_with fail
        refine (hR.out _).mono ?_; rintro e w4 ⟨rfl, hb4⟩
        have hB4 := hB3.trans (hb4.mono hB3.size)
        have e' := a11
        go_wp2_with fail
        try go_quiet (fail)
        go_wp2
        refine bodyPost_ret (v := .tuple #[.int .i64 V, .bool true]) (by simp [results, Try.results33, go_sem]) rfl ?_
        exact ⟨rfl, by first | exact hB4 | exact below_drewN hB4 _⟩
    · exact saw_byNo n s w ht

theorem specSawBy_any (n s : Int) (w : World) :
    Calls Try.prog 33 #[(.agg #[.int .i64 (n), .int .i64 (s)])] w fun e w' => e = .returned (.tuple #[.int .i64 (sawF n s), .bool (tok n s)]) ∧ Below w.heap.size w w' := saw_by n.toNat n s w (Nat.le_refl _)
end Go.Proofs.Ytdkcodinlegheaa
