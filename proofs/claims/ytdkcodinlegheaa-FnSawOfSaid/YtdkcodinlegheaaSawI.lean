/- Contracts of chapter 10's functions of the program: sums of products. -/
import Derived.Test.YtdkcodinlegheaaSawS
import Derived.Test.YtdkcodinlegheaaInn
import Derived.Test.YtdkcodinlegheaaGFun
set_option linter.unusedVariables false
namespace Go.Proofs.Ytdkcodinlegheaa

set_option maxRecDepth 4000
open Go.ChangeShapes Go.WideShapes Go.ChangeAt Go.RowKit Go.Joins

set_option maxHeartbeats 1000000 in
theorem saw1_any (N S k : Nat) (w : World) (a : Nat) (n2 : 2 ≤ N) (n60 : N ≤ 60) (s60 : S ≤ 60) (hk : k + 1 < N)
    (ha : Two w a (.int .i64 (N : Nat)) (.int .i64 (S : Nat)) 29) :
    Calls Try.prog 48 #[.int .i64 k, .pointer (some ⟨a, 0, none⟩)] w fun e w' => e = .returned (.int .i64 ((2 * ((k + 1 : Nat) : Int) - N) * (2 * (((k + 1) * S % N : Nat) : Int) - N))) ∧ Below w.heap.size w w' := by
  have hB0 := Below.refl w.heap.size w
  have c0 := ha.cell0
  have c1 := ha.cell1
  have hte := saw_term (n := N) (s := S) (by omega) n60 k hk
  have hpm := Nat.mod_lt ((k + 1) * S) (show 0 < N by omega)
  have hp := Lib.hid (fun w => pointAt_any (N : Int) (S : Int) ((k : Int) + 1) w (by omega) (by omega) (by omega) (by omega) (by omega) (by omega))
  have e : ((k : Int) + 1) * (S : Int) % (N : Int) = (((k + 1) * S % N : Nat) : Int) := by simp
  rw [e] at hp
  clear e
  have e2 : ((k + 1 : Nat) : Int) = (k : Int) + 1 := by omega
  rw [e2] at hte ⊢
  clear e2
  generalize (k + 1) * S % N = p at *
  have w0 : IntKind.i64.wrap ((k : Int) + 1) = (k : Int) + 1 := IntWalk.i64_in _ (by omega)
  have w1' : IntKind.i64.wrap (2 * ((k : Int) + 1)) = 2 * ((k : Int) + 1) := IntWalk.i64_in _ (by omega)
  have w2' : IntKind.i64.wrap (2 * ((k : Int) + 1) - N) = 2 * ((k : Int) + 1) - N := IntWalk.i64_in _ (by omega)
  have w4' : IntKind.i64.wrap (2 * (p : Int)) = 2 * (p : Int) := IntWalk.i64_in _ (by omega)
  have w5' : IntKind.i64.wrap (2 * (p : Int) - N) = 2 * (p : Int) - N := IntWalk.i64_in _ (by omega)
  have w6' : IntKind.i64.wrap ((2 * ((k : Int) + 1) - N) * (2 * (p : Int) - N)) = (2 * ((k : Int) + 1) - N) * (2 * (p : Int) - N) := IntWalk.i64_in _ (by omega)
  clear hte hpm
  go_enter Try.func48, Try.ntmps48
  go_wp2_with fail
  go_region_held3 (fun w' => w'.cell? ⟨a, 0, none⟩ = some (.int .i64 (N : Int)) ∧ w'.cell? ⟨a, 1, none⟩ = some (.int .i64 (S : Int)))
    (first | go_keep | exact ⟨a'c, a'd⟩)
    (first | (go_at_call 49; (with_reducible refine (hp.out _).mono ?_); rintro e w' ⟨rfl, hb'⟩; have a' := Two.below (show Two w.drew a _ _ _ from ha) hb' ha.lt; have a'c := a'.cell0; have a'd := a'.cell1))
  go_wp2
  go_ret
  exact ⟨rfl, (by repeat (first | exact Below.refl _ _ | assumption | (refine Below.trans ?_ (Below.mono (by assumption) (by first | omega | (simp <;> omega)))) | (refine Below.alloc ?_ (by first | omega | (simp <;> omega)) _) | (refine below_drewN ?_ _) | (refine Below.drew ?_) | (refine Below.setCell ?_ (by first | omega | (simp <;> omega)) _)))⟩

set_option maxHeartbeats 1000000 in
theorem sumSaw_any (N S : Nat) (w : World) (a : Nat) (n2 : 2 ≤ N) (n60 : N ≤ 60) (s60 : S ≤ 60)
    (ha : Two w a (.int .i64 (N : Nat)) (.int .i64 (S : Nat)) 29) :
    Calls Try.prog 44 #[.int .i64 ((N - 1 : Nat) : Int), .func (.func 48) #[] #[.pointer (some ⟨a, 0, none⟩)]] w fun e w' => e = .returned (.int .i64 (sawV N S)) ∧ Below w.heap.size w w' := by
  have HV := Lib.hid (fun (k : Nat) (wr : World) (hk : k + 1 < N) (hB' : Below w.heap.size w wr) => saw1_any N S k wr a n2 n60 s60 hk (ha.below hB' ha.lt))
  have HBd : Hid (∀ k, k < N → -(k * 3600 : Int) ≤ sawS N S k ∧ sawS N S k ≤ k * 3600) := fun k hk => sawS_bd (by omega) n60 k hk
  have HSu : Hid (∀ k, sawS N S (k + 1) = sawS N S k + (2 * ((k + 1 : Nat) : Int) - N) * (2 * (((k + 1) * S % N : Nat) : Int) - N)) := fun k => sawS_succ N S k
  have HTe : Hid (∀ k, k + 1 < N → -3600 ≤ (2 * ((k + 1 : Nat) : Int) - N) * (2 * (((k + 1) * S % N : Nat) : Int) - N) ∧ (2 * ((k + 1 : Nat) : Int) - N) * (2 * (((k + 1) * S % N : Nat) : Int) - N) ≤ 3600) := fun k hk => saw_term (by omega) n60 k hk
  have HV2 : Hid (sawS N S (N - 1) = sawV N S) := rfl
  have H0 : Hid (sawS N S 0 = 0) := rfl
  obtain ⟨M, hM⟩ : ∃ M, N = M + 1 := ⟨N - 1, by omega⟩
  rw [show N - 1 = M by omega]
  rw [show N - 1 = M by omega] at HV2
  have hB0 := Below.refl w.heap.size w
  clear ha
  go_enter Try.func44, Try.ntmps44
  go_wp2_with fail
  go_loopw [5, 8] (fun x y wr => ∃ k : Nat, x = .int .i64 (sawS N S k) ∧ y = .int .i64 k ∧ k ≤ M ∧ Below w.heap.size w wr) (fun _ y _ => M - (intOf y).toNat)
  case atStart => exact ⟨0, by rw [H0.out], rfl, by omega, hB0⟩
  case round =>
    obtain ⟨k, rfl, rfl, hk, hB'⟩ := hrel
    by_cases hkm : k < M
    · have hkm' : (k : Int) < M := by omega
      have hbd := HBd.out k (by omega)
      have hte := HTe.out k (by omega)
      have hS := Lib.hid (HSu.out k)
      have hcall := HV.out k wr (by omega) hB'
      generalize (2 * ((k + 1 : Nat) : Int) - N) * (2 * (((k + 1) * S % N : Nat) : Int) - N) = d at *
      generalize sawS N S k = F at *
      have hw3 : IntKind.i64.wrap (F + d) = F + d := IntWalk.i64_in _ (by omega)
      clear hbd hte
      go_wp2_with fail
      refine hcall.mono ?_; rintro e w2 ⟨rfl, hb2⟩
      have hB2 := hB'.trans (hb2.mono hB'.size)
      clear hb2 hcall hB'
      go_wp2_with fail
      go_roundw
      case rel => exact ⟨k + 1, by rw [hS.out], by go_num, by omega, hB2⟩
      case measure => simp only [intOf]; omega
    · have hkm' : decide ((k : Int) < M) = false := by simp; omega
      obtain rfl : k = M := by omega
      rw [HV2.out]
      go_wp2
      go_ret
      exact ⟨rfl, hB'⟩

set_option maxHeartbeats 2000000 in
theorem sawOf_any (n s : Int) (w : World) :
    Calls Try.prog 26 #[(.agg #[.int .i64 (n), .int .i64 (s)])] w fun e w' => e = .returned (.tuple #[.int .i64 (sawF n s), .bool (tok n s)]) ∧ Below w.heap.size w w' := by
  by_cases ht : tok n s = true
  · obtain ⟨N, S, rfl, rfl, hN⟩ := tokN_of ht
    
    obtain ⟨b1, b2, b3, b4, _⟩ := tokN_bd hN
    rw [sawF_yes hN, ht]
    have hw1 : IntKind.i64.wrap ((N : Int) - 1) = ((N - 1 : Nat) : Int) := by rw [show (N : Int) - 1 = ((N - 1 : Nat) : Int) by omega]; exact IntWalk.i64_in _ (by omega)
    have HS := Lib.hid (fun w a => sumSaw_any N S w a (by omega) b2 (by omega))
    clear hN
    go_enter Try.func26, Try.ntmps26
    go_wp2_with fail
    refine (turnOk_any _ _ _).mono ?_; rintro e w1 ⟨rfl, hb1⟩
    have hz1 := hb1.size
    try simp at hz1
    have t1 : Two w1 (w.heap.size) (.int .i64 N) (.int .i64 S) 29 := Two.below (by repeat (first | assumption | exact Two.new' _ _ _ _ _ (by simp) | refine Two.alloc ?_ _ | refine Two.drewN ?_ _)) hb1 (by first | omega | (simp <;> omega))
    have hlt1 : (w.heap.size) < w1.heap.size := t1.lt
    have hnt1 : ¬ (w.heap.size) = w1.heap.size := Nat.ne_of_lt hlt1
    have t1c := t1.cell0
    have t1d := t1.cell1
    rw [ht]
    have hB1 : Below w.heap.size w w1 := (by repeat (first | exact Below.refl _ _ | assumption | (refine Below.trans ?_ (Below.mono (by assumption) (by first | omega | (simp <;> omega)))) | (refine Below.alloc ?_ (by first | omega | (simp <;> omega)) _) | (refine below_drewN ?_ _) | (refine Below.drew ?_) | (refine Below.setCell ?_ (by first | omega | (simp <;> omega)) _)))
    clear hb1 ht
    go_wp2_with fail
    refine (HS.out _ _ t1).mono ?_; rintro e w2 ⟨rfl, hb2⟩
    have hB2 := hB1.trans (hb2.mono hB1.size)
    go_wp2
    refine bodyPost_ret (v := .tuple #[.int .i64 _, .bool true]) (by simp [results, Try.results26, go_sem]; rfl) rfl ?_
    exact ⟨rfl, hB2⟩
  · 
    have ht' : tok n s = false := by simpa using ht
    rw [sawF_no ht, ht']
    go_enter Try.func26, Try.ntmps26
    go_wp2_with fail
    refine (turnOk_any _ _ _).mono ?_; rintro e w1 ⟨rfl, hb1⟩
    have hz1 := hb1.size
    try simp at hz1
    have t1 : Two w1 (w.heap.size) (.int .i64 n) (.int .i64 s) 29 := Two.below (by repeat (first | assumption | exact Two.new' _ _ _ _ _ (by simp) | refine Two.alloc ?_ _ | refine Two.drewN ?_ _)) hb1 (by first | omega | (simp <;> omega))
    have hlt1 : (w.heap.size) < w1.heap.size := t1.lt
    have hnt1 : ¬ (w.heap.size) = w1.heap.size := Nat.ne_of_lt hlt1
    have t1c := t1.cell0
    have t1d := t1.cell1
    rw [ht']
    go_wp2
    refine bodyPost_ret (v := .tuple #[.int .i64 0, .bool false]) (by simp [results, Try.results26, go_sem]) rfl ?_
    exact ⟨rfl, (by repeat (first | exact Below.refl _ _ | assumption | (refine Below.trans ?_ (Below.mono (by assumption) (by first | omega | (simp <;> omega)))) | (refine Below.alloc ?_ (by first | omega | (simp <;> omega)) _) | (refine below_drewN ?_ _) | (refine Below.drew ?_) | (refine Below.setCell ?_ (by first | omega | (simp <;> omega)) _)))⟩

theorem saw_calcI {N S : Nat} (ht : tokN N S = true) (h2 : 2 ≤ S) (hi : tokN S (N % S) = true) :
    ((N : Int) * S).natAbs ≤ 3600 ∧ ((S : Int) * S).natAbs ≤ 3600 ∧ ((N : Int) * N).natAbs ≤ 3600 ∧
    ((N : Int) * S * ((N : Int) * N + (S : Int) * S + 1 - 3 * ((N : Int) * S))).natAbs ≤ 100000000 ∧ (3 * ((N : Int) * N) * sawV S (N % S)).natAbs ≤ 10000000000 ∧ ¬ 3 * ((S : Int) * S) = 0 ∧
    ((N : Int) * S * ((N : Int) * N + (S : Int) * S + 1 - 3 * ((N : Int) * S)) - 3 * ((N : Int) * N) * sawV S (N % S)).tdiv (3 * ((S : Int) * S)) = sawV N S := by
  obtain ⟨a1, a2, a3, a4, a5, a6, a7, a8, a9, a10, a11, a12⟩ := saw_calc ht h2 hi
  rw [Int.mul_assoc 3 (N : Int) N] at a8 a11
  rw [Int.mul_assoc 3 (S : Int) S] at a10 a11
  rw [Int.mul_assoc 3 (N : Int) S, Int.add_comm ((S : Int) * S)] at a7 a11
  exact ⟨a1, a2, a3, a7, a8, a10, a11⟩

set_option maxHeartbeats 4000000 in
theorem saw_byI (K : Nat) : ∀ (N S : Nat) (w : World), N ≤ K → tokN N S = true →
    Calls Try.prog 51 #[(.agg #[.int .i64 (N), .int .i64 (S)])] w fun e w' => e = .returned (.int .i64 (sawV N S)) ∧ Below w.heap.size w w' := by
  induction K with
  | zero =>
    intro N S w hn hN
    have := tokN_bd hN
    omega
  | succ K ih =>
    intro N S w hn hN
    have ht := tok_of_tokN hN
    have t0 : Two (w.alloc (.cells #[.int .i64 (N : Int), .int .i64 (S : Int)] 29)) w.heap.size (.int .i64 (N : Int)) (.int .i64 (S : Int)) 29 := Two.new _ _ _ _
    have c0 := t0.cell0
    have c1 := t0.cell1
    have hB0 : Below w.heap.size w (w.alloc (.cells #[.int .i64 (N : Int), .int .i64 (S : Int)] 29)) := (by repeat (first | exact Below.refl _ _ | assumption | (refine Below.trans ?_ (Below.mono (by assumption) (by first | omega | (simp <;> omega)))) | (refine Below.alloc ?_ (by first | omega | (simp <;> omega)) _) | (refine below_drewN ?_ _) | (refine Below.drew ?_) | (refine Below.setCell ?_ (by first | omega | (simp <;> omega)) _)))
    obtain ⟨b1, b2, b3, b4, _⟩ := tokN_bd hN
    have hI := Lib.hid (fun w => innerTurn_any (N : Int) (S : Int) w)
    by_cases h1 : S = 1
    · have hN1 : tokN N 1 = true := by rw [← h1]; exact hN
      obtain ⟨a1, a2, e⟩ := saw_calc1 hN1
      have eS : sawV N S = sawV N 1 := by rw [h1]
      rw [eS]
      unfold InnPost at hI
      rw [innF_no (fun h => by omega), innP_no (fun h => by omega)] at hI
      dsimp only at hI
      have w1' : IntKind.i64.wrap ((N : Int) - 1) = (N : Int) - 1 := IntWalk.i64_in _ (by omega)
      have w2' : IntKind.i64.wrap ((N : Int) * ((N : Int) - 1)) = (N : Int) * ((N : Int) - 1) := IntWalk.i64_in _ (by omega)
      have w3' : IntKind.i64.wrap ((N : Int) - 2) = (N : Int) - 2 := IntWalk.i64_in _ (by omega)
      have w4' : IntKind.i64.wrap ((N : Int) * ((N : Int) - 1) * ((N : Int) - 2)) = (N : Int) * ((N : Int) - 1) * ((N : Int) - 2) := IntWalk.i64_in _ (by omega)
      have e' := e
      have hvb := sawV_bd hN1
      generalize sawV N 1 = V at *
      have hwV : IntKind.i64.wrap V = V := IntWalk.i64_in _ (by omega)
      clear a1 a2 ih hN hN1 eS h1 hvb
      go_enter Try.func51, Try.ntmps51
      go_wp2_with fail
      generalize w.alloc (.cells #[.int .i64 (N : Int), .int .i64 (S : Int)] 29) = W at *
      refine (hI.out _).mono ?_; rintro e w1 ⟨rfl, hb1⟩
      have t1 := t0.below hb1 t0.lt
      have c10 := t1.cell0
      have c11 := t1.cell1
      have hB1 := hB0.trans (hb1.mono hB0.size)
      clear hb1 t0 c0 c1
      have q1 := t1.alloc (.cells #[.int .i64 0, .int .i64 0] 29)
      have q1c := q1.cell0
      have q1d := q1.cell1
      go_wp2
      go_ret
      exact ⟨rfl, hB1.alloc hB1.size _⟩
    · have h2 : 2 ≤ S := by omega
      have hi := tok_inner hN h2
      obtain ⟨a1, a2, a3, a7, a8, a10, a11⟩ := saw_calcI hN h2 hi
      have hV := sawV_bd hN
      unfold InnPost at hI
      rw [innF_yes ht (by omega), innP_yes ht (by omega)] at hI
      have hm : (N : Int) % (S : Int) = ((N % S : Nat) : Int) := by simp
      have hR := Lib.hid (fun w => ih S (N % S) w (by omega) hi)
      dsimp only at hI
      rw [hm] at hI
      have hd := sawV_bd hi
      generalize N % S = R at *
      generalize sawV S R = D at *
      generalize sawV N S = V at *
      have w1' : IntKind.i64.wrap ((N : Int) * S) = (N : Int) * S := IntWalk.i64_in _ (by omega)
      have w2' : IntKind.i64.wrap ((S : Int) * S) = (S : Int) * S := IntWalk.i64_in _ (by omega)
      have w3' : IntKind.i64.wrap ((N : Int) * N) = (N : Int) * N := IntWalk.i64_in _ (by omega)
      have w4' : IntKind.i64.wrap ((N : Int) * N + (S : Int) * S) = (N : Int) * N + (S : Int) * S := IntWalk.i64_in _ (by omega)
      have w5' : IntKind.i64.wrap ((N : Int) * N + (S : Int) * S + 1) = (N : Int) * N + (S : Int) * S + 1 := IntWalk.i64_in _ (by omega)
      have w6' : IntKind.i64.wrap (3 * ((N : Int) * S)) = 3 * ((N : Int) * S) := IntWalk.i64_in _ (by omega)
      have w8' : IntKind.i64.wrap ((N : Int) * N + (S : Int) * S + 1 - 3 * ((N : Int) * S)) = (N : Int) * N + (S : Int) * S + 1 - 3 * ((N : Int) * S) := IntWalk.i64_in _ (by omega)
      have wa' : IntKind.i64.wrap (3 * ((N : Int) * N)) = 3 * ((N : Int) * N) := IntWalk.i64_in _ (by omega)
      have we' : IntKind.i64.wrap (3 * ((S : Int) * S)) = 3 * ((S : Int) * S) := IntWalk.i64_in _ (by omega)
      have w9' : IntKind.i64.wrap ((N : Int) * S * ((N : Int) * N + (S : Int) * S + 1 - 3 * ((N : Int) * S))) = (N : Int) * S * ((N : Int) * N + (S : Int) * S + 1 - 3 * ((N : Int) * S)) := IntWalk.i64_in _ (by omega)
      have wb' : IntKind.i64.wrap (3 * ((N : Int) * N) * D) = 3 * ((N : Int) * N) * D := IntWalk.i64_in _ (by omega)
      have wc' : IntKind.i64.wrap ((N : Int) * S * ((N : Int) * N + (S : Int) * S + 1 - 3 * ((N : Int) * S)) - 3 * ((N : Int) * N) * D) = (N : Int) * S * ((N : Int) * N + (S : Int) * S + 1 - 3 * ((N : Int) * S)) - 3 * ((N : Int) * N) * D := IntWalk.i64_in _ (by omega)
      have hwV : IntKind.i64.wrap V = V := IntWalk.i64_in _ (by omega)
      clear a1 a2 a3 a7 a8 ih hN hi hm hV hd
      go_enter Try.func51, Try.ntmps51
      go_wp2_with fail
      generalize w.alloc (.cells #[.int .i64 (N : Int), .int .i64 (S : Int)] 29) = W at *
      refine (hI.out _).mono ?_; rintro e w1 ⟨rfl, hb1⟩
      have t1 := t0.below hb1 t0.lt
      have c10 := t1.cell0
      have c11 := t1.cell1
      have hB1 := hB0.trans (hb1.mono hB0.size)
      clear hb1 t0 c0 c1 hB0
      have hz := hB1.size
      have q1 := t1.alloc (.cells #[.int .i64 (S : Int), .int .i64 (R : Int)] 29)
      have q1c := q1.cell0
      have q1d := q1.cell1
      have u1 := Two.new w1 (.int .i64 (S : Int)) (.int .i64 (R : Int)) 29
      have u1c := u1.cell0
      have u1d := u1.cell1
      have hB2 := hB1.alloc hB1.size (.cells #[.int .i64 (S : Int), .int .i64 (R : Int)] 29)
      go_wp2_with fail
      try go_quiet (fail)
      go_wp2_with fail
      refine (hR.out _).mono ?_; rintro e w4 ⟨rfl, hb4⟩
      go_wp2_with fail
      try go_quiet (fail)
      go_wp2
      go_ret
      exact ⟨rfl, (by repeat (first | exact Below.refl _ _ | assumption | (refine Below.trans ?_ (Below.mono (by assumption) (by first | omega | (simp <;> omega)))) | (refine Below.alloc ?_ (by first | omega | (simp <;> omega)) _) | (refine below_drewN ?_ _) | (refine Below.drew ?_) | (refine Below.setCell ?_ (by first | omega | (simp <;> omega)) _)))⟩

set_option maxHeartbeats 1000000 in
theorem sawBy_any (n s : Int) (w : World) :
    Calls Try.prog 29 #[(.agg #[.int .i64 (n), .int .i64 (s)])] w fun e w' => e = .returned (.tuple #[.int .i64 (sawF n s), .bool (tok n s)]) ∧ Below w.heap.size w w' := by
  by_cases ht : tok n s = true
  · obtain ⟨N, S, rfl, rfl, hN⟩ := tokN_of ht
    
    rw [sawF_yes hN, ht]
    have HS := Lib.hid (fun w => saw_byI N N S w (Nat.le_refl _) hN)
    clear hN
    go_enter Try.func29, Try.ntmps29
    go_wp2_with fail
    refine (turnOk_any _ _ _).mono ?_; rintro e w1 ⟨rfl, hb1⟩
    have hz1 := hb1.size
    try simp at hz1
    have t1 : Two w1 (w.heap.size) (.int .i64 N) (.int .i64 S) 29 := Two.below (by repeat (first | assumption | exact Two.new' _ _ _ _ _ (by simp) | refine Two.alloc ?_ _ | refine Two.drewN ?_ _)) hb1 (by first | omega | (simp <;> omega))
    have hlt1 : (w.heap.size) < w1.heap.size := t1.lt
    have hnt1 : ¬ (w.heap.size) = w1.heap.size := Nat.ne_of_lt hlt1
    have t1c := t1.cell0
    have t1d := t1.cell1
    rw [ht]
    have hB1 : Below w.heap.size w w1 := (by repeat (first | exact Below.refl _ _ | assumption | (refine Below.trans ?_ (Below.mono (by assumption) (by first | omega | (simp <;> omega)))) | (refine Below.alloc ?_ (by first | omega | (simp <;> omega)) _) | (refine below_drewN ?_ _) | (refine Below.drew ?_) | (refine Below.setCell ?_ (by first | omega | (simp <;> omega)) _)))
    clear hb1 ht
    go_wp2_with fail
    refine (HS.out _).mono ?_; rintro e w2 ⟨rfl, hb2⟩
    have hB2 := hB1.trans (hb2.mono hB1.size)
    go_wp2
    refine bodyPost_ret (v := .tuple #[.int .i64 _, .bool true]) (by simp [results, Try.results29, go_sem]; rfl) rfl ?_
    exact ⟨rfl, hB2⟩
  · 
    have ht' : tok n s = false := by simpa using ht
    rw [sawF_no ht, ht']
    go_enter Try.func29, Try.ntmps29
    go_wp2_with fail
    refine (turnOk_any _ _ _).mono ?_; rintro e w1 ⟨rfl, hb1⟩
    have hz1 := hb1.size
    try simp at hz1
    have t1 : Two w1 (w.heap.size) (.int .i64 n) (.int .i64 s) 29 := Two.below (by repeat (first | assumption | exact Two.new' _ _ _ _ _ (by simp) | refine Two.alloc ?_ _ | refine Two.drewN ?_ _)) hb1 (by first | omega | (simp <;> omega))
    have hlt1 : (w.heap.size) < w1.heap.size := t1.lt
    have hnt1 : ¬ (w.heap.size) = w1.heap.size := Nat.ne_of_lt hlt1
    have t1c := t1.cell0
    have t1d := t1.cell1
    rw [ht']
    go_wp2
    refine bodyPost_ret (v := .tuple #[.int .i64 0, .bool false]) (by simp [results, Try.results29, go_sem]) rfl ?_
    exact ⟨rfl, (by repeat (first | exact Below.refl _ _ | assumption | (refine Below.trans ?_ (Below.mono (by assumption) (by first | omega | (simp <;> omega)))) | (refine Below.alloc ?_ (by first | omega | (simp <;> omega)) _) | (refine below_drewN ?_ _) | (refine Below.drew ?_) | (refine Below.setCell ?_ (by first | omega | (simp <;> omega)) _)))⟩
end Go.Proofs.Ytdkcodinlegheaa
