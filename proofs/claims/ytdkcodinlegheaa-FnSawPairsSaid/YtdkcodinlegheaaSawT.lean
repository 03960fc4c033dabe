/- Sums of products of the opposite turn, the turn the other way and the inner turn, as the laws ask them. -/
import Derived.Test.YtdkcodinlegheaaSumF
import Derived.Test.YtdkcodinlegheaaPlaceF
import Derived.Test.YtdkcodinlegheaaGMath
import Derived.Test.YtdkcodinlegheaaGList
set_option linter.unusedVariables false
namespace Go.Proofs.Ytdkcodinlegheaa

set_option maxRecDepth 4000
open N

theorem sawF_opp {n s : Int} (ht : tok n s = true) : sawF n (invF n s) = sawF n s := by
  have h1 := tok_inv ht
  obtain ⟨N, S, rfl, rfl, hN⟩ := tokN_of ht
  have e : invF (N : Int) (S : Int) = ((invN N S : Nat) : Int) := rfl
  rw [e] at h1 ⊢
  obtain ⟨A, B, eA, eB, hA⟩ := tokN_of h1
  have eA' : N = A := by omega
  have eB' : invN N S = B := by omega
  subst eA' eB'
  rw [sawF_yes hN, sawF_yes hA, sawV_opp hN hA]

theorem sawF_back {n s : Int} (ht : tok n s = true) : sawF n (n - s) = - sawF n s := by
  have h1 : tok n (n - s) = true := by rw [tok_back]; exact ht
  obtain ⟨N, S, rfl, rfl, hN⟩ := tokN_of ht
  obtain ⟨b1, b2, b3, b4, _⟩ := tokN_bd hN
  rw [show (N : Int) - (S : Int) = ((N - S : Nat) : Int) by omega] at h1 ⊢
  obtain ⟨A, B, eA, eB, hA⟩ := tokN_of h1
  have eA' : N = A := by omega
  have eB' : N - S = B := by omega
  subst eA' eB'
  rw [sawF_yes hN, sawF_yes hA, sawV_back hN hA]

/-- all pairs -/
theorem saw_pairs {N S : Nat} (ht : tokN N S = true) : 4 * (N : Int) * ((invL (ptsL N S N) : Nat) : Int) + 3 * sawV N S = (N : Int) * ((N : Int) - 1) * ((N : Int) - 2) := by
  obtain ⟨b1, b2, _⟩ := tokN_bd ht
  have h := pairs_sum (n := (N : Int)) (s := (S : Int)) (by omega) N
  have hp := saw_pts ht
  have e1 : 2 * sumP N S N = (N : Int) * ((N : Int) - 1) := by
    have c : sumP N S N = ((sumF (fun k => k * S % N) N : Nat) : Int) := by
      unfold sumP
      rw [← sumI_cast]
      exact sumI_congr fun i hi => by simp [pt]
    have e : ((2 * sumF (fun k => k * S % N) N : Nat) : Int) = ((N * (N - 1) : Nat) : Int) := by rw [hp]
    rw [Int.natCast_mul, Int.natCast_mul, show ((N - 1 : Nat) : Int) = (N : Int) - 1 by omega] at e
    rw [c]; exact e
  have e2 : sumQ N S N = ((sawP N S : Nat) : Int) := by
    unfold sumQ sawP
    rw [← sumI_cast]
    exact sumI_congr fun i hi => by simp [pt]
  rw [e2] at h
  rw [sawV_eq ht]
  generalize ((sawP N S : Nat) : Int) = Q at *
  generalize ((invL (ptsL N S N) : Nat) : Int) = V at *
  generalize sumP (N : Int) (S : Int) N = P at *
  -- N V = (2 N - 1) P - 3 Q, 2 P = N (N - 1)
  have e3 : 4 * (N : Int) * V = 4 * ((N : Int) * V) := Int.mul_assoc ..
  have e4 : 4 * ((2 * (N : Int) - 1) * P) = 2 * ((2 * (N : Int) - 1) * ((N : Int) * ((N : Int) - 1))) := by rw [← e1, Int.mul_left_comm (2 * (N : Int) - 1) 2 P]; generalize (2 * (N : Int) - 1) * P = x; omega
  have x1 : (2 * (N : Int) - 1) * ((N : Int) * ((N : Int) - 1)) = 2 * ((N : Int) * ((N : Int) * N)) - 3 * ((N : Int) * N) + N := by
    rw [Int.sub_mul, Int.mul_sub (N : Int), Int.one_mul, Int.mul_one, Int.mul_sub (2 * (N : Int)), Int.mul_assoc 2, Int.mul_assoc 2]
    generalize (N : Int) * ((N : Int) * N) = u
    generalize (N : Int) * N = v
    omega
  have x2 : (N : Int) * N * ((N : Int) - 1) = (N : Int) * ((N : Int) * N) - (N : Int) * N := by rw [Int.mul_sub, Int.mul_one, Int.mul_assoc]
  have x3 : (N : Int) * ((N : Int) - 1) * ((N : Int) - 2) = (N : Int) * ((N : Int) * N) - 3 * ((N : Int) * N) + 2 * N := by
    rw [Int.mul_sub ((N : Int) * ((N : Int) - 1)), Int.mul_sub (N : Int), Int.mul_one, Int.sub_mul, Int.sub_mul, Int.mul_assoc]
    generalize (N : Int) * ((N : Int) * N) = u
    generalize (N : Int) * N = v at *
    omega
  rw [x1] at e4
  rw [x2, x3, e3, h]
  generalize (2 * (N : Int) - 1) * P = y at *
  generalize (N : Int) * ((N : Int) * N) = u at *
  generalize (N : Int) * N = v at *
  omega
end Go.Proofs.Ytdkcodinlegheaa
