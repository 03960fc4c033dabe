/- Contracts of the two rules of remainders (commonDivisor, l1Common) and of l1In. When a turn is one: the contracts of TurnOk, of the program and of the model. What every law's row needs: closed facts on the program, and the contract of toTurn. -/
import Derived.Test.YtokmmbmkfpfmgaaRows
import Derived.WalkKit
import Derived.ProofKit
import Derived.Outline
import Derived.LoopTactic
import Derived.Deep.QuietTactic
import Derived.BigQuiet
import Derived.Below
import Derived.Lib.Hide
import Derived.Deep.RegionHeld3
import Derived.StillTailTactics
import Derived.OpenShut
import Derived.ShutString
import Derived.ChangeOld
import Derived.Lib.SmallJoins
namespace Go.Proofs.Ytokmmbmkfpfmgaa
set_option maxRecDepth 4000
open Go.ChangeShapes Go.WideShapes Go.ChangeAt Go.RowKit

theorem bcell {W w1 : World} (hb : Below W.heap.size W w1) : (∀ b o, b < W.heap.size → w1.cell? ⟨b, o, none⟩ = W.cell? ⟨b, o, none⟩) ∧ (∀ b o, b < W.heap.size → w1.frozen? ⟨b, o, none⟩ = W.frozen? ⟨b, o, none⟩) :=
  ⟨fun b o h => hb.cell (p := ⟨b, o, none⟩) h, fun b o h => hb.frozen (p := ⟨b, o, none⟩) h⟩

theorem ret_int {k : IntKind} {a b : Int} (h : a = b) : Ending.returned (.int k a) = .returned (.int k b) := by rw [h]

theorem ret_bool {a b : Bool} (h : a = b) : Ending.returned (.bool a) = .returned (.bool b) := by rw [h]

set_option maxHeartbeats 400000 in
theorem l1In_any (n lo hi : Int) (w : World) :
    Calls Try.prog 41 #[.int .i64 n, .int .i64 lo, .int .i64 hi] w fun e w' => e = .returned (.bool (decide (lo ≤ n) && decide (n ≤ hi))) ∧ w = w' := by
  by_cases h : lo ≤ n
  · go_enter Try.func41, Try.ntmps41
    go_wp2
    go_ret
    exact ⟨ret_bool (by simp [h]), rfl⟩
  · have h' : decide (lo ≤ n) = false := by simpa using h
    go_enter Try.func41, Try.ntmps41
    go_wp2
    go_ret
    exact ⟨ret_bool (by simp), rfl⟩

theorem gcd_step (a b : Nat) : Nat.gcd b (a % b) = Nat.gcd a b := by
  rw [Nat.gcd_comm b, ← Nat.gcd_rec, Nat.gcd_comm]

set_option maxHeartbeats 400000 in
theorem common_any (a b : Int) (w : World) (ha0 : 0 ≤ a) (ha : a ≤ 1000000) (hb0 : 0 ≤ b) (hb : b ≤ 1000000) :
    Calls Try.prog 55 #[.int .i64 a, .int .i64 b] w fun e w' => e = .returned (.int .i64 (Nat.gcd a.toNat b.toNat)) ∧ ∃ n, w' = w.drewN n := by
  obtain ⟨a, rfl⟩ := Int.eq_ofNat_of_zero_le ha0
  obtain ⟨b, rfl⟩ := Int.eq_ofNat_of_zero_le hb0
  simp only [Int.toNat_natCast]
  go_enter Try.func55, Try.ntmps55
  go_wp2
  go_loopw [0, 1] (fun x y wr => ∃ c d n : Nat, x = .int .i64 c ∧ y = .int .i64 d ∧ c ≤ 1000000 ∧ d ≤ 1000000 ∧ Hid (Nat.gcd c d = Nat.gcd a b) ∧ wr = w.drewN n) (fun _ y _ => (intOf y).toNat)
  case atStart => exact ⟨a, b, 0, rfl, rfl, by omega, by omega, rfl, rfl⟩
  case round =>
    obtain ⟨c, d, n, rfl, rfl, hc, hd, hg, rfl⟩ := hrel
    by_cases h0 : d = 0
    · subst h0
      go_wp2
      go_ret
      exact ⟨ret_int (by have := hg.out; simp at this; omega), n, rfl⟩
    · have hne : ((d : Int) != 0) = true := by rw [bne_iff_ne]; omega
      have hpos : (0:Int) < d := by omega
      go_wp2
      go_quiet (fail)
      go_wp2
      have hlt := Int.emod_lt_of_pos (c : Int) hpos
      have hlt' := Nat.mod_lt c (show 0 < d by omega)
      go_roundw
      case rel => exact ⟨d, c % d, n + nq, rfl, by simp, hd, by omega, (gcd_step c d).trans hg.out, by simp⟩
      case measure => simp only [intOf]; omega

set_option maxHeartbeats 400000 in
theorem l1Common_any (a b : Int) (w : World) (ha0 : 0 ≤ a) (ha : a ≤ 1000000) (hb0 : 0 ≤ b) (hb : b ≤ 1000000) :
    Calls Try.prog 43 #[.int .i64 a, .int .i64 b] w fun e w' => e = .returned (.int .i64 (Nat.gcd a.toNat b.toNat)) ∧ w = w' := by
  obtain ⟨a, rfl⟩ := Int.eq_ofNat_of_zero_le ha0
  obtain ⟨b, rfl⟩ := Int.eq_ofNat_of_zero_le hb0
  simp only [Int.toNat_natCast]
  go_enter Try.func43, Try.ntmps43
  go_wp2
  go_loop [0, 1] (fun x y => ∃ c d : Nat, x = .int .i64 c ∧ y = .int .i64 d ∧ c ≤ 1000000 ∧ d ≤ 1000000 ∧ Hid (Nat.gcd c d = Nat.gcd a b)) (fun _ y => (intOf y).toNat)
  case atStart => exact ⟨a, b, rfl, rfl, by omega, by omega, rfl⟩
  case round =>
    obtain ⟨c, d, rfl, rfl, hc, hd, hg⟩ := hrel
    by_cases h0 : d = 0
    · subst h0
      go_wp2
      go_ret
      exact ⟨ret_int (by have := hg.out; simp at this; omega), rfl⟩
    · have hpos : (0:Int) < d := by omega
      go_wp2
      have hlt := Int.emod_lt_of_pos (c : Int) hpos
      have hlt' := Nat.mod_lt c (show 0 < d by omega)
      go_round
      case rel => exact ⟨d, c % d, rfl, by simp, hd, by omega, (gcd_step c d).trans hg.out⟩
      case measure => simp only [intOf]; omega
end Go.Proofs.Ytokmmbmkfpfmgaa

namespace Go.Proofs.Ytokmmbmkfpfmgaa
open Go.ChangeShapes Go.WideShapes Go.ChangeAt Go.RowKit

/-- is it a turn -/
def tok (n s : Int) : Bool := decide (2 ≤ n) && decide (n ≤ 60) && decide (1 ≤ s) && decide (s < n) && decide (Nat.gcd n.toNat s.toNat = 1)

theorem tok_iff (n s : Int) : tok n s = true ↔ 2 ≤ n ∧ n ≤ 60 ∧ 1 ≤ s ∧ s < n ∧ Nat.gcd n.toNat s.toNat = 1 := by
  unfold tok; simp [and_assoc]

theorem tok_no {n s : Int} (h : ¬ (2 ≤ n ∧ n ≤ 60 ∧ 1 ≤ s ∧ s < n)) : tok n s = false := by
  rw [Bool.eq_false_iff]; intro h'; rw [tok_iff] at h'; omega

theorem tok_gcd {n s : Int} (h1 : 2 ≤ n) (h2 : n ≤ 60) (h3 : 1 ≤ s) (h4 : s < n) : tok n s = decide (Nat.gcd n.toNat s.toNat = 1) := by
  unfold tok; simp [h1, h2, h3, h4]

theorem below_drewN {B : Nat} {a w : World} (h : Below B a w) (n : Nat) : Below B a (w.drewN n) := h.trans ⟨rfl, rfl, rfl, Nat.le_refl _, fun _ _ => rfl⟩

theorem gcd_beq (g : Nat) : (((g : Nat) : Int) == 1) = decide (g = 1) := by
  rw [Bool.eq_iff_iff]; simp; omega

set_option maxHeartbeats 1000000 in
theorem turnOk_any (n s : Int) (w : World) :
    Calls Try.prog 44 #[(.agg #[.int .i64 (n), .int .i64 (s)])] w fun e w' => e = .returned (.bool (tok n s)) ∧ Below w.heap.size w w' := by
  go_enter Try.func44, Try.ntmps44
  go_wp2_with (go_at_call 55; refine (common_any _ _ _ (by omega) (by omega) (by omega) (by omega)).mono ?_; rintro e w' ⟨rfl, nq, rfl⟩)
  all_goals go_ret
  all_goals first | refine ⟨ret_bool ?_, (Below.refl _ _).alloc (Nat.le_refl _) _⟩ | refine ⟨ret_bool ?_, below_drewN ((Below.refl _ _).alloc (Nat.le_refl _) _) nq⟩
  all_goals first | exact (tok_no (by omega)).symm | exact (gcd_beq _).trans (tok_gcd (by omega) (by omega) (by omega) (by omega)).symm

set_option maxHeartbeats 1000000 in
theorem specTurnOk_any (n s : Int) (w : World) :
    Calls Try.prog 18 #[(.agg #[.int .i64 (n), .int .i64 (s)])] w fun e w' => e = .returned (.bool (tok n s)) ∧ Below w.heap.size w w' := by
  go_enter Try.func18, Try.ntmps18
  go_wp2_with (first | (go_at_call 43; refine (l1Common_any _ _ _ (by omega) (by omega) (by omega) (by omega)).mono ?_; rintro e w' ⟨rfl, rfl⟩) | go_in)
  all_goals go_ret
  all_goals refine ⟨ret_bool ?_, (Below.refl _ _).alloc (Nat.le_refl _) _⟩
  all_goals first | exact (tok_no (by omega)).symm | exact (gcd_beq _).trans (tok_gcd (by omega) (by omega) (by omega) (by omega)).symm
end Go.Proofs.Ytokmmbmkfpfmgaa

namespace Go.Proofs.Ytokmmbmkfpfmgaa
open Go.ChangeShapes Go.WideShapes Go.ChangeAt Go.RowKit Go.Joins

theorem own : ownKnob Try.prog.godebug = none := by kernel_rfl

theorem laidOut : laidOutB Try.prog = true := by kernel_rfl

def IsRow (k : IntKind) (w : World) (a : Option Addr) (len cap : Nat) (zs : List Int) : Prop :=
  (a = none ∧ len = 0 ∧ cap = 0 ∧ zs = []) ∨
  ∃ x, a = some x ∧ len ≤ cap ∧ cap ≤ maxLen ∧ zs.length = cap ∧ (∀ i, i < zs.length → w.cell? (x.add i) = some (.int k (zs.getD i 0))) ∧ ∀ n ∈ zs, (Lit.int k n).wf = true

theorem wf_i64 {n : Int} (h : (Lit.int .i64 n).wf = true) : -9223372036854775808 ≤ n ∧ n ≤ 9223372036854775807 := by
  simp [Lit.wf, IntKind.min, IntKind.max, IntKind.bits, IntKind.signed] at h
  omega

set_option maxHeartbeats 400000 in
theorem toTurn_any (n s : Int) (w : World) :
    Calls Try.prog 36 #[(.agg #[.int .i64 (n), .int .i64 (s)])] w fun e w' => e = .returned (.agg #[.int .i64 (n), .int .i64 (s)]) ∧ Below w.heap.size w w' := by
  go_enter Try.func36, Try.ntmps36
  go_wp2
  exact bodyPost_ret (v := (.agg #[.int .i64 (n), .int .i64 (s)])) (by simp [results, Try.results36, go_sem]) rfl ⟨rfl, (by repeat (first | exact Below.refl _ _ | assumption | (refine Below.trans ?_ (Below.mono (by assumption) (by first | omega | (simp <;> omega)))) | (refine Below.alloc ?_ (by first | omega | (simp <;> omega)) _) | (refine below_drewN ?_ _) | (refine Below.drew ?_) | (refine Below.setCell ?_ (by first | omega | (simp <;> omega)) _)))⟩

end Go.Proofs.Ytokmmbmkfpfmgaa
