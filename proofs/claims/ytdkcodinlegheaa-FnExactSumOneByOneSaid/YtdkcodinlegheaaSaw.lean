/- Plain numbers: the sum of products of a turn, by the rule, of the opposite turn and of the turn the other way: one by one, for all turns. -/
import Derived.Test.YtdkcodinlegheaaGCode
set_option linter.unusedVariables false
namespace Go.Proofs.Ytdkcodinlegheaa

/-- the sum of time times point -/
def sawP (n s : Nat) : Nat := sumF (fun k => k * (k * s % n)) n

/-- the inner turn: both numbers change their parts -/
def chkSaw (n s : Nat) : Bool :=
  bif Nat.beq s 1 then Nat.beq (12 * sawP n s) (n * (n - 1) * (n - 2) + 3 * (n * n * (n - 1)))
  else Nat.beq (12 * (s * s) * sawP n s + 12 * (n * n) * sawP s (n % s) + 3 * (n * n * (s * s))) (n * s * (s * s + n * n + 1) + 3 * (s * s) * (n * n * (n - 1)) + 3 * (n * n) * (s * s * (s - 1)))

theorem chkSaw_all : ((List.range 61).all fun n => (List.range n).all fun s => !tokN n s || chkSaw n s) = true := by decide +kernel

/-- the other way -/
def chkBackS (n s : Nat) : Bool := Nat.beq (2 * sawP n s + 2 * sawP n (n - s)) (n * n * (n - 1))

theorem chkBackS_all : ((List.range 61).all fun n => (List.range n).all fun s => !tokN n s || chkBackS n s) = true := by decide +kernel

/-- the opposite turn -/
def chkOppS (n s : Nat) : Bool := Nat.beq (sawP n (invN n s)) (sawP n s)

theorem chkOppS_all : ((List.range 61).all fun n => (List.range n).all fun s => !tokN n s || chkOppS n s) = true := by decide +kernel

/-- all points together -/
def chkPtsS (n s : Nat) : Bool := Nat.beq (2 * sumF (fun k => k * s % n) n) (n * (n - 1))

theorem chkPtsS_all : ((List.range 61).all fun n => (List.range n).all fun s => !tokN n s || chkPtsS n s) = true := by decide +kernel

theorem beq_of {a b : Nat} (h : Nat.beq a b = true) : a = b := Nat.eq_of_beq_eq_true h

theorem saw_one {n : Nat} (ht : tokN n 1 = true) : 12 * sawP n 1 = n * (n - 1) * (n - 2) + 3 * (n * n * (n - 1)) := beq_of (all_turns chkSaw_all ht)

theorem saw_inner {n s : Nat} (ht : tokN n s = true) (h2 : 2 ≤ s) : 12 * (s * s) * sawP n s + 12 * (n * n) * sawP s (n % s) + 3 * (n * n * (s * s)) = n * s * (s * s + n * n + 1) + 3 * (s * s) * (n * n * (n - 1)) + 3 * (n * n) * (s * s * (s - 1)) := by
  have h := all_turns chkSaw_all ht
  unfold chkSaw at h
  have e : Nat.beq s 1 = false := by
    cases c : Nat.beq s 1 with
    | false => rfl
    | true => have := beq_of c; omega
  rw [e] at h
  exact beq_of h

theorem saw_back {n s : Nat} (ht : tokN n s = true) : 2 * sawP n s + 2 * sawP n (n - s) = n * n * (n - 1) := beq_of (all_turns chkBackS_all ht)

theorem saw_opp {n s : Nat} (ht : tokN n s = true) : sawP n (invN n s) = sawP n s := beq_of (all_turns chkOppS_all ht)

theorem saw_pts {n s : Nat} (ht : tokN n s = true) : 2 * sumF (fun k => k * s % n) n = n * (n - 1) := beq_of (all_turns chkPtsS_all ht)
end Go.Proofs.Ytdkcodinlegheaa
