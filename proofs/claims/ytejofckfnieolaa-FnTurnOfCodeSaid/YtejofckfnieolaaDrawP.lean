/- Contracts of DrawTurnOfCode, DrawOnesUpTo and DrawPartsOf. -/
import Derived.Test.YtejofckfnieolaaDrawC
import Derived.Deep.Cut
set_option linter.unusedVariables false
namespace Go.Proofs.Ytejofckfnieolaa

set_option maxRecDepth 4000
open Go.ChangeShapes Go.WideShapes Go.ChangeAt Go.RowKit Go.Joins

/-- a turn and a number come back -/
def DTJPost (w : World) (e : Ending) (w' : World) : Prop :=
  ∃ (n s k : Int), e = .returned (.tuple #[(.agg #[.int .i64 (n), .int .i64 (s)]), .int .i64 k]) ∧ -2 ≤ n ∧ n ≤ 100 ∧ -2 ≤ s ∧ s ≤ 100 ∧ -3000 ≤ k ∧ k ≤ 3000 ∧ Below w.heap.size w w'

/-- a text of at most 100 bytes comes back -/
def DSPost (w : World) (e : Ending) (w' : World) : Prop := ∃ u : ByteArray, e = .returned (.string u) ∧ u.size ≤ 100 ∧ Below w.heap.size w w'

set_option maxHeartbeats 2000000 in
theorem drawTurnOfCode_any (a : Option Addr) (len cap : Nat) (w : World) (hc : CodeIn w a len cap) (hl : len ≤ 1048576) :
    Calls Try.prog 36 #[.slice a len cap] w (DSPost w) := by
  go_enter Try.func36, Try.ntmps36
  go_wp2_with fail
  refine (l20Open_any a len cap _ hc hl).mono ?_; rintro e w1 ⟨r, rfl, hr, hr1, hb1⟩
  go_wp2_with fail
  refine (pick_any r 0 3 _ hr1 (by omega) (by omega) (by omega)).mono ?_; rintro e w2 ⟨v2, rfl, a2, b2, hr2, ho2, hs2⟩
  have hB2 := hb1.trans (ho2.below hr hb1.size)
  have hzr := hr2.lt
  clear hr1 ho2 hb1 hs2
  by_cases h0 : v2 = 0
  · subst h0
    go_wp2_with fail
    refine (l20Code_any r _ 6 _ hr2 (by omega) (by omega) (by omega)).mono ?_
    rintro e w3 ⟨u, q, rfl, hu, q0, q1, hr3, ho3⟩
    have hB3 := hB2.trans (ho3.below hr hB2.size)
    go_wp2
    go_ret
    exact ⟨_, rfl, hu, hB3⟩
  · have h0' : (v2 == 0) = false := by simpa using h0
    go_wp2_with fail
    refine (l20Turn_any r _ 0 _ hr2 (by omega) (by omega) (by omega)).mono ?_
    rintro e w3 ⟨n, s, q, rfl, n0, n1, s0, s1, q0, q1, hr3, ho3⟩
    have hB3 := hB2.trans (ho3.below hr hB2.size)
    have hz3 := hr3.lt
    have t4 : Two (w3.alloc (.cells #[.int .i64 n, .int .i64 s] 24)) w3.heap.size (.int .i64 n) (.int .i64 s) 24 := Two.new _ _ _ _
    have hB4 := hB3.alloc hB3.size (.cells #[.int .i64 n, .int .i64 s] 24)
    have hr4 := hr3.alloc (.cells #[.int .i64 n, .int .i64 s] 24)
    have hT : w3.heap.size ≠ r := by omega
    clear hr3 ho3 hB3
    go_wp2_with fail
    generalize w3.alloc (.cells #[.int .i64 n, .int .i64 s] 24) = w4 at *
    generalize w3.heap.size = T at *
    have c0 := t4.cell0
    have c1 := t4.cell1
    go_region_held3 (fun w' => w'.cell? ⟨T, 0, none⟩ = some (.int .i64 n) ∧ w'.cell? ⟨T, 1, none⟩ = some (.int .i64 s))
      (first | go_keep | exact ⟨c0', c1'⟩)
      (first
        | (go_at_call 55; refine (pick_any r _ _ _ (by assumption) (by omega) (by omega) (by omega)).mono ?_; rintro e w' ⟨v, rfl, a, b, r', o', s'⟩; have t' := o'.two (by assumption : Two _ T (.int .i64 n) (.int .i64 s) 24) hT; have c0' := t'.cell0; have c1' := t'.cell1)
        | (go_at_call 57; refine (specCodeOf_any _ _ _ _ _).mono ?_; rintro e w' ⟨rfl, b'⟩; have t' := Two.below (b := T) (x := .int .i64 n) (y := .int .i64 s) (T := 24) (by assumption) b' (Two.lt (by assumption : Two _ T (.int .i64 n) (.int .i64 s) 24)); have c0' := t'.cell0; have c1' := t'.cell1))
    have hs9 : ∀ x y, (txtB (codeF n s x y)).size ≤ 60 := fun x y => by rw [txtB_size]; exact codeF_len _ _ _ _
    have hB5 := hB4.trans ((OnlyR.drewN (OnlyR.refl r _) 1).trans o' |>.below (by omega : w.heap.size ≤ r) hB4.size)
    have hB9 := hB5.trans (b'.mono hB5.size)
    go_wp2
    go_ret
    exact ⟨_, rfl, Nat.le_trans (hs9 _ _) (by omega), hB9⟩
end Go.Proofs.Ytejofckfnieolaa
