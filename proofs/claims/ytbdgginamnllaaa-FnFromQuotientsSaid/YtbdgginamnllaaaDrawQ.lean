/- Contract of DrawFromQuotients. -/
import Derived.Test.YtbdgginamnllaaaDraw4
import Derived.Test.YtbdgginamnllaaaQuot
set_option linter.unusedVariables false
namespace Go.Proofs.Ytbdgginamnllaaa

set_option maxRecDepth 4000
open Go.ChangeShapes Go.WideShapes Go.ChangeAt Go.RowKit Go.Joins

theorem OwnL.onlyR {w w' : World} {b r : Nat} {v : Value} {xs : List Int} (h : OwnL w b v xs) (ho : OnlyR r w w') (hr : r < b) : OwnL w' b v xs := by
  refine World.ownsRow.kept h (row := some r) ⟨ho.os, ho.tape, ho.output, ho.size, fun k hk hne => ho.block k hk (fun e => hne (by rw [e]))⟩ ?_
  cases e : v.ownBlock with
  | none => exact .inl rfl
  | some g =>
    right
    have := (World.ownsRow.lt h g e).1
    intro e2
    simp at e2
    omega

theorem count_bd (v1 v2 : Int) (h1 : 0 ≤ v1) (h2 : v1 < 5 ∨ v1 = 0) (h4 : 0 ≤ v2) (h5 : v2 < 30 ∨ v2 = 0) :
    0 ≤ IntKind.i64.wrap (v1 + IntKind.i64.wrap (IntKind.i64.wrap (v2.tdiv 29) * 6)) ∧ IntKind.i64.wrap (v1 + IntKind.i64.wrap (IntKind.i64.wrap (v2.tdiv 29) * 6)) ≤ 10 := by
  rw [Int.tdiv_eq_ediv_of_nonneg h4]
  rw [IntWalk.i64_in (v2 / 29) (by omega), IntWalk.i64_in (v2 / 29 * 6) (by omega), IntWalk.i64_in (v1 + v2 / 29 * 6) (by omega)]
  omega

def DQPost (w : World) (e : Ending) (w' : World) : Prop := ∃ v xs, e = .returned v ∧ OwnL w' w.heap.size v xs ∧ xs.length ≤ 60 ∧ Below w.heap.size w w'

set_option maxHeartbeats 4000000 in
theorem drawFromQuotients_any (a : Option Addr) (len cap : Nat) (w : World) (hc : CodeIn w a len cap) (hl : len ≤ 1048576) :
    Calls Try.prog 35 #[.slice a len cap] w (DQPost w) := by
  go_enter Try.func35, Try.ntmps35
  go_wp2_with fail
  refine (l20Open_any a len cap _ hc hl).mono ?_; rintro e w1 ⟨r, rfl, hr, hr1, hb1⟩
  have hz1 := hb1.size
  have hrl := hr1.lt
  go_wp2_with fail
  refine (pick_any r 0 2 _ hr1 (by omega) (by omega) (by omega)).mono ?_; rintro e w2 ⟨v2, rfl, a2, b2, hr2, ho2, hs2⟩
  have hB2 := hb1.trans (ho2.below hr hz1)
  have hrl2 := hr2.lt
  clear hr1 ho2 hb1
  by_cases h0 : v2 = 0
  · have h0' : (v2 == 0) = true := by simpa using h0
    go_wp2_with fail
    refine (l20Turn_any r _ 9 _ hr2 (by omega) (by omega) (by omega)).mono ?_
    rintro e w3 ⟨n, s, q, rfl, n0, n1, s0, s1, q0, q1, hr3, ho3⟩
    have hB3 := hB2.trans (ho3.below hr hB2.size)
    go_wp2_with fail
    refine (specQuotientsOf_any _ _ _).mono ?_; rintro e w4 ⟨v4, rfl, ho4, hb4⟩
    have hB4 := hB3.trans (hb4.mono hB3.size)
    have hlen := quotF_len n s
    have ho5 : OwnL w4 w.heap.size v4 (quotF n s) := ho4.mono hB3.size
    go_wp2
    go_ret
    exact ⟨_, _, rfl, ho5, by omega, hB4⟩
  · have h0' : (v2 == 0) = false := by simpa using h0
    have hnil := made_nil w2
    have hr3 : Rd (w2.alloc (.cells #[] 3)) r _ := hr2.alloc (.cells #[] 3)
    have hB3 : Below w.heap.size w (w2.alloc (.cells #[] 3)) := hB2.alloc hB2.size _
    have hsz3 : (w2.alloc (.cells #[] 3)).heap.size = w2.heap.size + 1 := by simp
    go_wp2_with fail
    refine (pick_any r _ 5 _ hr3 (by omega) (by omega) (by omega)).mono ?_; rintro e w4 ⟨v4, rfl, a4, b4, hr4, ho4, hs4⟩
    have hn4 := hnil.onlyR ho4 hrl2
    have hB4 := hB3.trans (ho4.below hr hB3.size)
    clear hnil hr3 hr2 ho4 hB3
    go_wp2_with fail
    refine (pick_any r _ 30 _ hr4 (by omega) (by omega) (by omega)).mono ?_; rintro e w5 ⟨v5, rfl, a5, b5, hr5, ho5, hs5⟩
    have hn5 := hn4.onlyR ho5 hrl2
    have hB5 := hB4.trans (ho5.below hr hB4.size)
    clear hn4 hr4 ho5 hB4
    have hz5 : w1.heap.size < w5.heap.size := by omega
    rw [hs2] at hn5
    have k0 : 0 ≤ v4 + v5 / 29 * 6 := by omega
    have k1 : v4 + v5 / 29 * 6 ≤ 10 := by omega
    clear hs4 hs5 hsz3 hs2 hrl2 hB2
    go_wp2_with fail
    generalize v4 + v5 / 29 * 6 = K at *
    clear b4 b5 a4 a5
    go_loopw [4, 5] (fun y kk wr => ∃ (k p : Int) (v0 : Value) (xs : List Int), kk = .int .i64 k ∧ v0 = y ∧ 0 ≤ k ∧ k ≤ 10 ∧ (xs.length : Int) + k ≤ 10 ∧ 0 ≤ p ∧ p ≤ 23 - 2 * k ∧ w1.heap.size < wr.heap.size ∧ Rd wr r p ∧ OwnL wr w1.heap.size v0 xs ∧ Below w.heap.size w wr) (fun _ kk _ => (intOf kk).toNat)
    case atStart => exact ⟨K, 0 + 1 + 1 + 1, _, [], rfl, rfl, by omega, by omega, by simp; omega, by omega, by omega, hz5, hr5, hn5, hB5⟩
    case round =>
      obtain ⟨k, p, v0, xs, rfl, rfl, hk0, hk1, hx, hp0, hp1, hsz, hrd, ho, hB⟩ := hrel
      clear hr5 hn5 hB5
      by_cases hk : k = 0
      · subst hk
        have hk' : decide ((0 : Int) < 0) = false := by decide
        have ho' : OwnL wr w.heap.size v0 xs := OwnL.mono (b := w1.heap.size) ho hz1
        go_wp2
        go_ret
        exact ⟨_, _, rfl, ho', by omega, hB⟩
      · have hk' : (0 : Int) < k := by omega
        have hsz0 := hB.size
        go_wp2_with fail
        refine (pick_any r p 4 _ hrd (by omega) (by omega) (by omega)).mono ?_; rintro e w6 ⟨v6, rfl, a6, b6, hr6, ho6, hs6⟩
        have hn6 := ho.onlyR ho6 hrl
        have hB6 := hB.trans (ho6.below hr hsz0)
        have hz6 : w1.heap.size < w6.heap.size := by omega
        clear ho6 ho hrd hB hs6
        go_wp2_with fail
        refine (pick_any r (p + 1) 40 _ hr6 (by omega) (by omega) (by omega)).mono ?_; rintro e w7 ⟨v7, rfl, a7, b7, hr7, ho7, hs7⟩
        have hn7 := hn6.onlyR ho7 hrl
        have hB7 := hB6.trans (ho7.below hr hB6.size)
        have hz7 : w1.heap.size < w7.heap.size := by omega
        have hz7' : w1.heap.size ≤ w7.heap.size := by omega
        obtain ⟨L, hL⟩ : ∃ L, xs.length = L := ⟨_, rfl⟩
        have HL := Lib.hid hL
        rw [hL] at hx
        clear hL
        clear ho7 hn6 hr6 hB6 hs7
        go_wp2_with (at_builtin; refine append_int rfl _ _ rfl w1.heap.size v0 xs L HL (by omega) rfl hn7 hz7' rfl ?_)
        intro v8 w8 ho8 hn8 hb8
        have hr8 : Rd w8 r (p + 1 + 1) := hr7.same fun q hq => hb8.block q (by omega)
        have hB8 := hB7.trans (hb8.mono hz1)
        have hz8 := hb8.size
        clear hb8 hr7 hB7 hn7
        go_wp2_with fail
        go_roundw
        case rel => exact ⟨k - 1, p + 1 + 1, v8, _, rfl, rfl, by omega, by omega, by rw [List.length_append, HL.out]; simp; omega, by omega, by omega, by omega, hr8, ho8, hB8⟩
        case measure => simp only [intOf]; omega
end Go.Proofs.Ytbdgginamnllaaa
