/- Contracts of DrawOrderBy, DrawTurnedPairs and DrawPlaceIn. -/
import Derived.Test.YtpdnehcaogdjiaaDraw6
import Derived.Test.YtpdnehcaogdjiaaDraw9
import Derived.Test.YtpdnehcaogdjiaaOrdS
import Derived.Test.YtpdnehcaogdjiaaNear4
set_option linter.unusedVariables false
namespace Go.Proofs.Ytpdnehcaogdjiaa

set_option maxRecDepth 4000
open Go.ChangeShapes Go.WideShapes Go.ChangeAt Go.RowKit Go.Joins

theorem ownL_onlyR {w w' : World} {b r : Nat} {v : Value} {xs : List Int} (h : OwnL w b v xs) (ho : OnlyR r w w') (hr : r < b) : OwnL w' b v xs := by
  refine World.ownsRow.kept h (row := some r) ⟨ho.os, ho.tape, ho.output, ho.size, fun k hk hne => ho.block k hk (fun e => hne (by rw [e]))⟩ ?_
  cases e : v.ownBlock with
  | none => exact .inl rfl
  | some g =>
    right
    have := (World.ownsRow.lt h g e).1
    intro e2
    simp at e2
    omega

/-- three numbers come back -/
def D3Post (w : World) (e : Ending) (w' : World) : Prop := ∃ m u d : Int, e = .returned (.tuple #[.int .i64 m, .int .i64 u, .int .i64 d]) ∧ Below w.heap.size w w'

/-- a list of at most 70 numbers of the call's own comes back -/
def DLPost (w : World) (e : Ending) (w' : World) : Prop := ∃ v xs, e = .returned v ∧ OwnL w' w.heap.size v xs ∧ xs.length ≤ 70 ∧ Below w.heap.size w w'

set_option maxHeartbeats 1000000 in
theorem drawPlaceIn_any (a : Option Addr) (len cap : Nat) (w : World) (hc : CodeIn w a len cap) (hl : len ≤ 1048576) :
    Calls Try.prog 34 #[.slice a len cap] w (DTIIPost w) := by
  have hb0 : Below w.heap.size w (w.alloc (.cells #[.int .i64 0, .int .i64 0] 24)) := (by repeat (first | exact Below.refl _ _ | assumption | (refine Below.trans ?_ (Below.mono (by assumption) (by first | omega | (simp <;> omega)))) | (refine Below.alloc ?_ (by first | omega | (simp <;> omega)) _) | (refine below_drewN ?_ _) | (refine Below.drew ?_) | (refine Below.setCell ?_ (by first | omega | (simp <;> omega)) _)))
  go_enter Try.func34, Try.ntmps34
  go_wp2_with fail
  refine (drawNextAfter_any a len cap _ (hc.below hb0) hl).mono ?_
  rintro e w1 ⟨n, s, k, i, rfl, n0, n1, s0, s1, k0, k1, i0, i1, hb1⟩
  have u1 := (Two.new w (.int .i64 0) (.int .i64 0) 24).same (hb1.block _ (by simp))
  have hB1 := hb0.trans (hb1.mono (by simp))
  clear hb1
  have c0 := u1.cell0
  have c1 := u1.cell1
  have f0 := u1.free 0
  have f1 := u1.free 1
  have u5 := (u1.set0 (.int .i64 n)).set1 (.int .i64 s)
  have e0 := u5.cell0
  have e1 := u5.cell1
  go_wp2
  refine bodyPost_ret (v := .tuple #[(.agg #[.int .i64 (n), .int .i64 (s)]), .int .i64 k, .int .i64 i]) (by simp [results, Try.results34, go_sem, e0, e1]) rfl ?_
  exact ⟨n, s, k, i, rfl, n0, n1, s0, s1, k0, k1, i0, i1, (hB1.setCell (Nat.le_refl _) _).setCell (Nat.le_refl _) _⟩

set_option maxHeartbeats 4000000 in
theorem drawTurnedPairs_any (a : Option Addr) (len cap : Nat) (w : World) (hc : CodeIn w a len cap) (hl : len ≤ 1048576) :
    Calls Try.prog 39 #[.slice a len cap] w (DLPost w) := by
  go_enter Try.func39, Try.ntmps39
  go_wp2_with fail
  refine (l20Open_any a len cap _ hc hl).mono ?_; rintro e w1 ⟨r, rfl, hr, hr1, hb1⟩
  have hz1 := hb1.size
  have hrl := hr1.lt
  go_wp2_with fail
  refine (pick_any r 0 2 _ hr1 (by omega) (by omega) (by omega)).mono ?_; rintro e w2 ⟨v2, rfl, a2, b2, hr2, ho2, hs2⟩
  have hB2 := hb1.trans (ho2.below hr hz1)
  have hrl2 := hr2.lt
  clear hr1 ho2 hb1
  by_cases h0 : v2 = 0
  · have h0' : (v2 == 0) = true := by simpa using h0
    go_wp2_with fail
    refine (l20Many_any r _ _ hr2 (by omega) (by omega)).mono ?_
    rintro e w3 ⟨n, s, k, q, rfl, n0, n1, s0, s1, k0, k1, q0, q1, hr3, ho3⟩
    have hB3 := hB2.trans (ho3.below hr hB2.size)
    go_wp2_with fail
    refine (specOrderOf_any n s k _).mono ?_; rintro e w4 ⟨v4, rfl, ho4, hb4⟩
    have hB3' := hB3.alloc hB3.size (.cells #[.int .i64 n, .int .i64 s] 24)
    have hB4 := hB3'.trans (hb4.mono hB3'.size)
    have hlen := orderF_len n s k
    have ho5 : OwnL w4 w.heap.size v4 (orderF n s k) := ho4.mono hB3'.size
    go_wp2
    go_ret
    exact ⟨_, _, rfl, ho5, by omega, hB4⟩
  · have h0' : (v2 == 0) = false := by simpa using h0
    have hnil := made_nil w2
    have hr3 : Rd (w2.alloc (.cells #[] 3)) r _ := hr2.alloc (.cells #[] 3)
    have hB3 : Below w.heap.size w (w2.alloc (.cells #[] 3)) := hB2.alloc hB2.size _
    have hsz3 : (w2.alloc (.cells #[] 3)).heap.size = w2.heap.size + 1 := by simp
    go_wp2_with fail
    refine (pick_any r _ 9 _ hr3 (by omega) (by omega) (by omega)).mono ?_; rintro e w4 ⟨v4, rfl, a4, b4, hr4, ho4, hs4⟩
    have hn4 := ownL_onlyR hnil ho4 hrl2
    have hB4 := hB3.trans (ho4.below hr hB3.size)
    clear hnil hr3 hr2 ho4 hB3
    go_wp2_with fail
    refine (pick_any r _ 40 _ hr4 (by omega) (by omega) (by omega)).mono ?_; rintro e w5 ⟨v5, rfl, a5, b5, hr5, ho5, hs5⟩
    have hn5 := ownL_onlyR hn4 ho5 hrl2
    have hB5 := hB4.trans (ho5.below hr hB4.size)
    clear hn4 hr4 ho5 hB4
    have hz5 : w1.heap.size < w5.heap.size := by omega
    rw [hs2] at hn5
    have k0 : 0 ≤ v4 + v5 / 39 * 60 := by omega
    have k1 : v4 + v5 / 39 * 60 ≤ 68 := by omega
    clear hs4 hs5 hsz3 hs2 hrl2 hB2
    go_wp2_with fail
    generalize v4 + v5 / 39 * 60 = K at *
    clear b4 b5 a4 a5
    go_loopw [6, 7] (fun y kk wr => ∃ (k p : Int) (v0 : Value) (xs : List Int), kk = .int .i64 k ∧ v0 = y ∧ 0 ≤ k ∧ k ≤ 68 ∧ (xs.length : Int) + k ≤ 68 ∧ 0 ≤ p ∧ p ≤ 80 - k ∧ w1.heap.size < wr.heap.size ∧ Rd wr r p ∧ OwnL wr w1.heap.size v0 xs ∧ Below w.heap.size w wr) (fun _ kk _ => (intOf kk).toNat)
    case atStart => exact ⟨K, 0 + 1 + 1 + 1, _, [], rfl, rfl, by omega, by omega, by simp; omega, by omega, by omega, hz5, hr5, hn5, hB5⟩
    case round =>
      obtain ⟨k, p, v0, xs, rfl, rfl, hk0, hk1, hx, hp0, hp1, hsz, hrd, ho, hB⟩ := hrel
      clear hr5 hn5 hB5
      by_cases hk : k = 0
      · subst hk
        have hk' : decide ((0 : Int) < 0) = false := by decide
        have ho' : OwnL wr w.heap.size v0 xs := OwnL.mono (b := w1.heap.size) ho hz1
        go_wp2
        go_ret
        exact ⟨_, _, rfl, ho', by omega, hB⟩
      · have hk' : (0 : Int) < k := by omega
        have hsz0 := hB.size
        go_wp2_with fail
        refine (pick_any r p 12 _ hrd (by omega) (by omega) (by omega)).mono ?_; rintro e w7 ⟨v7, rfl, a7, b7, hr7, ho7, hs7⟩
        have hn7 := ownL_onlyR ho ho7 hrl
        have hB7 := hB.trans (ho7.below hr hsz0)
        have hz7 : w1.heap.size < w7.heap.size := by omega
        have hz7' : w1.heap.size ≤ w7.heap.size := by omega
        obtain ⟨L, hL⟩ : ∃ L, xs.length = L := ⟨_, rfl⟩
        have HL := Lib.hid hL
        rw [hL] at hx
        clear hL
        clear ho7 hB hs7 ho hrd
        go_wp2_with (at_builtin; refine append_int rfl _ _ rfl w1.heap.size v0 xs L HL (by omega) rfl hn7 hz7' rfl ?_)
        intro v8 w8 ho8 hn8 hb8
        have hr8 : Rd w8 r (p + 1) := hr7.same fun q hq => hb8.block q (by omega)
        have hB8 := hB7.trans (hb8.mono hz1)
        have hz8 := hb8.size
        clear hb8 hr7 hB7 hn7
        go_wp2_with fail
        go_roundw
        case rel => exact ⟨k - 1, p + 1, v8, _, rfl, rfl, by omega, by omega, by rw [List.length_append, HL.out]; simp; omega, by omega, by omega, by omega, hr8, ho8, hB8⟩
        case measure => simp only [intOf]; omega

end Go.Proofs.Ytpdnehcaogdjiaa
