/- Contract of the iterator of NearRule of the program. -/
import Derived.Test.YtejofckfnieolaaRuleS
import Derived.Test.YtejofckfnieolaaQuot3
import Derived.RangeFuncBox
import Derived.RangeFuncNested
import Derived.RangeFuncBound
import Derived.RangeFuncCalls
import Derived.RangeFuncLeaves
import Derived.Shelf.Abstract
import Derived.Shelf.RegionOpen
import Derived.OwnWalkIn
import Derived.TacticsInMore
import Derived.LoopNIn
import Derived.LoopIn
import Derived.Sort.QuietIn
set_option linter.unusedVariables false
namespace Go.Proofs.Ytejofckfnieolaa

set_option maxRecDepth 4000
open Go.ChangeShapes Go.WideShapes Go.ChangeAt Go.RowKit Go.Joins Go.Shelf

attribute [local go_sem] Oper.semAt_some

def encR (r : Row) : Array Value := #[.agg #[.int .i64 (r.p : Int), .int .i64 (r.a : Int), .int .i64 (r.q : Int), .int .i64 (r.b : Int)]]

set_option maxHeartbeats 4000000 in
theorem nearRows1_in (m : Nat) (hm : 1 ≤ m) (l Bt n₀ N S : Nat) (hN : tokN N S = true) (J Jx : List Row → World → Prop)
    (hY : ∀ pre x W, J pre W → pre.length < 61 → YieldAt Fence.wide (m - 1) Try.prog l (encR x) W fun e W' =>
      (e = .returned (.bool true) ∧ J (pre ++ [x]) W' ∧ Below n₀ W W') ∨ (e = .returned (.bool false) ∧ Jx (pre ++ [x]) W'))
    (W : World) (hc0 : W.cell? ⟨Bt, 0, none⟩ = some (.int .i64 (N : Int))) (hc1 : W.cell? ⟨Bt, 1, none⟩ = some (.int .i64 (S : Int))) (h0 : J [] W) (hJd : ∀ pre W k, J pre W → J pre (W.drewN k)) :
    CallsIn Fence.wide m Try.prog 62 #[.func (.yield l) #[] #[], .pointer (some ⟨Bt, 0, none⟩)] W fun e W' => (∃ v, e = .returned v) ∧
      ((∃ ys, ys = rowsN N S ∧ J ys W') ∨ (∃ pre, pre <+: rowsN N S ∧ Jx pre W')) := by
  obtain ⟨b1, b2, b3, b4, _⟩ := tokN_bd hN
  have HT := Lib.hid hN
  have HL : Hid ((rowsN N S).length ≤ 61) := by
    show _ ≤ _
    have := rowsF_len N 1 S 1 (N - S)
    unfold rowsN
    omega
  have H0 : Hid ([] ++ rowsF N 1 S 1 (N - S) = rowsN N S) := by show _ = _; rfl
  have HI : Hid (RowInv N S 1 S 1 (N - S)) := RowInv.start hN
  obtain ⟨M, hM⟩ : ∃ M : Nat, N - S = M := ⟨_, rfl⟩
  rw [hM] at H0 HI
  have hMi : (N : Int) - S = M := by omega
  have hw : IntKind.i64.wrap (M : Int) = M := IntWalk.i64_in _ (by omega)
  generalize rowsN N S = T at *
  clear hN
  refine callsIn_of_wp Try.func62 rfl trivial ?_ rfl
  simp only [Try.ntmps62, List.size_toArray, List.length_cons, List.length_nil, Nat.reduceAdd, Nat.reduceSub, Array.replicate_succ, Array.replicate_zero, List.push_toArray, List.append_toArray, List.nil_append, List.cons_append]
  gi_wp2
  gi_quiet (fail)
  gi_wp2
  have h0' := hJd _ _ nq h0
  have HF : Hid (S + M ≤ N + 1) := by show _ ≤ _; omega
  generalize W.drewN nq = Wq at *
  clear h0 hc0 hc1
  gi_loopw [3, 4, 5, 6] (fun xp xa xq xb wr => ∃ (f p a q b : Nat) (D : List Row), xp = .int .i64 p ∧ xa = .int .i64 a ∧ xq = .int .i64 q ∧ xb = .int .i64 b ∧ a + b ≤ f + 1 ∧ Hid (RowInv N S p a q b) ∧ Hid (D ++ rowsF f p a q b = T) ∧ J D wr) (fun _ xa _ xb _ => (intOf xa + intOf xb).toNat)
  case atStart => exact ⟨N, 1, S, 1, M, [], rfl, rfl, rfl, rfl, HF.out, HI, H0, h0'⟩
  case round =>
    obtain ⟨f, p, a, q, b, D, rfl, rfl, rfl, rfl, hfu, HR, HD, hJs⟩ := hrel
    clear h0' H0 HI HF
    obtain ⟨hs, a1, bb1⟩ := HR.out.size HT.out
    have p1 := HR.out.p1
    have q1 := HR.out.q1
    obtain ⟨bd1, bd2, bd3, bd4⟩ := HR.out.bd b1
    have hDl : D.length < 61 := by
      have h1 := HL.out
      have h2 := HD.out
      rw [rowsF_head] at h2
      rw [← h2, List.length_append, List.length_cons] at h1
      omega
    obtain ⟨fn, tmps, assign, body, hy, hR⟩ := hY D ⟨p, a, q, b⟩ wr hJs hDl
    dsimp only [encR] at hy
    by_cases e : a = b
    · have hE : D ++ [⟨p, a, q, b⟩] = T := by have := HD.out; rw [rowsF_stop e] at this; exact this
      have HE := Lib.hid hE
      have hne : ((a : Int) != b) = false := by simp; omega
      clear hE hs HR HD e
      gi_wp2
      refine hR.mono ?_
      rintro e W3 (⟨rfl, hJ3, hk3⟩ | ⟨rfl, hJx3⟩)
      · gi_wp2
        go_end0
        exact ⟨⟨_, rfl⟩, .inl ⟨_, HE.out, hJ3⟩⟩
      · gi_wp2
        go_end0
        exact ⟨⟨_, rfl⟩, .inr ⟨_, by rw [HE.out]; exact List.prefix_refl _, hJx3⟩⟩
    · obtain ⟨lt, hn1, hn2⟩ := HR.out.next HT.out e
      obtain ⟨f, rfl⟩ : ∃ g, f = g + 1 := ⟨f - 1, by omega⟩
      have hPre : D ++ [⟨p, a, q, b⟩] <+: T := by
        have := HD.out
        rw [rowsF_head] at this
        exact ⟨(rowsF (f + 1) p a q b).tail, by rw [← this]; simp⟩
      have HP := Lib.hid hPre
      have hne : ((a : Int) != b) = true := by simp; omega
      by_cases c0 : b < a
      · have c1 : (b : Int) < a := by omega
        have HD2 : (D ++ [⟨p, a, q, b⟩]) ++ rowsF f (p + q) (a - b) q b = T := by
          have := HD.out
          rw [rowsF_up c0] at this
          rw [← this]; simp
        have hni := hn1 c0
        obtain ⟨c, hc⟩ : ∃ c, a - b = c := ⟨_, rfl⟩
        obtain ⟨r, hr⟩ : ∃ r, p + q = r := ⟨_, rfl⟩
        rw [hc, hr] at HD2 hni
        have hci : (a : Int) - b = c := by omega
        have hri : (p : Int) + q = r := by omega
        have HD3 := Lib.hid HD2
        have HN := Lib.hid hni
        clear HD HD2 hni HR hs hn1 hn2 e hPre
        gi_wp2
        refine hR.mono ?_
        rintro e W3 (⟨rfl, hJ3, hk3⟩ | ⟨rfl, hJx3⟩)
        · gi_wp2
          go_roundw
          case rel => exact ⟨f, r, c, q, b, _, rfl, rfl, rfl, rfl, by omega, HN.out, HD3.out, hJ3⟩
          case measure => simp only [intOf]; omega
        · gi_wp2
          go_end0
          exact ⟨⟨_, rfl⟩, .inr ⟨_, HP.out, hJx3⟩⟩
      · have c0' : a < b := by omega
        have c1 : decide ((b : Int) < a) = false := by simp; omega
        have HD2 : (D ++ [⟨p, a, q, b⟩]) ++ rowsF f p a (p + q) (b - a) = T := by
          have := HD.out
          rw [rowsF_down c0'] at this
          rw [← this]; simp
        have hni := hn2 c0'
        obtain ⟨c, hc⟩ : ∃ c, b - a = c := ⟨_, rfl⟩
        obtain ⟨r, hr⟩ : ∃ r, p + q = r := ⟨_, rfl⟩
        rw [hc, hr] at HD2 hni
        have hci : (b : Int) - a = c := by omega
        have hri : (p : Int) + q = r := by omega
        have HD3 := Lib.hid HD2
        have HN := Lib.hid hni
        clear HD HD2 hni HR hs hn1 hn2 e hPre
        gi_wp2
        refine hR.mono ?_
        rintro e W3 (⟨rfl, hJ3, hk3⟩ | ⟨rfl, hJx3⟩)
        · gi_wp2
          go_roundw
          case rel => exact ⟨f, p, a, r, c, _, rfl, rfl, rfl, rfl, by omega, HN.out, HD3.out, hJ3⟩
          case measure => simp only [intOf]; omega
        · gi_wp2
          go_end0
          exact ⟨⟨_, rfl⟩, .inr ⟨_, HP.out, hJx3⟩⟩
end Go.Proofs.Ytejofckfnieolaa
