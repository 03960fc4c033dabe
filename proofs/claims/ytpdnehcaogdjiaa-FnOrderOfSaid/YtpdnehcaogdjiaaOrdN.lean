/- The iterator of OrderBy of the program: it goes on until it is stopped. -/
import Derived.Test.YtpdnehcaogdjiaaBrk
set_option linter.unusedVariables false
namespace Go.Proofs.Ytpdnehcaogdjiaa

set_option maxRecDepth 4000
open Go.ChangeShapes Go.WideShapes Go.ChangeAt Go.RowKit Go.Joins Go.Shelf

attribute [local go_sem] Oper.semAt_some

theorem nowBy_bd {m u d : Int} (m1 : 1 ≤ m) (m60 : m ≤ 60) (u1 : 1 ≤ u) (u60 : u ≤ 60) (d1 : 1 ≤ d) (d60 : d ≤ 60) (k : Nat) : -60 ≤ nowBy m u d k ∧ nowBy m u d k < 60 := by
  induction k with
  | zero => show -60 ≤ (0 : Int) ∧ (0 : Int) < 60; omega
  | succ k ih =>
    show -60 ≤ ruleBy m u d (nowBy m u d k) ∧ ruleBy m u d (nowBy m u d k) < 60
    unfold ruleBy
    generalize nowBy m u d k = x at *
    split
    · omega
    · split <;> omega

/-- three blocks lie as they lay -/
def KpN (B : Nat) (W V : World) : Prop := V.heap[B]? = W.heap[B]? ∧ V.heap[B + 1]? = W.heap[B + 1]? ∧ V.heap[B + 2]? = W.heap[B + 2]?

theorem KpN.refl (B : Nat) (W : World) : KpN B W W := ⟨rfl, rfl, rfl⟩

theorem KpN.trans {B : Nat} {A C D : World} (h : KpN B A C) (h' : KpN B C D) : KpN B A D := ⟨h'.1.trans h.1, h'.2.1.trans h.2.1, h'.2.2.trans h.2.2⟩

def enN (m u d : Int) (k : Nat) : Array Value := #[.int .i64 (nowBy m u d k)]

set_option maxHeartbeats 4000000 in
theorem numbers_go (p : Nat) (hp : 1 ≤ p) (B : Nat) (m u d : Int) (m1 : 1 ≤ m) (m60 : m ≤ 60) (u1 : 1 ≤ u) (u60 : u ≤ 60) (d1 : 1 ≤ d) (d60 : d ≤ 60) (mu : World → Nat) (N : Nat) (w : World)
    (hm : w.cell? ⟨B, 0, none⟩ = some (.int .i64 m)) (hu : w.cell? ⟨B + 1, 0, none⟩ = some (.int .i64 u)) (hd : w.cell? ⟨B + 2, 0, none⟩ = some (.int .i64 d)) :
    GoesOn p 61 #[.pointer (some ⟨B + 1, 0, none⟩), .pointer (some ⟨B, 0, none⟩), .pointer (some ⟨B + 2, 0, none⟩)] (enN m u d) (KpN B) mu N w := by
  intro l J Jx W hW hJd hmu hY h0
  have cm := (hW.cell (p := ⟨B, 0, none⟩) (World.block_lt_of_cell? w _ hm)).trans hm
  have cu := (hW.cell (p := ⟨B + 1, 0, none⟩) (World.block_lt_of_cell? w _ hu)).trans hu
  have cd := (hW.cell (p := ⟨B + 2, 0, none⟩) (World.block_lt_of_cell? w _ hd)).trans hd
  clear hm hu hd hW
  refine callsIn_of_wp Try.func61 rfl trivial ?_ rfl
  simp only [Try.ntmps61, List.size_toArray, List.length_cons, List.length_nil, Nat.reduceAdd, Nat.reduceSub, Array.replicate_succ, Array.replicate_zero, List.push_toArray, List.append_toArray, List.nil_append, List.cons_append]
  gi_wp2
  gi_loopw [5] (fun x wr => ∃ k : Nat, x = .int .i64 (nowBy m u d k) ∧ J k wr ∧ KpN B W wr) (fun _ wr => mu wr)
  case atStart => exact ⟨0, rfl, h0, KpN.refl _ _⟩
  case round =>
    obtain ⟨k, rfl, hJs, hk⟩ := hrel
    obtain ⟨hmk, hkN⟩ := hmu k wr hJs
    obtain ⟨fn, tmps, assign, body, hy, hR⟩ := hY k wr hJs
    dsimp only [enN] at hy
    have hn : nowBy m u d (k + 1) = ruleBy m u d (nowBy m u d k) := rfl
    have hbd := nowBy_bd m1 m60 u1 u60 d1 d60 k
    unfold ruleBy at hn
    generalize hx : nowBy m u d k = x at *
    have stop : ∀ W3, Jx W3 → True := fun _ _ => trivial
    by_cases c1 : x + u < m
    · rw [if_pos c1] at hn
      have HN := Lib.hid hn
      clear hn hx
      gi_wp2
      refine hR.mono ?_
      rintro e W3 (⟨rfl, hJ3, hk3⟩ | ⟨rfl, hJx3⟩)
      · have hk4 := hk.trans hk3
        have cm3 := (World.cell?_of_block (a := ⟨B, 0, none⟩) hk4.1).trans cm
        have cu3 := (World.cell?_of_block (a := ⟨B + 1, 0, none⟩) hk4.2.1).trans cu
        have cd3 := (World.cell?_of_block (a := ⟨B + 2, 0, none⟩) hk4.2.2).trans cd
        gi_wp2
        go_roundw
        case rel => exact ⟨k + 1, by rw [HN.out], hJ3, hk4⟩
        case measure => have := (hmu _ _ hJ3).1; omega
      · gi_wp2
        go_end0
        exact ⟨⟨_, rfl⟩, hJx3⟩
    · rw [if_neg c1] at hn
      have d1' : decide (x + u < m) = false := by simpa using c1
      by_cases c2 : 0 ≤ x - d
      · rw [if_pos c2] at hn
        have HN := Lib.hid hn
        clear hn hx
        gi_wp2
        refine hR.mono ?_
        rintro e W3 (⟨rfl, hJ3, hk3⟩ | ⟨rfl, hJx3⟩)
        · have hk4 := hk.trans hk3
          have cm3 := (World.cell?_of_block (a := ⟨B, 0, none⟩) hk4.1).trans cm
          have cu3 := (World.cell?_of_block (a := ⟨B + 1, 0, none⟩) hk4.2.1).trans cu
          have cd3 := (World.cell?_of_block (a := ⟨B + 2, 0, none⟩) hk4.2.2).trans cd
          gi_wp2
          go_roundw
          case rel => exact ⟨k + 1, by rw [HN.out], hJ3, hk4⟩
          case measure => have := (hmu _ _ hJ3).1; omega
        · gi_wp2
          go_end0
          exact ⟨⟨_, rfl⟩, hJx3⟩
      · rw [if_neg c2] at hn
        have d2' : decide (0 ≤ x - d) = false := by simpa using c2
        have HN := Lib.hid hn
        clear hn hx
        gi_wp2
        refine hR.mono ?_
        rintro e W3 (⟨rfl, hJ3, hk3⟩ | ⟨rfl, hJx3⟩)
        · have hk4 := hk.trans hk3
          have cm3 := (World.cell?_of_block (a := ⟨B, 0, none⟩) hk4.1).trans cm
          have cu3 := (World.cell?_of_block (a := ⟨B + 1, 0, none⟩) hk4.2.1).trans cu
          have cd3 := (World.cell?_of_block (a := ⟨B + 2, 0, none⟩) hk4.2.2).trans cd
          gi_wp2
          go_roundw
          case rel => exact ⟨k + 1, by rw [HN.out, show x + u - d = x + (u - d) by omega], hJ3, hk4⟩
          case measure => have := (hmu _ _ hJ3).1; omega
        · gi_wp2
          go_end0
          exact ⟨⟨_, rfl⟩, hJx3⟩

set_option maxHeartbeats 400000 in
theorem orderNumbers_any (m u d : Int) (w : World) :
    Calls Try.prog 50 #[.int .i64 m, .int .i64 u, .int .i64 d] w fun e w' => e = .returned (.func (.func 61) #[] #[.pointer (some ⟨w.heap.size + 1, 0, none⟩), .pointer (some ⟨w.heap.size, 0, none⟩), .pointer (some ⟨w.heap.size + 2, 0, none⟩)]) ∧
      w' = ((w.alloc (.cells #[.int .i64 m] 3)).alloc (.cells #[.int .i64 u] 3)).alloc (.cells #[.int .i64 d] 3) := by
  go_enter Try.func50, Try.ntmps50
  go_wp2
  go_ret
  exact ⟨by simp, rfl⟩
end Go.Proofs.Ytpdnehcaogdjiaa
