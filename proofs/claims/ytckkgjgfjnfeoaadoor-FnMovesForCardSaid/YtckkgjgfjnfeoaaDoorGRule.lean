/- Contract of NearRule of the model. Contract of the iterator of NearRule of the program. Contracts of slices.Clone and of the iterator's maker; lists of lists behind turns of blocks that are no cells. One row appended to a list of lists: the run, and a step of a drawn region within a round of a range over a function. Contract of NearRule of the program: a range over a function. -/
import Derived.Test.YtckkgjgfjnfeoaaDoorLists
import Derived.Test.YtckkgjgfjnfeoaaDoorGQuot
import Derived.RangeFuncBox
import Derived.RangeFuncNested
import Derived.RangeFuncBound
import Derived.RangeFuncCalls
import Derived.RangeFuncLeaves
import Derived.Shelf.Abstract
import Derived.Shelf.RegionOpen
import Derived.OwnWalkIn
import Derived.TacticsInMore
import Derived.LoopNIn
import Derived.LoopIn
import Derived.Sort.QuietIn
import Derived.Test.YtckkgjgfjnfeoaaDoorClone
import Derived.Lib.SliceRun
set_option linter.unusedVariables false
namespace Go.Proofs.YtckkgjgfjnfeoaaDoor
set_option maxRecDepth 4000

set_option maxRecDepth 4000
open Go.ChangeShapes Go.WideShapes Go.ChangeAt Go.RowKit Go.Joins

def rowI (r : Row) : List Int := [(r.p : Int), (r.a : Int), (r.q : Int), (r.b : Int)]

def rowsI (n s : Nat) : List (List Int) := (rowsN n s).map rowI

def ruleF (n s : Int) : List (List Int) := if tok n s = true then rowsI n.toNat s.toNat else []

theorem ruleF_yes {n s : Nat} (h : tokN n s = true) : ruleF n s = rowsI n s := by
  unfold ruleF; rw [if_pos (tok_of_tokN h)]; rfl

theorem ruleF_no {n s : Int} (h : ¬ tok n s = true) : ruleF n s = [] := if_neg h

theorem rowsF_len : ∀ (f p a q b : Nat), (rowsF f p a q b).length ≤ f + 1 := by
  intro f
  induction f with
  | zero => intro p a q b; simp [rowsF]
  | succ f ih =>
    intro p a q b
    rw [rowsF]
    cases Nat.beq a b
    · cases Nat.blt b a
      · have := ih p a (p + q) (b - a); simp only [cond_false, List.length_cons]; omega
      · have := ih (p + q) (a - b) q b; simp only [cond_false, cond_true, List.length_cons]; omega
    · simp

theorem rowsF_head (f p a q b : Nat) : rowsF f p a q b = ⟨p, a, q, b⟩ :: (rowsF f p a q b).tail := by
  cases f with
  | zero => rfl
  | succ f =>
    rw [rowsF]
    cases Nat.beq a b <;> rfl

theorem rowsI_len {n s : Nat} (h : tokN n s = true) : (rowsI n s).length ≤ 61 := by
  have := rowsF_len n 1 s 1 (n - s)
  have := tokN_bd h
  unfold rowsI rowsN
  rw [List.length_map]
  omega

theorem ruleF_len (n s : Int) : (ruleF n s).length ≤ 61 := by
  by_cases h : tok n s = true
  · obtain ⟨N, S, rfl, rfl, hN⟩ := tokN_of h
    rw [ruleF_yes hN]; exact rowsI_len hN
  · rw [ruleF_no h]; simp

theorem RowInv.bd {n s p a q b : Nat} (h : RowInv n s p a q b) (h2 : 2 ≤ n) : a ≤ n ∧ b ≤ n ∧ p ≤ n ∧ q ≤ n := by
  have := h.ea; have := h.eb; have := h.le; have := h.p1; have := h.q1
  have := N.pt_hi (n := (n : Int)) s (p : Int) (by omega)
  have := N.pt_lo (n := (n : Int)) s (q : Int) (by omega)
  omega

theorem rule_up {n s : Nat} {f p a q b : Nat} {D T : List (List Int)} (h : b < a) (hd : D ++ ((rowsF (f + 1) p a q b).tail).map rowI = T) :
    (D ++ [rowI ⟨p + q, a - b, q, b⟩]) ++ ((rowsF f (p + q) (a - b) q b).tail).map rowI = T := by
  rw [rowsF_up h, List.tail_cons, rowsF_head, List.map_cons] at hd
  rw [List.append_assoc]
  exact hd

theorem rule_down {n s : Nat} {f p a q b : Nat} {D T : List (List Int)} (h : a < b) (hd : D ++ ((rowsF (f + 1) p a q b).tail).map rowI = T) :
    (D ++ [rowI ⟨p, a, p + q, b - a⟩]) ++ ((rowsF f p a (p + q) (b - a)).tail).map rowI = T := by
  rw [rowsF_down h, List.tail_cons, rowsF_head, List.map_cons] at hd
  rw [List.append_assoc]
  exact hd

def RowsPost (Ls : List (List Int)) (w : World) (e : Ending) (w' : World) : Prop := ∃ v, e = .returned v ∧ OwnLL w' w.heap.size v Ls ∧ Below w.heap.size w w'

/-- a new row of four integers -/
theorem row4 (w : World) (b : Nat) (x0 x1 x2 x3 : Int) (hb : b ≤ w.heap.size) :
    OwnL (w.alloc (.cells #[.int .i64 x0, .int .i64 x1, .int .i64 x2, .int .i64 x3] 3)) b (.slice (some ⟨w.heap.size, 0, none⟩) 4 4) [x0, x1, x2, x3] :=
  ⟨by simp, .inr ⟨w.heap.size, 4, _, rfl, hb, heap_alloc_new w _, by simp, by unfold maxLen; omega, by simp, by simp⟩⟩

end Go.Proofs.YtckkgjgfjnfeoaaDoor

set_option linter.unusedVariables false
namespace Go.Proofs.YtckkgjgfjnfeoaaDoor

set_option maxRecDepth 4000
open Go.ChangeShapes Go.WideShapes Go.ChangeAt Go.RowKit Go.Joins Go.Shelf

attribute [local go_sem] Oper.semAt_some

def encR (r : Row) : Array Value := #[.agg #[.int .i64 (r.p : Int), .int .i64 (r.a : Int), .int .i64 (r.q : Int), .int .i64 (r.b : Int)]]

set_option maxHeartbeats 4000000 in
theorem nearRows1_in (m : Nat) (hm : 1 ≤ m) (l Bt n₀ N S : Nat) (hN : tokN N S = true) (J Jx : List Row → World → Prop)
    (hY : ∀ pre x W, J pre W → pre.length < 61 → YieldAt Fence.wide (m - 1) Tryd.prog l (encR x) W fun e W' =>
      (e = .returned (.bool true) ∧ J (pre ++ [x]) W' ∧ Below n₀ W W') ∨ (e = .returned (.bool false) ∧ Jx (pre ++ [x]) W'))
    (W : World) (hc0 : W.cell? ⟨Bt, 0, none⟩ = some (.int .i64 (N : Int))) (hc1 : W.cell? ⟨Bt, 1, none⟩ = some (.int .i64 (S : Int))) (h0 : J [] W) (hJd : ∀ pre W k, J pre W → J pre (W.drewN k)) :
    CallsIn Fence.wide m Tryd.prog 68 #[.func (.yield l) #[] #[], .pointer (some ⟨Bt, 0, none⟩)] W fun e W' => (∃ v, e = .returned v) ∧
      ((∃ ys, ys = rowsN N S ∧ J ys W') ∨ (∃ pre, pre <+: rowsN N S ∧ Jx pre W')) := by
  obtain ⟨b1, b2, b3, b4, _⟩ := tokN_bd hN
  have HT := Lib.hid hN
  have HL : Hid ((rowsN N S).length ≤ 61) := by
    show _ ≤ _
    have := rowsF_len N 1 S 1 (N - S)
    unfold rowsN
    omega
  have H0 : Hid ([] ++ rowsF N 1 S 1 (N - S) = rowsN N S) := by show _ = _; rfl
  have HI : Hid (RowInv N S 1 S 1 (N - S)) := RowInv.start hN
  obtain ⟨M, hM⟩ : ∃ M : Nat, N - S = M := ⟨_, rfl⟩
  rw [hM] at H0 HI
  have hMi : (N : Int) - S = M := by omega
  have hw : IntKind.i64.wrap (M : Int) = M := IntWalk.i64_in _ (by omega)
  generalize rowsN N S = T at *
  clear hN
  refine callsIn_of_wp Tryd.func68 rfl trivial ?_ rfl
  simp only [Tryd.ntmps68, List.size_toArray, List.length_cons, List.length_nil, Nat.reduceAdd, Nat.reduceSub, Array.replicate_succ, Array.replicate_zero, List.push_toArray, List.append_toArray, List.nil_append, List.cons_append]
  gi_wp2
  gi_quiet (fail)
  gi_wp2
  have h0' := hJd _ _ nq h0
  have HF : Hid (S + M ≤ N + 1) := by show _ ≤ _; omega
  generalize W.drewN nq = Wq at *
  clear h0 hc0 hc1
  gi_loopw [3, 4, 5, 6] (fun xp xa xq xb wr => ∃ (f p a q b : Nat) (D : List Row), xp = .int .i64 p ∧ xa = .int .i64 a ∧ xq = .int .i64 q ∧ xb = .int .i64 b ∧ a + b ≤ f + 1 ∧ Hid (RowInv N S p a q b) ∧ Hid (D ++ rowsF f p a q b = T) ∧ J D wr) (fun _ xa _ xb _ => (intOf xa + intOf xb).toNat)
  case atStart => exact ⟨N, 1, S, 1, M, [], rfl, rfl, rfl, rfl, HF.out, HI, H0, h0'⟩
  case round =>
    obtain ⟨f, p, a, q, b, D, rfl, rfl, rfl, rfl, hfu, HR, HD, hJs⟩ := hrel
    clear h0' H0 HI HF
    obtain ⟨hs, a1, bb1⟩ := HR.out.size HT.out
    have p1 := HR.out.p1
    have q1 := HR.out.q1
    obtain ⟨bd1, bd2, bd3, bd4⟩ := HR.out.bd b1
    have hDl : D.length < 61 := by
      have h1 := HL.out
      have h2 := HD.out
      rw [rowsF_head] at h2
      rw [← h2, List.length_append, List.length_cons] at h1
      omega
    obtain ⟨fn, tmps, assign, body, hy, hR⟩ := hY D ⟨p, a, q, b⟩ wr hJs hDl
    dsimp only [encR] at hy
    by_cases e : a = b
    · have hE : D ++ [⟨p, a, q, b⟩] = T := by have := HD.out; rw [rowsF_stop e] at this; exact this
      have HE := Lib.hid hE
      have hne : ((a : Int) != b) = false := by simp; omega
      clear hE hs HR HD e
      gi_wp2
      refine hR.mono ?_
      rintro e W3 (⟨rfl, hJ3, hk3⟩ | ⟨rfl, hJx3⟩)
      · gi_wp2
        go_end0
        exact ⟨⟨_, rfl⟩, .inl ⟨_, HE.out, hJ3⟩⟩
      · gi_wp2
        go_end0
        exact ⟨⟨_, rfl⟩, .inr ⟨_, by rw [HE.out]; exact List.prefix_refl _, hJx3⟩⟩
    · obtain ⟨lt, hn1, hn2⟩ := HR.out.next HT.out e
      obtain ⟨f, rfl⟩ : ∃ g, f = g + 1 := ⟨f - 1, by omega⟩
      have hPre : D ++ [⟨p, a, q, b⟩] <+: T := by
        have := HD.out
        rw [rowsF_head] at this
        exact ⟨(rowsF (f + 1) p a q b).tail, by rw [← this]; simp⟩
      have HP := Lib.hid hPre
      have hne : ((a : Int) != b) = true := by simp; omega
      by_cases c0 : b < a
      · have c1 : (b : Int) < a := by omega
        have HD2 : (D ++ [⟨p, a, q, b⟩]) ++ rowsF f (p + q) (a - b) q b = T := by
          have := HD.out
          rw [rowsF_up c0] at this
          rw [← this]; simp
        have hni := hn1 c0
        obtain ⟨c, hc⟩ : ∃ c, a - b = c := ⟨_, rfl⟩
        obtain ⟨r, hr⟩ : ∃ r, p + q = r := ⟨_, rfl⟩
        rw [hc, hr] at HD2 hni
        have hci : (a : Int) - b = c := by omega
        have hri : (p : Int) + q = r := by omega
        have HD3 := Lib.hid HD2
        have HN := Lib.hid hni
        clear HD HD2 hni HR hs hn1 hn2 e hPre
        gi_wp2
        refine hR.mono ?_
        rintro e W3 (⟨rfl, hJ3, hk3⟩ | ⟨rfl, hJx3⟩)
        · gi_wp2
          go_roundw
          case rel => exact ⟨f, r, c, q, b, _, rfl, rfl, rfl, rfl, by omega, HN.out, HD3.out, hJ3⟩
          case measure => simp only [intOf]; omega
        · gi_wp2
          go_end0
          exact ⟨⟨_, rfl⟩, .inr ⟨_, HP.out, hJx3⟩⟩
      · have c0' : a < b := by omega
        have c1 : decide ((b : Int) < a) = false := by simp; omega
        have HD2 : (D ++ [⟨p, a, q, b⟩]) ++ rowsF f p a (p + q) (b - a) = T := by
          have := HD.out
          rw [rowsF_down c0'] at this
          rw [← this]; simp
        have hni := hn2 c0'
        obtain ⟨c, hc⟩ : ∃ c, b - a = c := ⟨_, rfl⟩
        obtain ⟨r, hr⟩ : ∃ r, p + q = r := ⟨_, rfl⟩
        rw [hc, hr] at HD2 hni
        have hci : (b : Int) - a = c := by omega
        have hri : (p : Int) + q = r := by omega
        have HD3 := Lib.hid HD2
        have HN := Lib.hid hni
        clear HD HD2 hni HR hs hn1 hn2 e hPre
        gi_wp2
        refine hR.mono ?_
        rintro e W3 (⟨rfl, hJ3, hk3⟩ | ⟨rfl, hJx3⟩)
        · gi_wp2
          go_roundw
          case rel => exact ⟨f, p, a, r, c, _, rfl, rfl, rfl, rfl, by omega, HN.out, HD3.out, hJ3⟩
          case measure => simp only [intOf]; omega
        · gi_wp2
          go_end0
          exact ⟨⟨_, rfl⟩, .inr ⟨_, HP.out, hJx3⟩⟩
end Go.Proofs.YtckkgjgfjnfeoaaDoor

set_option linter.unusedVariables false
namespace Go.Proofs.YtckkgjgfjnfeoaaDoor

set_option maxRecDepth 4000
open Go.ChangeShapes Go.WideShapes Go.ChangeAt Go.RowKit Go.Joins Go.Shelf

theorem ownsRow_nc {W W' : World} {base : Nat} {e : TypeId} {size k : Nat} {v : Value} {xs : List Value} {row : Option Nat} (h : W.ownsRow base e size v k xs) (hg : W.grownBy W' row) (hr : ∀ r, row = some r → ∃ o : Obj, W.heap[r]? = some o ∧ o.isCells = false) :
    W'.ownsRow base e size v k xs := by
  refine h.kept hg ?_
  rcases h.2 with ⟨rfl, _⟩ | ⟨g, cap, cur, rfl, _, hgb, _⟩
  · exact .inl rfl
  · refine .inr fun e' => ?_
    obtain ⟨o, ho, hc⟩ := hr g (by simpa [Value.ownBlock] using e'.symm)
    rw [hgb] at ho; cases ho; cases hc

theorem OwnLL.nc {W W' : World} {b : Nat} {v : Value} {Ls : List (List Int)} {row : Option Nat} (h : OwnLL W b v Ls) (hg : W.grownBy W' row) (hr : ∀ r, row = some r → ∃ o : Obj, W.heap[r]? = some o ∧ o.isCells = false) : OwnLL W' b v Ls := by
  obtain ⟨rs, h1, h2, h3, h4⟩ := h
  exact ⟨rs, h1, ownsRow_nc h2 hg hr, fun i hi => ownsRow_nc (h3 i hi) hg hr, h4⟩

set_option maxHeartbeats 400000 in
theorem nearRows_any (n s : Int) (w : World) :
    Calls Tryd.prog 45 #[(.agg #[.int .i64 (n), .int .i64 (s)])] w fun e w' => e = .returned (.func (.func 68) #[] #[.pointer (some ⟨w.heap.size, 0, none⟩)]) ∧ w' = w.alloc (.cells #[.int .i64 n, .int .i64 s] 28) := by
  go_enter Tryd.func45, Tryd.ntmps45
  go_wp2
  go_ret
  exact ⟨rfl, rfl⟩

theorem grownBy_drewN (W : World) (k : Nat) (row : Option Nat) : W.grownBy (W.drewN k) row := ⟨by simp [World.drewN], by simp [World.drewN], by simp [World.drewN], by simp, fun i _ _ => by simp⟩

theorem nearRows_stops (m : Nat) (hm : 1 ≤ m) (Bt n₀ N S : Nat) (hN : tokN N S = true) (w : World) (hBt : Bt < w.heap.size)
    (hc0 : w.cell? ⟨Bt, 0, none⟩ = some (.int .i64 (N : Int))) (hc1 : w.cell? ⟨Bt, 1, none⟩ = some (.int .i64 (S : Int))) :
    SeqStopsK Fence.wide m Tryd.prog 68 #[.pointer (some ⟨Bt, 0, none⟩)] encR (Below n₀) (fun ys => ys = rowsN N S) (fun pre => pre <+: rowsN N S) 61 w :=
  fun l J Jx W hW hJ hJx hY h0 =>
    nearRows1_in m hm l Bt n₀ N S hN J Jx hY W ((hW.cell (p := ⟨Bt, 0, none⟩) hBt).trans hc0) ((hW.cell (p := ⟨Bt, 1, none⟩) hBt).trans hc1) h0 (fun pre W k h => hJ pre W _ none h (grownBy_drewN W k none) (fun r e => by cases e))
end Go.Proofs.YtckkgjgfjnfeoaaDoor

set_option linter.unusedVariables false
namespace Go.Proofs.YtckkgjgfjnfeoaaDoor

set_option maxRecDepth 4000
open Go.ChangeShapes Go.WideShapes Go.ChangeAt Go.RowKit Go.Joins Go.Shelf

theorem run_append_row {Wb Wp : World} {r : Value} {L : List Int} (ty : TypeId) (b : Nat) (v : Value) (Ls : List (List Int)) (N : Nat) (HL : Ls.length = N) (hL : N ≤ 100000) (hownp : OwnLL Wp b v Ls) (hB : Below Wp.heap.size Wp Wb) (hb : b ≤ Wp.heap.size)
    (hr : OwnL Wb Wp.heap.size r L) (B c : Nat) (hBk : Wb.heap[B]? = some (.cells #[r] 33 (0, 0))) :
    ∃ g cap w', (Builtin.append_ #[36, 36] ty #[v, .slice (some ⟨B, 0, none⟩) 1 c]).run Tryd.prog Wb = .ok (.slice (some ⟨g, 0, none⟩) (N + 1) cap) w' ∧
      OwnLL w' b (.slice (some ⟨g, 0, none⟩) (N + 1) cap) (Ls ++ [L]) ∧ Below b Wb w' ∧ KeepsOthers Wb w' := by
  subst HL
  obtain ⟨i0, hi, iz0, iz1, iz2⟩ := info_parts infoRow
  have hlt : ∀ i, i < Ls.length → ∀ g, (hownp.choose.getD i undef).ownBlock = some g → g < Wp.heap.size := fun i hi g hg => ((World.ownsRow.lt (hownp.choose_spec.2.2.1 i hi)) g hg).2
  have hbW : b ≤ Wb.heap.size := Nat.le_trans hb hB.size
  obtain ⟨h1, h2p, h3p, h4⟩ := hownp.choose_spec
  generalize hownp.choose = rs at *
  have h2 : Wb.ownsRow b 33 1 v Ls.length rs := World.ownsRow.kept h2p (row := none) ⟨hB.os, hB.tape, hB.output, hB.size, fun k hk _ => hB.block k hk⟩ (by cases v.ownBlock <;> simp)
  have h3 : ∀ i, i < Ls.length → OwnL Wb b (rs.getD i undef) (Ls.getD i []) := fun i hi => (h3p i hi).below hB
  have hone : ∀ u ∈ [r], Value.oneCell' u = true := by
    intro u hu
    simp at hu
    subst hu
    rcases hr.2 with ⟨e, _⟩ | ⟨g, cap, cur, e, _⟩ <;> rw [e] <;> rfl
  obtain ⟨g, cap, w', hrun, a1, a2, _, _⟩ := run_append_lies (P := Tryd.prog) Wb 36 ty b 33 i0 (.slice none 0 0) 1 24 Tryd.underlying36 hi iz0 iz1 iz2 rfl (by decide) v Ls.length rs h2 ⟨B, 0, none⟩ 1 c [r] rfl (World.news_of_block (cs := #[r]) hBk) hone (by omega) (by unfold maxLen; omega) (by omega) hbW _ rfl
  have hlb := World.ownsRow.lt h2
  refine ⟨g, cap, w', hrun, ?_, (Below.refl b Wb).grown a2 hbW (fun q hq => (hlb q hq).1), ?_⟩
  · refine ⟨rs ++ [r], by simp [h1], ?_, fun i hi => ?_, fun i j hij hj => ?_⟩
    · rw [List.length_append]; exact a1
    · rw [List.length_append, List.length_singleton] at hi
      by_cases c : i < Ls.length
      · rw [getD_left (by omega), getL_left c]
        exact World.ownsRow.kept (h3 i c) a2 (own_types h2 (h3 i c))
      · rw [getD_last (by omega), getL_last (by omega)]
        exact OwnL.mono (World.ownsRow.kept hr a2 (own_types h2 hr)) hb
    · rw [List.length_append, List.length_singleton] at hj
      by_cases c : j < Ls.length
      · rw [getD_left (by omega), getD_left (by omega)]
        exact h4 i j hij c
      · rw [getD_left (by omega), getD_last (by omega)]
        cases e : (rs.getD i undef).ownBlock with
        | none => exact .inl rfl
        | some g =>
          right
          intro e2
          have := hlt i (by omega) g e
          have := (World.ownsRow.lt hr g e2.symm).1
          omega
  · refine KeepsOthers.of_grownBy a2 fun j o ej hj => ?_
    rcases h2.2 with ⟨rfl, _⟩ | ⟨g, cap, cur, rfl, _, hgb, _⟩
    · simp [Value.ownBlock] at ej
    · obtain rfl : g = j := by simpa [Value.ownBlock] using ej
      rw [hgb] at hj; cases hj; rfl

/-- at a step of a region that draws its order, within a round -/
theorem step_row_in {Wb Wp : World} {r : Value} {L : List Int} {l n : Nat} {ops : Array Oper} {o : Oper} {a : Act} {K : Act → World → Prop} {Q : Exit → Act → World → Prop} {E : Prop} (hgd : o.guard = none) (S X : Operand)
    (ho : o.op = .call { callee := .builtin .append, args := #[S, X], argTypes := #[36, 36] })
    (b : Nat) (v : Value) (Ls : List (List Int)) (N : Nat) (HL : Hid (Ls.length = N)) (hL : N ≤ 100000) (hs : a.eval S = v) (hownp : OwnLL Wp b v Ls) (hB : Below Wp.heap.size Wp Wb) (hb : b ≤ Wp.heap.size)
    (hr : OwnL Wb Wp.heap.size r L) (B c : Nat) (hx : a.eval X = .slice (some ⟨B, 0, none⟩) 1 c) (hBk : Wb.heap[B]? = some (.cells #[r] 33 (0, 0)))
    (h : ∀ g cap w', OwnLL w' b (.slice (some ⟨g, 0, none⟩) (N + 1) cap) (Ls ++ [L]) → Below b Wb w' → KeepsOthers Wb w' → K (a.put o.dst (.slice (some ⟨g, 0, none⟩) (N + 1) cap)) w') :
    if Region.wanted o (yielded ops a.tmps) = true then Oper.wpIn (Fence.wide.inRound l) n Tryd.prog o a Wb K Q else E := by
  have hw : Region.wanted o (yielded ops a.tmps) = true := by simp [Region.wanted, hgd]
  rw [if_pos hw]
  obtain ⟨g, cap, w', hrun, h1, h2, h3⟩ := run_append_row (Wb := Wb) o.type b v Ls N HL.out hL hownp hB hb hr B c hBk
  unfold Oper.wpIn
  refine ⟨fun _ _ => trivial, ?_⟩
  rw [show (Fence.wide.inRound l).round = some l from rfl, Oper.semAt_some l _ o (fun c h => by rw [ho] at h; cases h)]
  unfold execOp
  simp only [ho, resolve, invoke, builtin, Sem.run_bind, Sem.run_pure, Result.andThen_ok, List.map_toArray, List.map_cons, List.map_nil, hs, hx, hrun, Oper.uponIn_value]
  exact h g cap w' h1 h2 h3
end Go.Proofs.YtckkgjgfjnfeoaaDoor

set_option linter.unusedVariables false
namespace Go.Proofs.YtckkgjgfjnfeoaaDoor

set_option maxRecDepth 100000
open Go.ChangeShapes Go.WideShapes Go.ChangeAt Go.RowKit Go.Joins Go.Shelf

attribute [local go_sem] Oper.semAt_some

/-- the box of an array of four numbers -/
def FourAt (W : World) (B : Nat) (r : Row) : Prop := W.heap[B]? = some (.cells #[.int .i64 (r.p : Int), .int .i64 (r.a : Int), .int .i64 (r.q : Int), .int .i64 (r.b : Int)] 53 (0, 0))

theorem cells_nc {W W' : World} {g : Nat} {cs : Array Value} {t : TypeId} {fr : Nat × Nat} {row : Option Nat} (h : W.heap[g]? = some (.cells cs t fr)) (hg : W.grownBy W' row) (hr : ∀ r, row = some r → ∃ o : Obj, W.heap[r]? = some o ∧ o.isCells = false) : W'.heap[g]? = some (.cells cs t fr) := by
  refine (hg.block g (Array.getElem?_eq_some_iff.1 h).1 (fun e => ?_)).trans h
  obtain ⟨o, ho, hc⟩ := hr g e.symm
  rw [h] at ho; cases ho; cases hc

theorem OwnLL.setBox {W : World} {b B : Nat} {v u : Value} {Ls : List (List Int)} (h : OwnLL W b v Ls) (hB : Boxed W B 36 u) (u' : Value) : OwnLL (W.setCell ⟨B, 0, none⟩ u') b v Ls := by
  obtain ⟨rs, h1, h2, h3, h4⟩ := h
  exact ⟨rs, h1, h2.kept (grownBy_setCell' W B u') (.inr (hB.not_row (by decide) h2).symm), fun i hi => World.ownsRow.kept (h3 i hi) (grownBy_setCell' W B u') (.inr (hB.not_row (by decide) (h3 i hi)).symm), h4⟩

set_option maxHeartbeats 4000000 in
theorem nearRule_any (n s : Int) (w : World) :
    Calls Tryd.prog 22 #[(.agg #[.int .i64 (n), .int .i64 (s)])] w (RowsPost (ruleF n s) w) := by
  by_cases ht : tok n s = true
  · obtain ⟨N, S, rfl, rfl, hN⟩ := tokN_of ht
    obtain ⟨b1, b2, b3, b4, _⟩ := tokN_bd hN
    
    rw [ruleF_yes hN]
    have hst := fun m hm Bt n₀ w => nearRows_stops m hm Bt n₀ N S hN w
    have HR : Hid (rowsI N S = (rowsN N S).map rowI) := rfl
    clear hN
    refine (callsIn_wide (n := 6)).1 ?_
    refine callsIn_of_wp_marks Tryd.func22 rfl trivial ?_ rfl
    simp only [Tryd.ntmps22, List.size_toArray, List.length_cons, List.length_nil, Nat.reduceAdd, Nat.reduceSub, Array.replicate_succ, Array.replicate_zero, List.push_toArray, List.append_toArray, List.nil_append, List.cons_append]
    gi_wp2_with fail
    refine ⟨trivial, (callsIn_wide.2 (turnOk_any _ _ _)).mono ?_⟩; rintro e w1 ⟨rfl, hb1⟩
    rw [ht]
    have hz1 := hb1.size
    simp at hz1
    have t1 : Two w1 w.heap.size (.int .i64 N) (.int .i64 S) 28 := Two.below (Two.new _ _ _ _) hb1 (by simp)
    have hlt1 := t1.lt
    have t1c := t1.cell0
    have t1d := t1.cell1
    have hB1 : Below w.heap.size w w1 := (by repeat (first | exact Below.refl _ _ | assumption | (refine Below.trans ?_ (Below.mono (by assumption) (by first | omega | (simp <;> omega)))) | (refine Below.alloc ?_ (by first | omega | (simp <;> omega)) _) | (refine below_drewN ?_ _) | (refine Below.drew ?_) | (refine Below.setCell ?_ (by first | omega | (simp <;> omega)) _)))
    gi_wp2_with fail
    refine ⟨trivial, (callsIn_wide.2 (nearRows_any _ _ _)).mono ?_⟩; rintro e w2 ⟨rfl, rfl⟩
    gi_wp2_with fail
    have bR := (Boxed.new w1 36 (.slice none 0 0)).alloc (.cells #[.int .i64 (N : Int), .int .i64 (S : Int)] 28)
    have bT := Two.new (w1.alloc (.cells #[.slice none 0 0] 36)) (.int .i64 (N : Int)) (.int .i64 (S : Int)) 28
    have hB0 : Below w.heap.size w ((w1.alloc (.cells #[.slice none 0 0] 36)).alloc (.cells #[.int .i64 (N : Int), .int .i64 (S : Int)] 28)) := (hB1.alloc (by omega) _).alloc (by simp; omega) _
    have hsz : ((w1.alloc (.cells #[.slice none 0 0] 36)).alloc (.cells #[.int .i64 (N : Int), .int .i64 (S : Int)] 28)).heap.size = w1.heap.size + 2 := by simp
    rw [World.size_alloc] at bT
    obtain ⟨W0, hW0⟩ : ∃ W0, ((w1.alloc (.cells #[.slice none 0 0] 36)).alloc (.cells #[.int .i64 (N : Int), .int .i64 (S : Int)] 28)) = W0 := ⟨_, rfl⟩
    rw [hW0] at bR bT hB0 hsz ⊢
    clear hW0 t1 t1c t1d hB1 hb1
    refine wpIn_rangeFunc_ownH rfl (by omega) (gf := 68) (lb := #[.pointer (some ⟨w1.heap.size + 1, 0, none⟩)]) rfl trivial (enters_of Tryd.func68 (by kernel_rfl) rfl)
      (hst 5 (by omega) (w1.heap.size + 1) w.heap.size W0 (by omega) bT.cell0 bT.cell1) belowK_t (belowK_b (by omega)) (Below.refl _ _) (fun _ => rfl)
      (fun pre W => (∃ v, Boxed W w1.heap.size 36 v ∧ OwnLL W W0.heap.size v (pre.map rowI)) ∧ Below w.heap.size w W ∧ W0.heap.size ≤ W.heap.size)
      (fun _ _ _ => False)
      (OwnFrom.and (Own.from (fun s A B row hs hg hr => by obtain ⟨v, h1, h2⟩ := hs; exact ⟨v, cells_nc h1 hg hr, h2.nc hg hr⟩) _) (OwnFrom.and (ownFrom_below (Nat.le_refl _) (by omega)) (fun s A B row hs hg hr => Nat.le_trans hs hg.size)))
      (fun _ _ _ _ _ hs _ _ => hs)
      ⟨⟨_, bR, OwnLL.nil _ _⟩, hB0, Nat.le_refl _⟩
      (fun x a' W => ∃ Bx, W0.heap.size ≤ Bx ∧ FourAt W Bx x ∧ a' = { tmps := #[.agg #[.int .i64 N, .int .i64 S], .pointer (some ⟨w.heap.size, 0, none⟩), .slice none 0 0, .pointer (some ⟨w1.heap.size, 0, none⟩), .pointer (some ⟨Bx, 0, none⟩), .agg #[.int .i64 N, .int .i64 S], .bool true, .bool false, .agg #[.int .i64 N, .int .i64 S], .func (.func 68) #[] #[.pointer (some ⟨w1.heap.size + 1, 0, none⟩)], .agg #[.int .i64 (x.p : Int), .int .i64 (x.a : Int), .int .i64 (x.q : Int), .int .i64 (x.b : Int)], undef, undef, undef, undef, undef, undef], defers := [] })
      (fun x a' _ X Y row hs hg hr => by obtain ⟨Bx, h1, h2, h3⟩ := hs; exact ⟨Bx, h1, cells_nc h2 hg (fun r e => (hr r e).2), h3⟩)
      ?assign ?body ?done ?stop
    case assign =>
      rintro l pre x W K ⟨⟨v, bv, ho⟩, hB, hsw⟩ hK
      dsimp only [encR]
      gi_wp2
      exact hK _ _ ((KeepsOthers.alloc _ _).from _) ((Below.refl _ W).alloc (by omega) _) ⟨⟨v, bv.alloc _, ho.below ((Below.refl _ W).alloc (Nat.le_refl _) _)⟩, hB.alloc (by omega) _, by simp; omega⟩ ⟨W.heap.size, hsw, heap_alloc_new W _, rfl⟩
    case body =>
      rintro l pre x a' W hl ⟨r, hr⟩ ⟨⟨v, bv, ho⟩, hB, hsw⟩ ⟨Bx, hBx, h4, rfl⟩ hlt
      have hd : 1 ≤ 6 - 1 - 1 := by omega
      have hmx : Tryd.prog.follows .mixedOrders = true := by kernel_rfl
      have cv := bv.cell
      have fv := bv.frozen
      have hxl := Below.refl W.heap.size W
      have hcl : Calls Tryd.prog 46 #[.slice (some ⟨Bx, 0, none⟩) 4 4] W.drew fun e w' => ∃ g5 c5, e = .returned (.slice (some ⟨g5, 0, none⟩) 4 c5) ∧ OwnL w' W.heap.size (.slice (some ⟨g5, 0, none⟩) 4 c5) (rowI x) ∧ Below W.heap.size W w' := by
        refine (clone_any Bx 0 4 4 (rowI x) W.drew rfl (by omega) (fun j hj => ?_)).mono ?_
        · rw [Nat.zero_add]
          have hc := cell_of_row W.drew Bx j _ _ _ (show W.drew.heap[Bx]? = _ from h4)
          rw [hc]
          match j, hj with
          | 0, _ => rfl
          | 1, _ => rfl
          | 2, _ => rfl
          | 3, _ => rfl
        · rintro e w' ⟨v', rfl, h1, h2⟩
          obtain ⟨g5, c5, rfl, _, _⟩ := World.ownsRow.form (n := 4) h1 (by omega)
          exact ⟨g5, c5, rfl, h1, (hxl.drew).trans h2⟩
      clear hxl
      have HL : Hid ((pre.map rowI).length = pre.length) := List.length_map _
      gi_wp2
      refine wpIn_region_any hmx ?_
      change wpAnyIn _ _ _ _ _ _ _ _ _ (World.drew _)
      refine wpAnyIn_ready (rs := [0, 1]) (by kernel_rfl) (by simp) (AllReadyIn.cons rfl (fun K hK => ?_) (AllReadyIn.cons rfl (fun K hK => ?_) AllReadyIn.nil))
      · go_simp
        refine hK _ _ ?_
        clear hK K
        refine wpAnyIn_ready (rs := [1]) (by kernel_rfl) (by simp) (AllReadyIn.cons rfl (fun K hK => ?_) AllReadyIn.nil)
        go_simp
        refine hK _ _ ?_
        clear hK K
        refine wpAnyIn_ready (rs := [2]) (by kernel_rfl) (by simp) (AllReadyIn.cons rfl (fun K hK => ?_) AllReadyIn.nil)
        go_simp
        refine ⟨trivial, (CallsIn.inRound l (callsIn_wide.2 hcl)).mono ?_⟩
        rintro e w' ⟨g5, c5, rfl, ho5, hb5⟩
        have bv5 : Boxed w' w1.heap.size 36 v := (hb5.block _ bv.lt).trans bv
        have cv5 := bv5.cell
        refine hK _ _ ?_
        clear hK K
        refine wpAnyIn_ready (rs := [3]) (by kernel_rfl) (by simp) (AllReadyIn.cons rfl (fun K hK => ?_) AllReadyIn.nil)
        go_simp
        have cvA := (bv5.alloc (.cells #[.slice (some ⟨g5, 0, none⟩) 4 c5] 33)).cell
        refine hK _ _ ?_
        clear hK K
        refine wpAnyIn_ready (rs := [4]) (by kernel_rfl) (by simp) (AllReadyIn.cons rfl (fun K hK => ?_) AllReadyIn.nil)
        have hbA : Below W.heap.size W (w'.alloc (.cells #[.slice (some ⟨g5, 0, none⟩) 4 c5] 33)) := hb5.alloc hb5.size _
        refine step_row_in rfl _ _ rfl W0.heap.size v (pre.map rowI) pre.length HL (by omega) rfl ho hbA hsw (OwnL.below ho5 ((Below.refl _ _).alloc (Nat.le_refl _) _)) w'.heap.size 1 rfl (heap_alloc_new w' _) ?_
        intro g6 c6 w6 ho6 hb6 hk6
        have bv6 : Boxed w6 w1.heap.size 36 v := (hb6.block _ (by omega)).trans (bv5.alloc _)
        have cv6 := bv6.cell
        have fv6 := bv6.frozen
        refine hK _ _ ?_
        clear hK K
        refine wpAnyIn_ready (rs := [5]) (by kernel_rfl) (by simp) (AllReadyIn.cons rfl (fun K hK => ?_) AllReadyIn.nil)
        go_simp
        refine hK _ _ ?_
        clear hK K
        refine wpAnyIn_done (by kernel_rfl) ?_ _
        have hKF : KeepsFrom W0.heap.size W (w6.setCell ⟨w1.heap.size, 0, none⟩ (.slice (some ⟨g6, 0, none⟩) (pre.length + 1) c6)) := ⟨by have h1 := hbA.size; have h2 := hk6.size; simp; omega, fun k o hB hk ho => (KeepsOthers.setCell w6 ⟨w1.heap.size, 0, none⟩ _).same k o (hk6.same k o ((hbA.block k (Array.getElem?_eq_some_iff.1 hk).1).trans hk) ho) ho⟩
        exact ⟨hKF, ((hbA.mono hB.size).trans (hb6.mono (by omega))).setCell (p := ⟨w1.heap.size, 0, none⟩) (by simp; omega) _, ⟨⟨_, bv6.set _, by rw [List.map_append]; exact OwnLL.setBox ho6 bv6 _⟩, (hB.trans ((hbA.mono hB.size).trans (hb6.mono (by omega)))).setCell (p := ⟨w1.heap.size, 0, none⟩) (by simp; omega) _, by have h1 := hbA.size; have h2 := hk6.size; simp; omega⟩⟩
      · go_simp
        refine hK _ _ ?_
        clear hK K
        refine wpAnyIn_ready (rs := [0, 2]) (by kernel_rfl) (by simp) (AllReadyIn.cons rfl (fun K hK => ?_) (AllReadyIn.cons rfl (fun K hK => ?_) AllReadyIn.nil))
        · go_simp
          refine hK _ _ ?_
          clear hK K
          refine wpAnyIn_ready (rs := [2]) (by kernel_rfl) (by simp) (AllReadyIn.cons rfl (fun K hK => ?_) AllReadyIn.nil)
          go_simp
          refine ⟨trivial, (CallsIn.inRound l (callsIn_wide.2 hcl)).mono ?_⟩
          rintro e w' ⟨g5, c5, rfl, ho5, hb5⟩
          have bv5 : Boxed w' w1.heap.size 36 v := (hb5.block _ bv.lt).trans bv
          have cv5 := bv5.cell
          refine hK _ _ ?_
          clear hK K
          refine wpAnyIn_ready (rs := [3]) (by kernel_rfl) (by simp) (AllReadyIn.cons rfl (fun K hK => ?_) AllReadyIn.nil)
          go_simp
          have cvA := (bv5.alloc (.cells #[.slice (some ⟨g5, 0, none⟩) 4 c5] 33)).cell
          refine hK _ _ ?_
          clear hK K
          refine wpAnyIn_ready (rs := [4]) (by kernel_rfl) (by simp) (AllReadyIn.cons rfl (fun K hK => ?_) AllReadyIn.nil)
          have hbA : Below W.heap.size W (w'.alloc (.cells #[.slice (some ⟨g5, 0, none⟩) 4 c5] 33)) := hb5.alloc hb5.size _
          refine step_row_in rfl _ _ rfl W0.heap.size v (pre.map rowI) pre.length HL (by omega) rfl ho hbA hsw (OwnL.below ho5 ((Below.refl _ _).alloc (Nat.le_refl _) _)) w'.heap.size 1 rfl (heap_alloc_new w' _) ?_
          intro g6 c6 w6 ho6 hb6 hk6
          have bv6 : Boxed w6 w1.heap.size 36 v := (hb6.block _ (by omega)).trans (bv5.alloc _)
          have cv6 := bv6.cell
          have fv6 := bv6.frozen
          refine hK _ _ ?_
          clear hK K
          refine wpAnyIn_ready (rs := [5]) (by kernel_rfl) (by simp) (AllReadyIn.cons rfl (fun K hK => ?_) AllReadyIn.nil)
          go_simp
          refine hK _ _ ?_
          clear hK K
          refine wpAnyIn_done (by kernel_rfl) ?_ _
          have hKF : KeepsFrom W0.heap.size W (w6.setCell ⟨w1.heap.size, 0, none⟩ (.slice (some ⟨g6, 0, none⟩) (pre.length + 1) c6)) := ⟨by have h1 := hbA.size; have h2 := hk6.size; simp; omega, fun k o hB hk ho => (KeepsOthers.setCell w6 ⟨w1.heap.size, 0, none⟩ _).same k o (hk6.same k o ((hbA.block k (Array.getElem?_eq_some_iff.1 hk).1).trans hk) ho) ho⟩
          exact ⟨hKF, ((hbA.mono hB.size).trans (hb6.mono (by omega))).setCell (p := ⟨w1.heap.size, 0, none⟩) (by simp; omega) _, ⟨⟨_, bv6.set _, by rw [List.map_append]; exact OwnLL.setBox ho6 bv6 _⟩, (hB.trans ((hbA.mono hB.size).trans (hb6.mono (by omega)))).setCell (p := ⟨w1.heap.size, 0, none⟩) (by simp; omega) _, by have h1 := hbA.size; have h2 := hk6.size; simp; omega⟩⟩
        · go_simp
          refine ⟨trivial, (CallsIn.inRound l (callsIn_wide.2 hcl)).mono ?_⟩
          rintro e w' ⟨g5, c5, rfl, ho5, hb5⟩
          have bv5 : Boxed w' w1.heap.size 36 v := (hb5.block _ bv.lt).trans bv
          have cv5 := bv5.cell
          refine hK _ _ ?_
          clear hK K
          refine wpAnyIn_ready (rs := [0, 3]) (by kernel_rfl) (by simp) (AllReadyIn.cons rfl (fun K hK => ?_) (AllReadyIn.cons rfl (fun K hK => ?_) AllReadyIn.nil))
          · go_simp
            refine hK _ _ ?_
            clear hK K
            refine wpAnyIn_ready (rs := [3]) (by kernel_rfl) (by simp) (AllReadyIn.cons rfl (fun K hK => ?_) AllReadyIn.nil)
            go_simp
            have cvA := (bv5.alloc (.cells #[.slice (some ⟨g5, 0, none⟩) 4 c5] 33)).cell
            refine hK _ _ ?_
            clear hK K
            refine wpAnyIn_ready (rs := [4]) (by kernel_rfl) (by simp) (AllReadyIn.cons rfl (fun K hK => ?_) AllReadyIn.nil)
            have hbA : Below W.heap.size W (w'.alloc (.cells #[.slice (some ⟨g5, 0, none⟩) 4 c5] 33)) := hb5.alloc hb5.size _
            refine step_row_in rfl _ _ rfl W0.heap.size v (pre.map rowI) pre.length HL (by omega) rfl ho hbA hsw (OwnL.below ho5 ((Below.refl _ _).alloc (Nat.le_refl _) _)) w'.heap.size 1 rfl (heap_alloc_new w' _) ?_
            intro g6 c6 w6 ho6 hb6 hk6
            have bv6 : Boxed w6 w1.heap.size 36 v := (hb6.block _ (by omega)).trans (bv5.alloc _)
            have cv6 := bv6.cell
            have fv6 := bv6.frozen
            refine hK _ _ ?_
            clear hK K
            refine wpAnyIn_ready (rs := [5]) (by kernel_rfl) (by simp) (AllReadyIn.cons rfl (fun K hK => ?_) AllReadyIn.nil)
            go_simp
            refine hK _ _ ?_
            clear hK K
            refine wpAnyIn_done (by kernel_rfl) ?_ _
            have hKF : KeepsFrom W0.heap.size W (w6.setCell ⟨w1.heap.size, 0, none⟩ (.slice (some ⟨g6, 0, none⟩) (pre.length + 1) c6)) := ⟨by have h1 := hbA.size; have h2 := hk6.size; simp; omega, fun k o hB hk ho => (KeepsOthers.setCell w6 ⟨w1.heap.size, 0, none⟩ _).same k o (hk6.same k o ((hbA.block k (Array.getElem?_eq_some_iff.1 hk).1).trans hk) ho) ho⟩
            exact ⟨hKF, ((hbA.mono hB.size).trans (hb6.mono (by omega))).setCell (p := ⟨w1.heap.size, 0, none⟩) (by simp; omega) _, ⟨⟨_, bv6.set _, by rw [List.map_append]; exact OwnLL.setBox ho6 bv6 _⟩, (hB.trans ((hbA.mono hB.size).trans (hb6.mono (by omega)))).setCell (p := ⟨w1.heap.size, 0, none⟩) (by simp; omega) _, by have h1 := hbA.size; have h2 := hk6.size; simp; omega⟩⟩
          · go_simp
            have cvA := (bv5.alloc (.cells #[.slice (some ⟨g5, 0, none⟩) 4 c5] 33)).cell
            refine hK _ _ ?_
            clear hK K
            refine wpAnyIn_ready (rs := [0]) (by kernel_rfl) (by simp) (AllReadyIn.cons rfl (fun K hK => ?_) AllReadyIn.nil)
            go_simp
            refine hK _ _ ?_
            clear hK K
            refine wpAnyIn_ready (rs := [4]) (by kernel_rfl) (by simp) (AllReadyIn.cons rfl (fun K hK => ?_) AllReadyIn.nil)
            have hbA : Below W.heap.size W (w'.alloc (.cells #[.slice (some ⟨g5, 0, none⟩) 4 c5] 33)) := hb5.alloc hb5.size _
            refine step_row_in rfl _ _ rfl W0.heap.size v (pre.map rowI) pre.length HL (by omega) rfl ho hbA hsw (OwnL.below ho5 ((Below.refl _ _).alloc (Nat.le_refl _) _)) w'.heap.size 1 rfl (heap_alloc_new w' _) ?_
            intro g6 c6 w6 ho6 hb6 hk6
            have bv6 : Boxed w6 w1.heap.size 36 v := (hb6.block _ (by omega)).trans (bv5.alloc _)
            have cv6 := bv6.cell
            have fv6 := bv6.frozen
            refine hK _ _ ?_
            clear hK K
            refine wpAnyIn_ready (rs := [5]) (by kernel_rfl) (by simp) (AllReadyIn.cons rfl (fun K hK => ?_) AllReadyIn.nil)
            go_simp
            refine hK _ _ ?_
            clear hK K
            refine wpAnyIn_done (by kernel_rfl) ?_ _
            have hKF : KeepsFrom W0.heap.size W (w6.setCell ⟨w1.heap.size, 0, none⟩ (.slice (some ⟨g6, 0, none⟩) (pre.length + 1) c6)) := ⟨by have h1 := hbA.size; have h2 := hk6.size; simp; omega, fun k o hB hk ho => (KeepsOthers.setCell w6 ⟨w1.heap.size, 0, none⟩ _).same k o (hk6.same k o ((hbA.block k (Array.getElem?_eq_some_iff.1 hk).1).trans hk) ho) ho⟩
            exact ⟨hKF, ((hbA.mono hB.size).trans (hb6.mono (by omega))).setCell (p := ⟨w1.heap.size, 0, none⟩) (by simp; omega) _, ⟨⟨_, bv6.set _, by rw [List.map_append]; exact OwnLL.setBox ho6 bv6 _⟩, (hB.trans ((hbA.mono hB.size).trans (hb6.mono (by omega)))).setCell (p := ⟨w1.heap.size, 0, none⟩) (by simp; omega) _, by have h1 := hbA.size; have h2 := hk6.size; simp; omega⟩⟩
    case done =>
      rintro D ys W hD rfl ⟨⟨v, bv, ho⟩, hB, hsw⟩ hK
      have cv := bv.cell
      rw [← HR.out] at ho
      gi_wp2
      refine ⟨by simp, .inl ⟨_, _, rfl, run_takeDeferred hK, ?_⟩⟩
      exact ⟨_, results_tmp rfl _ _ _, v, rfl, (ho.nc (grownBy_putObj' W D (.deferred none)) (fun r e => by cases e; exact ⟨_, hK, rfl⟩)).mono (by omega), hB.trans (belowK_b (w := w) (Nat.le_refl _) W D _ _ (by omega) hK rfl rfl)⟩
    case stop =>
      rintro D c pre W _ _ h _
      exact h.elim
  · 
    rw [ruleF_no ht]
    have ht' : tok n s = false := by simpa using ht
    go_enter Tryd.func22, Tryd.ntmps22
    go_wp2_with fail
    refine (turnOk_any _ _ _).mono ?_; rintro e w1 ⟨rfl, hb1⟩
    have hz1 := hb1.size
    try simp at hz1
    have t1 : Two w1 (w.heap.size) (.int .i64 n) (.int .i64 s) 28 := Two.below (by repeat (first | assumption | exact Two.new' _ _ _ _ _ (by simp) | refine Two.alloc ?_ _ | refine Two.drewN ?_ _)) hb1 (by first | omega | (simp <;> omega))
    have hlt1 : (w.heap.size) < w1.heap.size := t1.lt
    have hnt1 : ¬ (w.heap.size) = w1.heap.size := Nat.ne_of_lt hlt1
    have t1c := t1.cell0
    have t1d := t1.cell1
    rw [ht']
    go_wp2
    go_ret
    exact ⟨_, rfl, OwnLL.nil _ _, (by repeat (first | exact Below.refl _ _ | assumption | (refine Below.trans ?_ (Below.mono (by assumption) (by first | omega | (simp <;> omega)))) | (refine Below.alloc ?_ (by first | omega | (simp <;> omega)) _) | (refine below_drewN ?_ _) | (refine Below.drew ?_) | (refine Below.setCell ?_ (by first | omega | (simp <;> omega)) _)))⟩
end Go.Proofs.YtckkgjgfjnfeoaaDoor
