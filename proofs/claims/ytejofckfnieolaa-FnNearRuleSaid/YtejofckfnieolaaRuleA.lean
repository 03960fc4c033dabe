/- One row appended to a list of lists: the run, and a step of a drawn region within a round of a range over a function. -/
import Derived.Test.YtejofckfnieolaaRuleK
set_option linter.unusedVariables false
namespace Go.Proofs.Ytejofckfnieolaa

set_option maxRecDepth 4000
open Go.ChangeShapes Go.WideShapes Go.ChangeAt Go.RowKit Go.Joins Go.Shelf

theorem run_append_row {Wb Wp : World} {r : Value} {L : List Int} (ty : TypeId) (b : Nat) (v : Value) (Ls : List (List Int)) (N : Nat) (HL : Ls.length = N) (hL : N ≤ 100000) (hownp : OwnLL Wp b v Ls) (hB : Below Wp.heap.size Wp Wb) (hb : b ≤ Wp.heap.size)
    (hr : OwnL Wb Wp.heap.size r L) (B c : Nat) (hBk : Wb.heap[B]? = some (.cells #[r] 26 (0, 0))) :
    ∃ g cap w', (Builtin.append_ #[31, 31] ty #[v, .slice (some ⟨B, 0, none⟩) 1 c]).run Try.prog Wb = .ok (.slice (some ⟨g, 0, none⟩) (N + 1) cap) w' ∧
      OwnLL w' b (.slice (some ⟨g, 0, none⟩) (N + 1) cap) (Ls ++ [L]) ∧ Below b Wb w' ∧ KeepsOthers Wb w' := by
  subst HL
  obtain ⟨i0, hi, iz0, iz1, iz2⟩ := info_parts infoRow
  have hlt : ∀ i, i < Ls.length → ∀ g, (hownp.choose.getD i undef).ownBlock = some g → g < Wp.heap.size := fun i hi g hg => ((World.ownsRow.lt (hownp.choose_spec.2.2.1 i hi)) g hg).2
  have hbW : b ≤ Wb.heap.size := Nat.le_trans hb hB.size
  obtain ⟨h1, h2p, h3p, h4⟩ := hownp.choose_spec
  generalize hownp.choose = rs at *
  have h2 : Wb.ownsRow b 26 1 v Ls.length rs := World.ownsRow.kept h2p (row := none) ⟨hB.os, hB.tape, hB.output, hB.size, fun k hk _ => hB.block k hk⟩ (by cases v.ownBlock <;> simp)
  have h3 : ∀ i, i < Ls.length → OwnL Wb b (rs.getD i undef) (Ls.getD i []) := fun i hi => (h3p i hi).below hB
  have hone : ∀ u ∈ [r], Value.oneCell' u = true := by
    intro u hu
    simp at hu
    subst hu
    rcases hr.2 with ⟨e, _⟩ | ⟨g, cap, cur, e, _⟩ <;> rw [e] <;> rfl
  obtain ⟨g, cap, w', hrun, a1, a2, _, _⟩ := run_append_lies (P := Try.prog) Wb 31 ty b 26 i0 (.slice none 0 0) 1 24 Try.underlying31 hi iz0 iz1 iz2 rfl (by decide) v Ls.length rs h2 ⟨B, 0, none⟩ 1 c [r] rfl (World.news_of_block (cs := #[r]) hBk) hone (by omega) (by unfold maxLen; omega) (by omega) hbW _ rfl
  have hlb := World.ownsRow.lt h2
  refine ⟨g, cap, w', hrun, ?_, (Below.refl b Wb).grown a2 hbW (fun q hq => (hlb q hq).1), ?_⟩
  · refine ⟨rs ++ [r], by simp [h1], ?_, fun i hi => ?_, fun i j hij hj => ?_⟩
    · rw [List.length_append]; exact a1
    · rw [List.length_append, List.length_singleton] at hi
      by_cases c : i < Ls.length
      · rw [getD_left (by omega), getL_left c]
        exact World.ownsRow.kept (h3 i c) a2 (own_types h2 (h3 i c))
      · rw [getD_last (by omega), getL_last (by omega)]
        exact OwnL.mono (World.ownsRow.kept hr a2 (own_types h2 hr)) hb
    · rw [List.length_append, List.length_singleton] at hj
      by_cases c : j < Ls.length
      · rw [getD_left (by omega), getD_left (by omega)]
        exact h4 i j hij c
      · rw [getD_left (by omega), getD_last (by omega)]
        cases e : (rs.getD i undef).ownBlock with
        | none => exact .inl rfl
        | some g =>
          right
          intro e2
          have := hlt i (by omega) g e
          have := (World.ownsRow.lt hr g e2.symm).1
          omega
  · refine KeepsOthers.of_grownBy a2 fun j o ej hj => ?_
    rcases h2.2 with ⟨rfl, _⟩ | ⟨g, cap, cur, rfl, _, hgb, _⟩
    · simp [Value.ownBlock] at ej
    · obtain rfl : g = j := by simpa [Value.ownBlock] using ej
      rw [hgb] at hj; cases hj; rfl

/-- at a step of a region that draws its order, within a round -/
theorem step_row_in {Wb Wp : World} {r : Value} {L : List Int} {l n : Nat} {ops : Array Oper} {o : Oper} {a : Act} {K : Act → World → Prop} {Q : Exit → Act → World → Prop} {E : Prop} (hgd : o.guard = none) (S X : Operand)
    (ho : o.op = .call { callee := .builtin .append, args := #[S, X], argTypes := #[31, 31] })
    (b : Nat) (v : Value) (Ls : List (List Int)) (N : Nat) (HL : Hid (Ls.length = N)) (hL : N ≤ 100000) (hs : a.eval S = v) (hownp : OwnLL Wp b v Ls) (hB : Below Wp.heap.size Wp Wb) (hb : b ≤ Wp.heap.size)
    (hr : OwnL Wb Wp.heap.size r L) (B c : Nat) (hx : a.eval X = .slice (some ⟨B, 0, none⟩) 1 c) (hBk : Wb.heap[B]? = some (.cells #[r] 26 (0, 0)))
    (h : ∀ g cap w', OwnLL w' b (.slice (some ⟨g, 0, none⟩) (N + 1) cap) (Ls ++ [L]) → Below b Wb w' → KeepsOthers Wb w' → K (a.put o.dst (.slice (some ⟨g, 0, none⟩) (N + 1) cap)) w') :
    if Region.wanted o (yielded ops a.tmps) = true then Oper.wpIn (Fence.wide.inRound l) n Try.prog o a Wb K Q else E := by
  have hw : Region.wanted o (yielded ops a.tmps) = true := by simp [Region.wanted, hgd]
  rw [if_pos hw]
  obtain ⟨g, cap, w', hrun, h1, h2, h3⟩ := run_append_row (Wb := Wb) o.type b v Ls N HL.out hL hownp hB hb hr B c hBk
  unfold Oper.wpIn
  refine ⟨fun _ _ => trivial, ?_⟩
  rw [show (Fence.wide.inRound l).round = some l from rfl, Oper.semAt_some l _ o (fun c h => by rw [ho] at h; cases h)]
  unfold execOp
  simp only [ho, resolve, invoke, builtin, Sem.run_bind, Sem.run_pure, Result.andThen_ok, List.map_toArray, List.map_cons, List.map_nil, hs, hx, hrun, Oper.uponIn_value]
  exact h g cap w' h1 h2 h3
end Go.Proofs.Ytejofckfnieolaa
