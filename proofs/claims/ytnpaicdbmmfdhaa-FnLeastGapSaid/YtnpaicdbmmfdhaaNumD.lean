/- Contracts of chapter 9's functions of the model: digits of a number. -/
import Derived.Test.YtnpaicdbmmfdhaaNumS
import Derived.Test.YtnpaicdbmmfdhaaNumG
set_option linter.unusedVariables false
namespace Go.Proofs.Ytnpaicdbmmfdhaa

set_option maxRecDepth 4000
open Go.ChangeShapes Go.WideShapes Go.ChangeAt Go.RowKit Go.Joins

/-- a list put behind a list of the call's own -/
theorem append_list {W : World} {ops : Array Oper} {rest : List Oper} {o : Oper} {a : Act} {Q : Exit → Act → World → Prop} (hgd : o.guard = none) (S X : Operand)
    (ho : o.op = .call { callee := .builtin .append, args := #[S, X], argTypes := #[30, 30] })
    (b : Nat) (v : Value) (xs ys : List Int) (L M g cap : Nat) (HL : Hid (xs.length = L)) (HM : Hid (ys.length = M)) (hL : L ≤ 100000) (hM : M ≤ 100000) (hs : a.eval S = v) (hown : OwnL W b v xs) (hb : b ≤ W.heap.size)
    (hx : a.eval X = .slice (some ⟨g, 0, none⟩) M cap) (hy : Hid (∀ i, i < M → W.cell? ⟨g, i, none⟩ = some (.int .i64 (ys.getD i 0))))
    (h : ∀ v' w', OwnL w' b v' (xs ++ ys) → Below b W w' → wpList Try.prog ops Q rest (a.put o.dst v') w') :
    wpList Try.prog ops Q (o :: rest) a W := by
  obtain ⟨i0, hi, iz0, iz1, iz2⟩ := info_parts infoInt
  have hown1 : W.ownsRow b 3 1 v L (xs.map (Value.int .i64)) := by rw [← HL.out]; exact hown
  refine wpList_append_own _ hgd S X 30 ho b 3 i0 (.int .i64 0) 1 8 Try.underlying30 hi iz0 iz1 iz2 rfl (by decide) v L _ hs hown1 ⟨g, 0, none⟩ M cap (ys.map (Value.int .i64)) hx (by rw [List.length_map, HM.out]; omega) ?c1 ?c2 ?c3 ?c4 hb ?_
  case c1 =>
    intro j u hj
    have hjl : j < M := by
      have := (List.getElem?_eq_some_iff.1 hj).1
      rw [List.length_map, HM.out] at this; exact this
    have e : (⟨g, 0, none⟩ : Addr).add j = ⟨g, j, none⟩ := by
      simp [Addr.add]
      intro h; exact h.symm
    rw [e, hy.out j hjl, ← hj, List.getElem?_map, List.getD_eq_getElem?_getD, List.getElem?_eq_getElem (by rw [HM.out]; exact hjl)]
    rfl
  case c2 =>
    intro u hu
    obtain ⟨x, _, rfl⟩ := List.mem_map.1 hu
    rfl
  case c3 => unfold maxLen; omega
  case c4 => omega
  intro v' w' h1 h2 h3
  have hlb := World.ownsRow.lt hown1
  have ho' : OwnL w' b v' (xs ++ ys) := by
    unfold OwnL
    rw [List.length_append, List.map_append, HL.out, HM.out]
    exact h1
  exact h v' w' ho' ((Below.refl b W).grown h2 hb (fun q hq => by have := hlb q hq; omega))

def outD (B : Nat → Nat) (m K j : Nat) : List Nat := (List.range j).map fun i => digD B m K (m - j + i)

theorem outD_succ (B : Nat → Nat) {m K j : Nat} (h : j < m) : outD B m K (j + 1) = digD B m K (m - 1 - j) :: outD B m K j := by
  unfold outD
  rw [List.range_succ_eq_map, List.map_cons, List.map_map]
  congr 1
  · rw [show m - (j + 1) + 0 = m - 1 - j by omega]
  · refine List.map_congr_left fun i _ => ?_
    show digD B m K (m - (j + 1) + (i + 1)) = _
    rw [show m - (j + 1) + (i + 1) = m - j + i by omega]

theorem outD_all (B : Nat → Nat) (m K : Nat) : outD B m K m = (List.range m).map (digD B m K) := by
  unfold outD
  refine List.map_congr_left fun i _ => ?_
  rw [Nat.sub_self, Nat.zero_add]

theorem outD_len (B : Nat → Nat) (m K j : Nat) : (outD B m K j).length = j := by simp [outD]

theorem remD_le (B : Nat → Nat) (m K : Nat) : ∀ j, remD B m K j ≤ K := by
  intro j
  induction j with
  | zero => exact Nat.le_refl _
  | succ j ih => exact Nat.le_trans (Nat.mod_le _ _) ih

end Go.Proofs.Ytnpaicdbmmfdhaa
