/- Contracts of chapter 9's functions of the model: digits of a number. -/
import Derived.Test.YtdkmghbbnkppcaaNumS
import Derived.Test.YtdkmghbbnkppcaaNumG
set_option linter.unusedVariables false
namespace Go.Proofs.Ytdkmghbbnkppcaa

set_option maxRecDepth 4000
open Go.ChangeShapes Go.WideShapes Go.ChangeAt Go.RowKit Go.Joins

/-- a list put behind a list of the call's own -/
theorem append_list {W : World} {ops : Array Oper} {rest : List Oper} {o : Oper} {a : Act} {Q : Exit → Act → World → Prop} (hgd : o.guard = none) (S X : Operand)
    (ho : o.op = .call { callee := .builtin .append, args := #[S, X], argTypes := #[26, 26] })
    (b : Nat) (v : Value) (xs ys : List Int) (L M g cap : Nat) (HL : Hid (xs.length = L)) (HM : Hid (ys.length = M)) (hL : L ≤ 100000) (hM : M ≤ 100000) (hs : a.eval S = v) (hown : OwnL W b v xs) (hb : b ≤ W.heap.size)
    (hx : a.eval X = .slice (some ⟨g, 0, none⟩) M cap) (hy : Hid (∀ i, i < M → W.cell? ⟨g, i, none⟩ = some (.int .i64 (ys.getD i 0))))
    (h : ∀ v' w', OwnL w' b v' (xs ++ ys) → Below b W w' → wpList Try.prog ops Q rest (a.put o.dst v') w') :
    wpList Try.prog ops Q (o :: rest) a W := by
  obtain ⟨i0, hi, iz0, iz1, iz2⟩ := info_parts infoInt
  have hown1 : W.ownsRow b 3 1 v L (xs.map (Value.int .i64)) := by rw [← HL.out]; exact hown
  refine wpList_append_own _ hgd S X 26 ho b 3 i0 (.int .i64 0) 1 8 Try.underlying26 hi iz0 iz1 iz2 rfl (by decide) v L _ hs hown1 ⟨g, 0, none⟩ M cap (ys.map (Value.int .i64)) hx (by rw [List.length_map, HM.out]; omega) ?c1 ?c2 ?c3 ?c4 hb ?_
  case c1 =>
    intro j u hj
    have hjl : j < M := by
      have := (List.getElem?_eq_some_iff.1 hj).1
      rw [List.length_map, HM.out] at this; exact this
    have e : (⟨g, 0, none⟩ : Addr).add j = ⟨g, j, none⟩ := by
      simp [Addr.add]
      intro h; exact h.symm
    rw [e, hy.out j hjl, ← hj, List.getElem?_map, List.getD_eq_getElem?_getD, List.getElem?_eq_getElem (by rw [HM.out]; exact hjl)]
    rfl
  case c2 =>
    intro u hu
    obtain ⟨x, _, rfl⟩ := List.mem_map.1 hu
    rfl
  case c3 => unfold maxLen; omega
  case c4 => omega
  intro v' w' h1 h2 h3
  have hlb := World.ownsRow.lt hown1
  have ho' : OwnL w' b v' (xs ++ ys) := by
    unfold OwnL
    rw [List.length_append, List.map_append, HL.out, HM.out]
    exact h1
  exact h v' w' ho' ((Below.refl b W).grown h2 hb (fun q hq => by have := hlb q hq; omega))

def outD (B : Nat → Nat) (m K j : Nat) : List Nat := (List.range j).map fun i => digD B m K (m - j + i)

theorem outD_succ (B : Nat → Nat) {m K j : Nat} (h : j < m) : outD B m K (j + 1) = digD B m K (m - 1 - j) :: outD B m K j := by
  unfold outD
  rw [List.range_succ_eq_map, List.map_cons, List.map_map]
  congr 1
  · rw [show m - (j + 1) + 0 = m - 1 - j by omega]
  · refine List.map_congr_left fun i _ => ?_
    show digD B m K (m - (j + 1) + (i + 1)) = _
    rw [show m - (j + 1) + (i + 1) = m - j + i by omega]

theorem outD_all (B : Nat → Nat) (m K : Nat) : outD B m K m = (List.range m).map (digD B m K) := by
  unfold outD
  refine List.map_congr_left fun i _ => ?_
  rw [Nat.sub_self, Nat.zero_add]

theorem outD_len (B : Nat → Nat) (m K j : Nat) : (outD B m K j).length = j := by simp [outD]

theorem remD_le (B : Nat → Nat) (m K : Nat) : ∀ j, remD B m K j ≤ K := by
  intro j
  induction j with
  | zero => exact Nat.le_refl _
  | succ j ih => exact Nat.le_trans (Nat.mod_le _ _) ih

set_option maxHeartbeats 4000000 in
theorem specDigits9_any (v : Value) (bs : List Nat) (B : Nat → Nat) (m K b : Nat) (w : World) (hv : OwnL w b v (castL bs)) (hl : bs.length = m) (hm : 1 ≤ m) (hm8 : m ≤ 8)
    (hB : ∀ i, i < m → bs.getD i 0 = B i ∧ 1 ≤ B i ∧ B i ≤ 60) (hK : K ≤ 60) :
    Calls Try.prog 66 #[v, .int .i64 (K : Int)] w (ListPost (castL ((List.range m).map (digD B m K))) w) := by
  obtain ⟨g, cap, cur, rfl, hbg, hr, _, hnc, _, hc⟩ := hv.rowI (N := m) (by rw [castL_len, hl]) (by omega)
  have HC : Hid (∀ i, i < m → w.cell? ⟨g, i, none⟩ = some (.int .i64 ((B i : Nat) : Int))) := fun i hi => by rw [hr.cell, hc i hi, castL_getD, (hB i hi).1]
  have HB : Hid (∀ i, i < m → 1 ≤ B i ∧ B i ≤ 60) := fun i hi => (hB i hi).2
  have lg := hr.lt
  have HA := Lib.hid (outD_all B m K)
  have HR : Hid (∀ j, remD B m K j ≤ K) := remD_le B m K
  have hnil := made_nil w
  have hB0 : Below w.heap.size w (w.alloc (.cells #[] 3)) := (by repeat (first | exact Below.refl _ _ | assumption | (refine Below.trans ?_ (Below.mono (by assumption) (by first | omega | (simp <;> omega)))) | (refine Below.alloc ?_ (by first | omega | (simp <;> omega)) _) | (refine below_drewN ?_ _) | (refine Below.drew ?_) | (refine Below.setCell ?_ (by first | omega | (simp <;> omega)) _)))
  have hwm : IntKind.i64.wrap ((m : Int) - 1) = (m : Int) - 1 := IntWalk.i64_in _ (by omega)
  clear hv hr hc hB hl
  go_enter Try.func66, Try.ntmps66
  go_wp2_with fail
  go_loopw [1, 5, 6] (fun x o y wr => ∃ (j : Nat) (vo : Value), x = .int .i64 ((remD B m K j : Nat) : Int) ∧ vo = o ∧ y = .int .i64 ((m : Int) - 1 - j) ∧ j ≤ m ∧ OwnL wr w.heap.size vo (castL (outD B m K j)) ∧ Hid (∃ g' cap', vo = .slice (some ⟨g', 0, none⟩) j cap') ∧ Below w.heap.size w wr) (fun _ _ y _ => (intOf y + 1).toNat)
  case atStart => exact ⟨0, _, rfl, rfl, by simp, by omega, hnil, ⟨_, _, rfl⟩, hB0⟩
  case round =>
    obtain ⟨j, vo, rfl, rfl, rfl, hj, ho, hs, hBw⟩ := hrel
    clear hnil hB0
    have hz := hBw.size
    by_cases hjm : j < m
    · obtain ⟨d, hd⟩ : ∃ d, m - 1 - j = d := ⟨_, rfl⟩
      have hdi : (m : Int) - 1 - j = d := by omega
      rw [hdi]
      have hb := HB.out d (by omega)
      have ck := (hBw.cell (p := ⟨g, d, none⟩) lg).trans (HC.out d (by omega))
      have hRj := HR.out j
      have hdig : digD B m K d = remD B m K j / B d := by unfold digD; rw [show m - 1 - d = j by omega]
      have hrem : remD B m K (j + 1) = remD B m K j % B d := by rw [← hd]; rfl
      have hout := outD_succ B (K := K) hjm
      rw [hd] at hout
      obtain ⟨g', cap', rfl⟩ := hs.out
      have hy : Hid (∀ i, i < j → wr.cell? ⟨g', i, none⟩ = some (.int .i64 ((castL (outD B m K j)).getD i 0))) := fun i hi => by
        obtain ⟨g2, cap2, cur2, e2, _, hr2, _, _, _, hc2⟩ := ho.rowI (N := j) (by rw [castL_len, outD_len]) (by omega)
        injection e2 with e3
        injection e3 with e3
        injection e3 with e3
        subst e3
        rw [hr2.cell, hc2 i hi]
      have hlg' : g' < wr.heap.size := (World.ownsRow.lt ho g' rfl).2
      have hcl : Hid ((castL (outD B m K j)).length = j) := by show _ = _; rw [castL_len, outD_len]
      have hcat : [((digD B m K d : Nat) : Int)] ++ castL (outD B m K j) = castL (outD B m K (j + 1)) := by rw [hout]; rfl
      have hlen1 : (outD B m K (j + 1)).length = j + 1 := outD_len _ _ _ _
      obtain ⟨O1, hO1⟩ : ∃ O, outD B m K (j + 1) = O := ⟨_, rfl⟩
      rw [hO1] at hcat hlen1
      have HO1 := Lib.hid hO1
      clear hO1 hout
      generalize outD B m K j = O0 at *
      rw [hdig] at hcat
      obtain ⟨R1, hR1⟩ : ∃ R, remD B m K (j + 1) = R := ⟨_, rfl⟩
      rw [hR1] at hrem
      have HR1e := Lib.hid hR1
      clear hR1
      generalize remD B m K j = R0 at *
      have HR1 := Lib.hid hrem
      obtain ⟨Bd, hBd⟩ : ∃ Bd, B d = Bd := ⟨_, rfl⟩
      rw [hBd] at ck hb hcat hrem HR1
      have hpos : (0 : Int) < Bd := by omega
      have hne : ¬ (Bd : Int) = 0 := by omega
      have eq1 : (R0 : Int) / (Bd : Int) = ((R0 / Bd : Nat) : Int) := by simp
      have eq2 : (R0 : Int) % (Bd : Int) = ((R0 % Bd : Nat) : Int) := by simp
      have eq3 : (R0 : Int).tdiv (Bd : Int) = ((R0 / Bd : Nat) : Int) := by rw [Int.tdiv_eq_ediv_of_nonneg (by omega)]; simp
      have eq4 : (R0 : Int).tmod (Bd : Int) = ((R0 % Bd : Nat) : Int) := by rw [Int.tmod_eq_emod_of_nonneg (by omega)]; simp
      have hX : R0 / Bd ≤ 60 := Nat.le_trans (Nat.div_le_self _ _) (by omega)
      have hY : R0 % Bd ≤ 60 := Nat.le_trans (Nat.mod_le _ _) (by omega)
      generalize R0 / Bd = X at *
      generalize R0 % Bd = Y at *
      have HCat := Lib.hid hcat
      have HLen1 := Lib.hid hlen1
      have e1 : (d : Int) < m := by omega
      have e0 : (0 : Int) ≤ d := by omega
      have hwd : IntKind.i64.wrap ((d : Int) - 1) = (d : Int) - 1 := IntWalk.i64_in _ (by omega)
      have x1 := row1 wr w.heap.size (X : Int) hz
      have hyl : Hid (∀ i, i < j → (wr.alloc (.cells #[.int .i64 (X : Int)] 3)).cell? ⟨g', i, none⟩ = some (.int .i64 ((castL O0).getD i 0))) := fun i hi => by
        rw [World.cell?_of_block (w := wr) (Below.heap_alloc _ _ _ hlg')]
        exact hy.out i hi
      have hBx : Below w.heap.size w (wr.alloc (.cells #[.int .i64 (X : Int)] 3)) := hBw.alloc hz _
      have hj8 : j ≤ 8 := by omega
      clear hdig hrem hcat hlen1 ho hs hy hBd hd
      go_wp2_with (at_builtin; refine append_list rfl _ _ rfl w.heap.size _ [(X : Int)] (castL O0) 1 j g' cap' (by show _ = _; rfl) hcl (by omega) (by omega) rfl x1 (by simp; omega) rfl hyl ?_)
      intro v5 w5 ho5 hb5
      have hB5 := hBx.trans hb5
      have ho5' : OwnL w5 w.heap.size v5 (castL O1) := by rw [← HCat.out]; exact ho5
      have ck5 := (hb5.cell (p := ⟨g, d, none⟩) lg).trans ((World.cell?_of_block (w := wr) (Below.heap_alloc _ _ _ (by omega : g < wr.heap.size))).trans ck)
      have hform : Hid (∃ g' cap', v5 = .slice (some ⟨g', 0, none⟩) (j + 1) cap') := by
        obtain ⟨g2, cap2, cur2, e2, _⟩ := ho5'.rowI (N := j + 1) (by rw [castL_len, HLen1.out]) (by omega)
        exact ⟨g2, cap2, e2⟩
      clear x1 hyl hBx hb5 hBw ck hz ho5
      go_wp2_with fail
      go_roundw
      case rel =>
        exact ⟨j + 1, v5, by rw [HR1e.out, HR1.out], rfl, by rw [show (d : Int) - 1 = (m : Int) - 1 - ((j + 1 : Nat) : Int) by omega], by omega, by rw [HO1.out]; exact ho5', hform.out, hB5⟩
      case measure => simp only [intOf]; omega
    · have hjE : j = m := by omega
      subst hjE
      have hlt : decide ((0 : Int) ≤ (j : Int) - 1 - j) = false := by simp; omega
      rw [HA.out] at ho
      go_wp2
      go_ret
      exact ⟨_, rfl, ho, hBw⟩
end Go.Proofs.Ytdkmghbbnkppcaa
