/- Contracts of eqIntSS, markIntSS and heldIntSS, for lists of rows of four numbers. -/
import Derived.Test.YtbdgginamnllaaaRuleN
import Derived.Test.YtbdgginamnllaaaRecL
import Derived.Test.YtbdgginamnllaaaMark
set_option linter.unusedVariables false
namespace Go.Proofs.Ytbdgginamnllaaa

set_option maxRecDepth 4000
open Go.ChangeShapes Go.WideShapes Go.ChangeAt Go.RowKit Go.Joins

/-- the first j of M rows marked from 1 on, the others as they were -/
def mkL (Ls : List (List Int)) (M j : Nat) : List (List Int) := (List.range M).map fun i => if i < j then marksL (1 + 4 * (i : Int)) 4 else Ls.getD i []

theorem mkL_length (Ls : List (List Int)) (M j : Nat) : (mkL Ls M j).length = M := by simp [mkL]

theorem mkL_zero (Ls : List (List Int)) : mkL Ls Ls.length 0 = Ls := by
  apply List.ext_getElem?
  intro i
  by_cases h : i < Ls.length
  · simp [mkL, h]
  · rw [List.getElem?_eq_none (by rw [mkL_length]; omega), List.getElem?_eq_none (by omega)]

theorem mkL_getD_lt {Ls : List (List Int)} {M j i : Nat} (h : i < M) (hj : i < j) : (mkL Ls M j).getD i [] = marksL (1 + 4 * (i : Int)) 4 := by
  simp [mkL, List.getD_eq_getElem?_getD, h, hj]

theorem mkL_getD_ge {Ls : List (List Int)} {M j i : Nat} (h : i < M) (hj : j ≤ i) : (mkL Ls M j).getD i [] = Ls.getD i [] := by
  simp [mkL, List.getD_eq_getElem?_getD, h, Nat.not_lt.2 hj]

theorem mkL_set {Ls : List (List Int)} {M j : Nat} (h : j < M) : (mkL Ls M j).set j (marksL (1 + 4 * (j : Int)) 4) = mkL Ls M (j + 1) := by
  apply List.ext_getElem?
  intro i
  by_cases hi : i < M
  · rw [List.getElem?_set]
    by_cases hij : j = i
    · subst hij
      simp [mkL, hi]
    · rw [if_neg hij]
      have e : (i < j + 1) ↔ i < j := by omega
      simp only [mkL, List.getElem?_map, List.getElem?_range hi, Option.map_some, e]
  · rw [List.getElem?_eq_none (by rw [List.length_set, mkL_length]; omega), List.getElem?_eq_none (by rw [mkL_length]; omega)]

theorem getL_set_self {Ls : List (List Int)} {L : List Int} {i : Nat} (h : i < Ls.length) : (Ls.set i L).getD i [] = L := by
  simp [List.getD_eq_getElem?_getD, h]

theorem getL_set_ne {Ls : List (List Int)} {L : List Int} {i j : Nat} (h : j ≠ i) : (Ls.set j L).getD i [] = Ls.getD i [] := by
  simp [List.getD_eq_getElem?_getD, h]

/-- a row of a list of lists can be written over -/
theorem OwnLL.row {w : World} {b : Nat} {v : Value} {Ls : List (List Int)} (h : OwnLL w b v Ls) {M : Nat} (hM : Ls.length = M) :
    ∃ a cap, v = .slice a M cap ∧ Hid (∀ j, j < M → ∃ g r, a = some ⟨g, 0, none⟩ ∧ w.cell? ⟨g, j, none⟩ = some r ∧ OwnL w b r (Ls.getD j []) ∧
      ∀ w' L', w.grownBy w' r.ownBlock → OwnL w' b r L' → OwnLL w' b v (Ls.set j L')) := by
  obtain ⟨a, cap, rfl, hc⟩ := h.cells hM
  subst hM
  refine ⟨a, cap, rfl, fun j hj => ?_⟩
  obtain ⟨rs, h1, h2, h3, h4⟩ := h
  have hcell := h2.2
  rcases hcell with ⟨e, h0⟩ | ⟨g, cap, cur, e, hb, hg, hn, hm, hs, ht⟩
  · omega
  · injection e with e1 e2 e3
    subst e1 e3
    refine ⟨g, rs.getD j undef, rfl, ?_, h3 j hj, fun w' L' hgr ho => ?_⟩
    · have e : (cur.toList.take (Ls.length * 1))[j]? = rs[j]? := by rw [ht]
      rw [Nat.mul_one, List.getElem?_take_of_lt hj] at e
      have e2 : cur[j]? = cur.toList[j]? := by simp
      simp [World.cell?, hg]
      rw [e2, e, List.getElem?_eq_getElem (by omega)]
      simp
    · refine ⟨rs, by rw [List.length_set]; exact h1, ?_, fun i hi => ?_, fun i k hik hk => ?_⟩
      · rw [List.length_set]
        refine World.ownsRow.kept h2 hgr ?_
        rcases own_types h2 (h3 j hj) with e | e
        · rw [e]; right; simp [Value.ownBlock]
        · exact .inr (fun x => e x.symm)
      · rw [List.length_set] at hi
        by_cases c : j = i
        · subst c
          rw [getL_set_self hi]
          exact ho
        · rw [getL_set_ne c]
          refine World.ownsRow.kept (h3 i hi) hgr ?_
          rcases Nat.lt_or_gt_of_ne c with d | d
          · rcases h4 j i d hi with e | e
            · rw [e]
              cases (rs.getD i undef).ownBlock <;> simp
            · exact .inr (fun x => e x.symm)
          · exact h4 i j d hj
      · rw [List.length_set] at hk
        exact h4 i k hik hk

set_option maxHeartbeats 2000000 in
theorem markIntSS_any (v : Value) (Ls : List (List Int)) (b : Nat) (w : World) (hv : OwnLL w b v Ls) (hb : b ≤ w.heap.size) (hn : Ls.length ≤ 1000) (h4 : Hid (∀ i, i < Ls.length → (Ls.getD i []).length = 4)) :
    Calls Try.prog 47 #[v, .int .i64 1] w fun e w' => e = .returned (.int .i64 (1 + 4 * (Ls.length : Int))) ∧ OwnLL w' b v (mkL Ls Ls.length Ls.length) ∧ Below b w w' := by
  obtain ⟨M, hM⟩ : ∃ M, Ls.length = M := ⟨_, rfl⟩
  have h0 : OwnLL w b v (mkL Ls M 0) := by rw [← hM, mkL_zero]; exact hv
  have hv' := hv.row hM
  obtain ⟨a, cap, rfl, _⟩ := hv'
  rw [hM] at hn h4 ⊢
  clear hv hM
  go_enter Try.func47, Try.ntmps47
  go_wp2_with fail
  go_loopw [1, 5] (fun q i wr => ∃ (j : Nat), i = .int .i64 j ∧ q = .int .i64 (1 + 4 * (j : Int)) ∧ j ≤ M ∧ OwnLL wr b (.slice a M cap) (mkL Ls M j) ∧ Below b w wr) (fun _ i _ => M - (intOf i).toNat)
  case atStart => exact ⟨0, rfl, by simp, by omega, h0, Below.refl _ _⟩
  case round =>
    obtain ⟨j, rfl, rfl, hj, ho, hB⟩ := hrel
    clear h0
    by_cases hjn : j < M
    · have hjn' : (j : Int) < M := by omega
      obtain ⟨a', cap', e', hc⟩ := ho.row (M := M) (mkL_length _ _ _)
      injection e' with e1 e2 e3
      subst e1 e3
      obtain ⟨g, r, rfl, c1, o1, s1⟩ := hc.out j hjn
      rw [mkL_getD_ge hjn (Nat.le_refl j)] at o1
      have hl4 := h4.out j hjn
      have hlt := World.ownsRow.lt o1
      have hm := markIntS_any r _ (1 + 4 * (j : Int)) b wr o1 (by omega) (by omega) (by omega)
      rw [hl4] at hm
      have hs := hB.size
      clear hc o1 hl4 ho
      have S1 := Lib.hid s1
      clear s1
      go_wp2_with fail
      refine hm.mono ?_; rintro e w1 ⟨rfl, o2, hgr, hsz⟩
      have ho2 := S1.out w1 _ hgr o2
      rw [mkL_set hjn] at ho2
      have hB2 : Below b w w1 := hB.grown hgr (by omega) (fun q hq => (hlt q hq).1)
      clear hm hlt S1 o2 hgr hsz hB c1
      go_wp2_with fail
      go_roundw
      case rel => exact ⟨j + 1, by go_num, by rw [show (1 : Int) + 4 * ((j + 1 : Nat) : Int) = 1 + 4 * (j : Int) + 4 by omega], by omega, ho2, hB2⟩
      case measure => simp only [intOf]; omega
    · have hjn' : decide ((j : Int) < M) = false := by simp; omega
      obtain rfl : j = M := by omega
      have hfin := Lib.hid (And.intro ho hB)
      clear ho hB
      go_wp2
      go_ret
      exact ⟨rfl, hfin.out.1, hfin.out.2⟩

set_option maxHeartbeats 2000000 in
theorem heldIntSS_any (v : Value) (Ls : List (List Int)) (b M : Nat) (w : World) (hv : OwnLL w b v (mkL Ls M M)) (hn : M ≤ 1000) :
    Calls Try.prog 48 #[v, .int .i64 1] w fun e w' => e = .returned (.int .i64 (1 + 4 * (M : Int))) ∧ w = w' := by
  obtain ⟨a, cap, rfl, hc⟩ := hv.row (M := M) (mkL_length _ _ _)
  have HC : Hid (∀ j, j < M → ∃ g r, a = some ⟨g, 0, none⟩ ∧ w.cell? ⟨g, j, none⟩ = some r ∧ OwnL w b r (marksL (1 + 4 * (j : Int)) 4)) := fun j hj => by
    obtain ⟨g, r, h1, h2, h3, _⟩ := hc.out j hj
    rw [mkL_getD_lt hj hj] at h3
    exact ⟨g, r, h1, h2, h3⟩
  clear hc hv
  go_enter Try.func48, Try.ntmps48
  go_wp2_with fail
  go_loop [1, 5] (fun q i => ∃ j : Nat, i = .int .i64 j ∧ q = .int .i64 (1 + 4 * (j : Int)) ∧ j ≤ M) (fun _ i => M - (intOf i).toNat)
  case atStart => exact ⟨0, rfl, by simp, by omega⟩
  case round =>
    obtain ⟨j, rfl, rfl, hj⟩ := hrel
    by_cases hjn : j < M
    · have hjn' : (j : Int) < M := by omega
      obtain ⟨g, r, rfl, c1, o1⟩ := HC.out j hjn
      have hm := heldIntS_any r (1 + 4 * (j : Int)) 4 w o1.reads (by omega) (by omega) (by omega)
      clear o1
      have hq : ¬ (1 + 4 * (j : Int) + ((4 : Nat) : Int)) < 0 := by omega
      go_wp2_with fail
      refine hm.mono ?_; rintro e w1 ⟨rfl, rfl⟩
      clear hm
      go_wp2_with fail
      go_round
      case rel => exact ⟨j + 1, by go_num, by rw [show (1 : Int) + 4 * ((j + 1 : Nat) : Int) = 1 + 4 * (j : Int) + 4 by omega], by omega⟩
      case measure => simp only [intOf]; omega
    · have hjn' : decide ((j : Int) < M) = false := by simp; omega
      obtain rfl : j = M := by omega
      go_wp2
      go_ret
      exact ⟨rfl, rfl⟩

set_option maxHeartbeats 2000000 in
theorem eqIntSS_any (v u : Value) (Ls : List (List Int)) (b b' : Nat) (w : World) (hv : OwnLL w b v Ls) (hu : OwnLL w b' u Ls) (hn : Ls.length ≤ 1000) (h4 : Hid (∀ i, i < Ls.length → (Ls.getD i []).length = 4)) :
    Calls Try.prog 46 #[v, u] w fun e w' => e = .returned (.bool true) ∧ ∃ n, w' = w.drewN n := by
  obtain ⟨M, hM⟩ : ∃ M, Ls.length = M := ⟨_, rfl⟩
  obtain ⟨a, cap, rfl, hc⟩ := hv.row hM
  obtain ⟨a', cap', rfl, hc'⟩ := hu.row hM
  rw [hM] at hn h4
  have hMM : ((M : Int) != M) = false := by simp
  have HC : Hid (∀ j, j < M → ∃ g g' r r' L, a = some ⟨g, 0, none⟩ ∧ a' = some ⟨g', 0, none⟩ ∧ w.cell? ⟨g, j, none⟩ = some r ∧ w.cell? ⟨g', j, none⟩ = some r' ∧ Reads w r L ∧ Reads w r' L ∧ L.length = 4) := fun j hj => by
    obtain ⟨g, r, h1, h2, h3, _⟩ := hc.out j hj
    obtain ⟨g', r', h1', h2', h3', _⟩ := hc'.out j hj
    exact ⟨g, g', r, r', _, h1, h1', h2, h2', h3.reads, h3'.reads, h4.out j hj⟩
  clear hc hc' hv hu h4 hM
  go_enter Try.func46, Try.ntmps46
  go_wp2_with fail
  go_loopw [5] (fun x wr => ∃ (k q : Nat), x = .int .i64 k ∧ k ≤ M ∧ wr = w.drewN q) (fun x _ => M - (intOf x).toNat)
  case atStart => exact ⟨0, 0, rfl, by omega, rfl⟩
  case round =>
    obtain ⟨k, q, rfl, hk, rfl⟩ := hrel
    by_cases hkm : k < M
    · have hkm' : (k : Int) < M := by omega
      obtain ⟨g, g', r, r', L, rfl, rfl, c1, c2, o1, o2, hL⟩ := HC.out k hkm
      have hss := fun (t : Nat) => (eqIntS_any r r' L L (w.drewN (q + t)) (show Reads (w.drewN (q + t)) r L from o1) (show Reads (w.drewN (q + t)) r' L from o2) (by omega) (by omega)).mono (R' := fun e w' => e = .returned (.bool true) ∧ ∃ n, w' = w.drewN (q + n)) (fun e w' h => ⟨by rw [h.1, decide_eq_true rfl], by obtain ⟨n, hn⟩ := h.2; exact ⟨t + n, by rw [hn]; simp [Nat.add_assoc]⟩⟩)
      clear o1 o2 hL
      go_wp2_with fail
      go_quiet ((go_at_call 43; with_reducible exact hss _))
      go_wp2_with fail
      go_roundw
      case rel => exact ⟨k + 1, q + nq, by go_num, by omega, by simp⟩
      case measure => simp only [intOf]; omega
    · have hkm' : decide ((k : Int) < M) = false := by simp; omega
      clear hMM
      go_wp2
      go_ret
      exact ⟨rfl, q, rfl⟩
end Go.Proofs.Ytbdgginamnllaaa
