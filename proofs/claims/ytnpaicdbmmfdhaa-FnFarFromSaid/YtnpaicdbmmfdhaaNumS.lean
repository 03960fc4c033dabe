/- Contracts of chapter 9's functions of the model: the basis and the greatest digits. -/
import Derived.Test.YtnpaicdbmmfdhaaNumK
import Derived.Test.YtnpaicdbmmfdhaaAppA
import Derived.Test.YtnpaicdbmmfdhaaRev
import Derived.Test.YtnpaicdbmmfdhaaGFun2
set_option linter.unusedVariables false
namespace Go.Proofs.Ytnpaicdbmmfdhaa

set_option maxRecDepth 4000
open Go.ChangeShapes Go.WideShapes Go.ChangeAt Go.RowKit Go.Joins

def TwoLists (xs ys : List Int) (w : World) (e : Ending) (w' : World) : Prop := ∃ v1 v2, e = .returned (.tuple #[v1, v2]) ∧ OwnL w' w.heap.size v1 xs ∧ OwnL w' w.heap.size v2 ys ∧ Below w.heap.size w w'

set_option maxHeartbeats 4000000 in
theorem specBasis9_any {N S : Nat} (hN : tokN N S = true) (w : World) :
    Calls Try.prog 58 #[(.agg #[.int .i64 ((N : Int)), .int .i64 ((S : Int))])] w (TwoLists (castL (basN N S)) (castL (mostN N S)) w) := by
  
  obtain ⟨b, f1, f2, f3, f4, f5, f6, f7, f8, f9⟩ := bas_grow hN
  have hnt := specNearTimes_any N S
  rw [nearF_yes hN] at hnt
  have hqu := specQuotientsOf_any N S
  rw [quotF_yes hN] at hqu
  have hqb : (quotsN N S).getD 0 0 ≤ 60 := (quots_le hN _ (by rw [List.getD_eq_getElem?_getD, List.getElem?_eq_getElem (by omega)]; simp)).2
  generalize nearN N S = T at *
  generalize quotsN N S = Q at *
  generalize basN N S = BN at *
  generalize mostN N S = MN at *
  obtain ⟨L, hL⟩ : ∃ L, Q.length = L := ⟨_, rfl⟩
  rw [hL] at f1 f2 f3 f8 f9
  have HBA : Hid (∀ k, k < L → (b = true → 1 ≤ k) → castL (basK T b k) ++ [((T.getD k 0 : Nat) : Int)] = castL (basK T b (k + 1))) := fun k hk h1 => by rw [basK_add T b (by omega) h1, castL_snoc]
  have HMA : Hid (∀ k, k < L → 1 ≤ k → castL (mostK Q b k) ++ [((Q.getD k 0 : Nat) : Int)] = castL (mostK Q b (k + 1))) := fun k hk h1 => by rw [mostK_add Q b (by omega) h1, castL_snoc]
  have HK0 : Hid (b = false → castL (basK T false 0) ++ [((T.getD 0 0 : Nat) : Int)] = castL (basK T false 1)) := fun h => by rw [basK_add T false (k := 0) (by omega) (fun h => by cases h), castL_snoc]
  have HM0 : Hid (castL (mostK Q false 0) ++ [((Q.getD 0 0 : Nat) : Int) - 1] = castL (mostK Q false 1)) := by
    show _ = _
    rw [mostK_first Q (by omega), castL_snoc, show (((Q.getD 0 0 - 1 : Nat) : Nat) : Int) = ((Q.getD 0 0 : Nat) : Int) - 1 by omega]
  have HSk : Hid (basK T true 1 = basK T true 0 ∧ mostK Q true 1 = mostK Q true 0) := ⟨basK_skip T, mostK_skip Q⟩
  have HLb : Hid (∀ k, (castL (basK T b k)).length ≤ k ∧ (castL (mostK Q b k)).length ≤ k) := fun k => ⟨by rw [castL_len]; exact basK_len T b k, by rw [castL_len]; exact mostK_len Q b k⟩
  have HF5 := Lib.hid f5
  have HF4 := Lib.hid f4
  have HF8 := Lib.hid f8
  have HF9 := Lib.hid f9
  have hLT := Lib.hid f1
  have hLQ := Lib.hid hL
  clear f1 f4 f5 f6 f8 f9 hL hN
  go_enter Try.func58, Try.ntmps58
  go_wp2_with fail
  refine (hnt _).mono ?_; rintro e w1 ⟨v1, rfl, ho1, hb1⟩
  have hz1 := hb1.size
  try simp at hz1
  have t1 : Two w1 (w.heap.size) (.int .i64 N) (.int .i64 S) 24 := Two.below (by repeat (first | assumption | exact Two.new' _ _ _ _ _ (by simp) | refine Two.alloc ?_ _ | refine Two.drewN ?_ _)) hb1 (by first | omega | (simp <;> omega))
  have hlt1 : (w.heap.size) < w1.heap.size := t1.lt
  have hnt1 : ¬ (w.heap.size) = w1.heap.size := Nat.ne_of_lt hlt1
  have t1c := t1.cell0
  have t1d := t1.cell1
  go_wp2_with fail
  refine (hqu _).mono ?_; rintro e w2 ⟨v2, rfl, ho2, hb2⟩
  have hz2 := hb2.size
  try simp at hz2
  have t2 : Two w2 (w.heap.size) (.int .i64 N) (.int .i64 S) 24 := Two.below (by repeat (first | assumption | exact Two.new' _ _ _ _ _ (by simp) | refine Two.alloc ?_ _ | refine Two.drewN ?_ _)) hb2 (by first | omega | (simp <;> omega))
  have hlt2 : (w.heap.size) < w2.heap.size := t2.lt
  have hnt2 : ¬ (w.heap.size) = w2.heap.size := Nat.ne_of_lt hlt2
  have t2c := t2.cell0
  have t2d := t2.cell1
  have ho1' := ho1.below hb2
  obtain ⟨gT, capT, curT, rfl, hbT, hrT, _, hncT, _, hcT⟩ := ho1'.rowI (N := L + 1) (by rw [castL_len]; exact hLT.out) (by omega)
  obtain ⟨gQ, capQ, curQ, rfl, hbQ, hrQ, _, hncQ, _, hcQ⟩ := ho2.rowI (N := L) (by rw [castL_len]; exact hLQ.out) (by omega)
  have HT : Hid (∀ k, k < L + 1 → w2.cell? ⟨gT, k, none⟩ = some (.int .i64 ((T.getD k 0 : Nat) : Int))) := fun k hk => by rw [hrT.cell, hcT k hk, castL_getD]
  have HQ : Hid (∀ k, k < L → w2.cell? ⟨gQ, k, none⟩ = some (.int .i64 ((Q.getD k 0 : Nat) : Int))) := fun k hk => by rw [hrQ.cell, hcQ k hk, castL_getD]
  have lgT := hrT.lt
  have lgQ := hrQ.lt
  have hB2 : Below w.heap.size w w2 := (by repeat (first | exact Below.refl _ _ | assumption | (refine Below.trans ?_ (Below.mono (by assumption) (by first | omega | (simp <;> omega)))) | (refine Below.alloc ?_ (by first | omega | (simp <;> omega)) _) | (refine below_drewN ?_ _) | (refine Below.drew ?_) | (refine Below.setCell ?_ (by first | omega | (simp <;> omega)) _)))
  have e3 : OwnL ((w2.alloc (.cells #[] 3)).alloc (.cells #[] 3)) w2.heap.size (.slice (some ⟨w2.heap.size, 0, none⟩) 0 0) [] := World.ownsRow.alloc (made_nil w2) _
  have e4 : OwnL ((w2.alloc (.cells #[] 3)).alloc (.cells #[] 3)) w2.heap.size (.slice (some ⟨w2.heap.size + 1, 0, none⟩) 0 0) [] := by
    have h := made_nil (w2.alloc (.cells #[] 3))
    rw [World.size_alloc] at h
    exact h.mono (b' := w2.heap.size) (by omega)
  have eB : Below w2.heap.size w2 ((w2.alloc (.cells #[] 3)).alloc (.cells #[] 3)) := (by repeat (first | exact Below.refl _ _ | assumption | (refine Below.trans ?_ (Below.mono (by assumption) (by first | omega | (simp <;> omega)))) | (refine Below.alloc ?_ (by first | omega | (simp <;> omega)) _) | (refine below_drewN ?_ _) | (refine Below.drew ?_) | (refine Below.setCell ?_ (by first | omega | (simp <;> omega)) _)))
  have eP : Hid (Apart2 (.slice (some ⟨w2.heap.size, 0, none⟩) 0 0) (.slice (some ⟨w2.heap.size + 1, 0, none⟩) 0 0)) := fun k h1 h2 => by
    have a1 : w2.heap.size + 1 = k := Option.some.inj h1
    have a2 : w2.heap.size = k := Option.some.inj h2
    omega
  clear ho1 ho1' ho2 hrT hrQ hcT hcQ hb1 hb2 hnt hqu t2 t2c t2d t1 t1c t1d
  have hz2w := hB2.size
  go_wp2_with fail
  go_loopw [6, 7, 8] (fun x y i wr => ∃ (k : Nat) (v3 v4 : Value), v3 = x ∧ v4 = y ∧ i = .int .i64 k ∧ k ≤ L ∧ OwnL wr w2.heap.size v3 (castL (basK T b k)) ∧ OwnL wr w2.heap.size v4 (castL (mostK Q b k)) ∧ Hid (Apart2 v3 v4) ∧ Below w2.heap.size w2 wr) (fun _ _ i _ => L - (intOf i).toNat)
  case atStart =>
    have a1 : castL (basK T b 0) = [] := by cases b <;> rfl
    have a2 : castL (mostK Q b 0) = [] := by cases b <;> rfl
    exact ⟨0, _, _, rfl, rfl, rfl, by omega, by rw [a1]; exact e3, by rw [a2]; exact e4, eP, eB⟩
  case round =>
    obtain ⟨k, v3, v4, rfl, rfl, rfl, hk, ho3, ho4, hp, hB⟩ := hrel
    clear e3 e4 eB eP
    have hz := hB.size
    by_cases hkL : k < L
    · have hkL' : (k : Int) + 1 < (L : Int) + 1 := by omega
      cases k with
      | zero =>
        have c0 := (hB.cell (p := ⟨gT, 0, none⟩) lgT).trans (HT.out 0 (by omega))
        have c1 := (hB.cell (p := ⟨gT, 1, none⟩) lgT).trans (HT.out 1 (by omega))
        rw [HF4.out] at c0
        have hL0 : (1 : Int) < (L : Int) + 1 := by omega
        have hL1 : (0 : Int) < (L : Int) + 1 := by omega
        have hL2 : (0 : Int) < (L : Int) := by omega
        cases b with
        | true =>
          rw [HF5.out.1 rfl] at c1
          go_wp2_with fail
          go_quiet (fail)
          go_wp2_with fail
          go_roundw
          case rel => exact ⟨1, v3, v4, rfl, rfl, by go_num, by omega, by rw [HSk.out.1]; exact ho3, by rw [HSk.out.2]; exact ho4, hp, below_drewN hB nq⟩
          case measure => simp only [intOf]; omega
        | false =>
          have hne : ¬ T.getD 1 0 = 1 := fun h => by have := HF5.out.2 h; cases this
          have hT0 := HF4.out
          have HK := HK0.out rfl
          rw [hT0] at HK
          have HKh := Lib.hid HK
          generalize T.getD 1 0 = T1 at *
          have hne2 : ((1 : Int) == (T1 : Int)) = false := by simp; omega
          have hq0 := hqb
          have cq := (hB.cell (p := ⟨gQ, 0, none⟩) lgQ).trans (HQ.out 0 (by omega))
          have HM0' := Lib.hid HM0.out
          generalize hQ0 : Q.getD 0 0 = Q0 at *
          clear HK hne hT0 HK0 HM0
          go_wp2_with fail
          go_quiet (fail)
          have hBq := below_drewN hB nq
          have ho3q : OwnL (wr.drewN nq) w2.heap.size v3 (castL (basK T false 0)) := ho3
          have ho4q : OwnL (wr.drewN nq) w2.heap.size v4 (castL (mostK Q false 0)) := ho4
          have c0q : (wr.drewN nq).cell? ⟨gT, 0, none⟩ = some (.int .i64 ((1 : Nat) : Int)) := c0
          have cqq : (wr.drewN nq).cell? ⟨gQ, 0, none⟩ = some (.int .i64 (Q0 : Int)) := cq
          have hzq : w2.heap.size ≤ (wr.drewN nq).heap.size := hz
          clear hB ho3 ho4 c0 c1 cq hz
          generalize wr.drewN nq = wq at *
          go_wp2_with (at_builtin; refine append_intA rfl _ _ rfl w2.heap.size v3 (castL (basK T false 0)) 0 (by show _ = _; rfl) (by omega) rfl ho3q (by omega) rfl ?_)
          intro v5 w5 ho5 hap5 hb5
          obtain ⟨ho4, hp5⟩ := ho4q.other hap5 hb5 hp.out
          have hB5 := hBq.trans hb5
          have hz5 := hB5.size
          have cq5 := (hb5.cell (p := ⟨gQ, 0, none⟩) (by omega)).trans cqq
          clear ho3q ho4q hap5 hb5 hBq hzq hp c0q cqq
          go_wp2_with (at_builtin; refine append_intA rfl _ _ rfl w2.heap.size v4 (castL (mostK Q false 0)) 0 (by show _ = _; rfl) (by omega) rfl ho4 (by omega) rfl ?_)
          intro v6 w6 ho6 hap6 hb6
          obtain ⟨ho5, hp6⟩ := ho5.other hap6 hb6 hp5.symm
          have hB6 := hB5.trans hb6
          have HP6 := Lib.hid hp6.symm
          clear ho4 hap6 hb6 hB5 hz5 cq5 hp5 hp6
          go_wp2_with fail
          go_roundw
          case rel => exact ⟨1, v5, v6, rfl, rfl, by go_num, by omega, by rw [← HKh.out]; exact ho5, by rw [← HM0'.out]; exact ho6, HP6.out, hB6⟩
          case measure => simp only [intOf]; omega
      | succ j =>
        have ct := (hB.cell (p := ⟨gT, j + 1, none⟩) lgT).trans (HT.out (j + 1) (by omega))
        have cq := (hB.cell (p := ⟨gQ, j + 1, none⟩) lgQ).trans (HQ.out (j + 1) hkL)
        have hA1 := Lib.hid (HBA.out (j + 1) hkL (fun _ => by omega))
        have hA2 := Lib.hid (HMA.out (j + 1) hkL (by omega))
        have hlb := (HLb.out (j + 1)).1
        have hlm := (HLb.out (j + 1)).2
        generalize T.getD (j + 1) 0 = X at *
        generalize Q.getD (j + 1) 0 = Y at *
        have hj0 : ((j : Int) + 1 == 0) = false := by simp; omega
        have hj1 : (j : Int) + 1 < (L : Int) + 1 := by omega
        have hj2 : (j : Int) + 1 < (L : Int) := by omega
        obtain ⟨l3, hl3⟩ : ∃ l, (castL (basK T b (j + 1))).length = l := ⟨_, rfl⟩
        obtain ⟨l4, hl4⟩ : ∃ l, (castL (mostK Q b (j + 1))).length = l := ⟨_, rfl⟩
        have HL3 := Lib.hid hl3
        have HL4 := Lib.hid hl4
        rw [hl3] at hlb
        rw [hl4] at hlm
        clear hl3 hl4
        go_wp2_with fail
        go_quiet (fail)
        have hBq := below_drewN hB nq
        have ho3q : OwnL (wr.drewN nq) w2.heap.size v3 (castL (basK T b (j + 1))) := ho3
        have ho4q : OwnL (wr.drewN nq) w2.heap.size v4 (castL (mostK Q b (j + 1))) := ho4
        have c0q : (wr.drewN nq).cell? ⟨gT, j + 1, none⟩ = some (.int .i64 (X : Int)) := ct
        have cqq : (wr.drewN nq).cell? ⟨gQ, j + 1, none⟩ = some (.int .i64 (Y : Int)) := cq
        have hzq : w2.heap.size ≤ (wr.drewN nq).heap.size := hz
        clear hB ho3 ho4 ct cq hz
        generalize wr.drewN nq = wq at *
        go_wp2_with (at_builtin; refine append_intA rfl _ _ rfl w2.heap.size v3 (castL (basK T b (j + 1))) l3 HL3 (by omega) rfl ho3q (by omega) rfl ?_)
        intro v5 w5 ho5 hap5 hb5
        obtain ⟨ho4, hp5⟩ := ho4q.other hap5 hb5 hp.out
        have hB5 := hBq.trans hb5
        have hz5 := hB5.size
        have cq5 := (hb5.cell (p := ⟨gQ, j + 1, none⟩) (by omega)).trans cqq
        clear ho3q ho4q hap5 hb5 hBq hzq hp c0q cqq
        go_wp2_with (at_builtin; refine append_intA rfl _ _ rfl w2.heap.size v4 (castL (mostK Q b (j + 1))) l4 HL4 (by omega) rfl ho4 (by omega) rfl ?_)
        intro v6 w6 ho6 hap6 hb6
        obtain ⟨ho5, hp6⟩ := ho5.other hap6 hb6 hp5.symm
        have hB6 := hB5.trans hb6
        have HP6 := Lib.hid hp6.symm
        clear ho4 hap6 hb6 hB5 hz5 cq5 hp5 hp6
        go_wp2_with fail
        go_roundw
        case rel => exact ⟨j + 1 + 1, v5, v6, rfl, rfl, by go_num, by omega, by rw [← hA1.out]; exact ho5, by rw [← hA2.out]; exact ho6, HP6.out, hB6⟩
        case measure => simp only [intOf]; omega
    · have hkE : k = L := by omega
      subst hkE
      have hkL' : ¬ (k : Int) + 1 < (k : Int) + 1 := by omega
      rw [HF8.out] at ho3
      rw [HF9.out] at ho4
      have hB' : Below w.heap.size w wr := hB2.trans (hB.mono hz2w)
      have ho3' := ho3.mono (b' := w.heap.size) hz2w
      have ho4' := ho4.mono (b' := w.heap.size) hz2w
      clear ho3 ho4 hB
      go_wp2
      refine bodyPost_ret (v := .tuple #[v3, v4]) (by simp [results, Try.results58, go_sem]) rfl ?_
      exact ⟨v3, v4, rfl, ho3', ho4', hB'⟩
end Go.Proofs.Ytnpaicdbmmfdhaa
