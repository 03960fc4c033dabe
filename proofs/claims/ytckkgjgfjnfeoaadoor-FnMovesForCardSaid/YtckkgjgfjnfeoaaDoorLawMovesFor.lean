/- Proves that FnMovesFor returns true for every code, and leaves the code as it was; the tables of package utf8 that its row lists are tied to the program's text. No conditions. -/
import Derived.Test.YtckkgjgfjnfeoaaDoorHead
import Derived.Test.YtckkgjgfjnfeoaaDoorMvT
import Derived.Test.YtckkgjgfjnfeoaaDoorMvF
import Derived.Test.YtckkgjgfjnfeoaaDoorReadT
import Derived.Test.YtckkgjgfjnfeoaaDoorDrawM
import Derived.Test.YtckkgjgfjnfeoaaDoorGFun2
import Derived.Test.YtckkgjgfjnfeoaaDoorHas
import Derived.Test.YtckkgjgfjnfeoaaDoorGList
import Derived.Test.YtckkgjgfjnfeoaaDoorRev
import Derived.Test.YtckkgjgfjnfeoaaDoorGQuot
import Derived.Test.YtckkgjgfjnfeoaaDoorGRule
import Derived.Test.YtckkgjgfjnfeoaaDoorMarks
import Derived.Deep.Cut
import Derived.Test.YtckkgjgfjnfeoaaDoorCards
import Derived.Test.YtckkgjgfjnfeoaaDoorTie
import Derived.LaidMore
import Derived.Lay
import Derived.SevenTiedAt
import Derived.Stop.Joined
set_option linter.unusedVariables false
namespace Go.Proofs.YtckkgjgfjnfeoaaDoor.lawMovesFor
set_option maxRecDepth 4000

set_option maxRecDepth 4000
open Go.ChangeShapes Go.WideShapes Go.ChangeAt Go.RowKit Go.Joins

theorem oneMore_snoc (p : List Nat) (c : Nat) : oneMore (p ++ [c]) = p ++ [c + 1] := by
  induction p with
  | nil => rfl
  | cons x p ih =>
    cases p with
    | nil => rfl
    | cons y p => exact congrArg (x :: ·) ih

theorem runsF_same (u : List Bool) (l : Bool) (c : Nat) : runsF (l :: u) l c = runsF u l (c + 1) := by simp [runsF]

theorem runsF_other (u : List Bool) {x l : Bool} (h : x ≠ l) (c : Nat) : runsF (x :: u) l c = c :: runsF u x 1 := by
  have : (x == l) = false := by cases x <;> cases l <;> first | rfl | exact absurd rfl h
  simp [runsF, this]

theorem drop_cons {v : List Bool} {k : Nat} (h : k < v.length) : v.drop k = v.getD k false :: v.drop (k + 1) := by
  rw [List.drop_eq_getElem_cons h, List.getD_eq_getElem?_getD, List.getElem?_eq_getElem h]; rfl

/-- the last number of an own list is set -/
theorem own_last {w : World} {b : Nat} {v : Value} {p : List Nat} {c Q : Nat} (h : OwnL w b v (castL (p ++ [c]))) (hQ : p.length = Q) : ∃ g cap, v = .slice (some ⟨g, 0, none⟩) (Q + 1) cap ∧ b ≤ g ∧ g < w.heap.size ∧ w.cell? ⟨g, Q, none⟩ = some (.int .i64 (c : Int)) ∧ w.frozen? ⟨g, Q, none⟩ = false ∧
    Hid (∀ d : Nat, OwnL (w.setCell ⟨g, Q, none⟩ (.int .i64 (d : Int))) b (.slice (some ⟨g, 0, none⟩) (Q + 1) cap) (castL (p ++ [d]))) := by
  subst hQ
  have hl : (castL (p ++ [c])).length = p.length + 1 := by rw [castL_len, List.length_append, List.length_singleton]
  obtain ⟨g, cap, cur, rfl, hb, hr, hs, hn, hm, hc⟩ := h.rowI hl (by omega)
  refine ⟨g, cap, rfl, hb, hr.lt, ?_, hr.free _, fun d => ?_⟩
  · rw [hr.cell, hc p.length (by omega)]
    congr 2
    simp [castL, List.getD_eq_getElem?_getD]
  · have hl2 : (castL (p ++ [d])).length = p.length + 1 := by rw [castL_len, List.length_append, List.length_singleton]
    have h2 := RowAt.ownCap (b := b) (cap := cap) (xs := castL (p ++ [d])) (RowAt.set hr p.length (.int .i64 (d : Int))) hb hm (by omega) (by rw [Array.size_setIfInBounds]; exact hs) (fun i hi => by
      rw [hl2] at hi
      rw [Array.getElem?_setIfInBounds]
      by_cases e : p.length = i
      · subst e
        rw [if_pos rfl, if_pos (by omega)]
        simp [castL, List.getD_eq_getElem?_getD]
      · rw [if_neg e, hc i hi]
        congr 2
        have : i < p.length := by omega
        simp [castL, List.getD_eq_getElem?_getD, List.getElem?_append_left, this])
    rwa [hl2] at h2

theorem castL_snoc' (p : List Nat) (c : Nat) : castL p ++ [(c : Int)] = castL (p ++ [c]) := by simp [castL]

set_option maxHeartbeats 8000000 in
theorem walk (a : Option Addr) (len cap : Nat) (z : List Int) (w : World) (row : IsRow .u8 w a len cap z) :
    Calls Tryd.prog 4 #[.slice a len cap] w fun e w' => e = .returned (.bool true) ∧ Below w.heap.size w w' := by
  
  have hc := CodeIn.of row
  clear row
  by_cases hl : 1048576 < len
  · have hl' : (1048576 : Int) < len := by omega
    go_enter Tryd.func4, Tryd.ntmps4
    go_wp2
    go_ret
    exact ⟨rfl, (by repeat (first | exact Below.refl _ _ | assumption | (refine Below.trans ?_ (Below.mono (by assumption) (by first | omega | (simp <;> omega)))) | (refine Below.alloc ?_ (by first | omega | (simp <;> omega)) _) | (refine below_drewN ?_ _) | (refine Below.drew ?_) | (refine Below.setCell ?_ (by first | omega | (simp <;> omega)) _)))⟩
  · have hl' : ¬ (1048576 : Int) < len := by omega
    go_enter Tryd.func4, Tryd.ntmps4
    go_wp2_with fail
    refine (drawMovesFor_any a len cap _ hc (by omega)).mono ?_; rintro e w1 ⟨n, s, rfl, n0, n1, s0, s1, hb1⟩
    have hz1 := hb1.size
    try simp at hz1
    go_wp2_with fail
    refine (movesFor_any _ _ _).mono ?_; rintro e w2 ⟨rfl, hb2⟩
    have hz2 := hb2.size
    try simp at hz2
    have t2 : Two w2 (w1.heap.size) (.int .i64 n) (.int .i64 s) 28 := Two.below (by repeat (first | assumption | exact Two.new' _ _ _ _ _ (by simp) | refine Two.alloc ?_ _ | refine Two.drewN ?_ _)) hb2 (by first | omega | (simp <;> omega))
    have hlt2 : (w1.heap.size) < w2.heap.size := t2.lt
    have hnt2 : ¬ (w1.heap.size) = w2.heap.size := Nat.ne_of_lt hlt2
    have t2c := t2.cell0
    have t2d := t2.cell1
    have hbq : Hid (((mfF n s).toList == (mfF n s).toList) = true) := by show _ = _; simp
    go_wp2_with fail
    refine (specMovesFor_any _ _ _).mono ?_; rintro e w3 ⟨rfl, hb3⟩
    have hz3 := hb3.size
    try simp at hz3
    have t3 : Two w3 (w1.heap.size) (.int .i64 n) (.int .i64 s) 28 := Two.below (by repeat (first | assumption | exact Two.new' _ _ _ _ _ (by simp) | refine Two.alloc ?_ _ | refine Two.drewN ?_ _)) hb3 (by first | omega | (simp <;> omega))
    have hlt3 : (w1.heap.size) < w3.heap.size := t3.lt
    have hnt3 : ¬ (w1.heap.size) = w3.heap.size := Nat.ne_of_lt hlt3
    have t3c := t3.cell0
    have t3d := t3.cell1
    have hB3 : Below w.heap.size w w3 := (by repeat (first | exact Below.refl _ _ | assumption | (refine Below.trans ?_ (Below.mono (by assumption) (by first | omega | (simp <;> omega)))) | (refine Below.alloc ?_ (by first | omega | (simp <;> omega)) _) | (refine below_drewN ?_ _) | (refine Below.drew ?_) | (refine Below.setCell ?_ (by first | omega | (simp <;> omega)) _)))
    clear hb1 hb2 hb3 hc t2 t2c t2d
    by_cases ht : tok n s = true
    · obtain ⟨N, S, rfl, rfl, hN⟩ := tokN_of ht
      
      obtain ⟨b1, b2, b3, b4, _⟩ := tokN_bd hN
      rw [ht, mfF_yes hN]
      rw [mfF_yes hN] at hbq
      have hml := moves_le hN
      obtain ⟨hmn, hms⟩ := moves_tells hN
      have hru := rowsN_moves N S
      have hrq := runs_quots hN
      unfold runsN at hrq
      have hR := Lib.hid (fun w => nearRule_any (N : Int) (S : Int) w)
      rw [ruleF_yes hN] at hR
      rw [show rowsI N S = (rowsN N S).map rowI from rfl] at hR
      have hRe : (rowsN N S).length = (movesN N S).length + 1 := hru
      have hQ := Lib.hid (fun w => quotientsOf_any (N : Int) (S : Int) w)
      rw [quotF_yes hN] at hQ
      have hql := quots_len hN
      have hM := Lib.hid (fun w => moveTurn_any (txtM (movesN N S)) w (by rw [txtM_size]; omega))
      rw [mtP_yes (by omega) (by rw [hmn]; exact b2), mtF_yes (by omega) (by rw [hmn]; exact b2), hmn, hms] at hM
      dsimp only at hM
      generalize hV : movesN N S = V at *
      generalize rowsN N S = RI at *
      generalize hQL : quotsN N S = QL at *
      have hsz : ((txtM V).size : Int) = (V.length : Nat) := by rw [txtM_size]
      obtain ⟨K, hK⟩ : ∃ K, V.length = K := ⟨_, rfl⟩
      rw [hK] at hsz hRe hml
      have HE : Hid (∀ j, j < K → (txtM V).extract j (j + 1) = txtM [V.getD j false]) := fun j hj => take_letter (by omega)
      have HT : Hid (∀ j, j < K → V.drop j = V.getD j false :: V.drop (j + 1)) := fun j hj => drop_cons (by omega)
      have HD : Hid (V.drop K = []) := List.drop_eq_nil_of_le (by omega)
      have HRQ := Lib.hid hrq
      have HRe := Lib.hid hRe
      have hqql : QL.length ≤ 8 := hql
      obtain ⟨U, hU⟩ : ∃ U, txtM V = U := ⟨_, rfl⟩
      rw [hU] at hbq hsz HE hM ⊢
      have hbx := hbq.out
      clear hru hrq hV hQL hU hK hN hmn hms hRe hql hbq
      have mm : ((true : Bool) != true) = false := rfl
      go_wp2_with fail
      have hO0 : OwnL (w3.alloc (.cells #[.int .i64 1] 3)) w3.heap.size (.slice (some ⟨w3.heap.size, 0, none⟩) 1 1) (castL ([] ++ [1])) :=
        RowAt.own (cur := #[.int .i64 1]) (heap_alloc_new w3 _) (Nat.le_refl _) (by decide) rfl (fun i hi => by
          have : i < 1 := hi
          obtain rfl : i = 0 := by omega
          rfl)
      have hBs : Below w3.heap.size w3 (w3.alloc (.cells #[.int .i64 1] 3)) := (Below.refl _ _).alloc (Nat.le_refl _) _
      generalize w3.alloc (.cells #[.int .i64 1] 3) = wb at *
      go_loopw [8, 9, 10] (fun x y u wr => ∃ (j : Nat) (p : List Nat) (c : Nat) (l : Bool) (v : Value), x = v ∧ y = .string (txtM [l]) ∧ u = .int .i64 j ∧ j ≤ K ∧ p.length ≤ j ∧ c ≤ j + 1 ∧ OwnL wr w3.heap.size v (castL (p ++ [c])) ∧ Hid (p ++ runsF (V.drop j) l c = runsF V false 1) ∧ Below w3.heap.size w3 wr) (fun _ _ u _ => K - (intOf u).toNat)
      case atStart => exact ⟨0, [], 1, false, _, rfl, rfl, rfl, by omega, by simp, by omega, hO0, by show _ = _; rw [List.drop_zero, List.nil_append], hBs⟩
      case round =>
        obtain ⟨j, p, c, l, v, rfl, rfl, rfl, hj, hpj, hcj, hO, HP, hBr⟩ := hrel
        obtain ⟨Q, hQ⟩ : ∃ Q, p.length = Q := ⟨_, rfl⟩
        rw [hQ] at hpj
        have hzB := hBr.size
        by_cases hjk : j < K
        · have hjk' : (j : Int) < K := by omega
          have hE := HE.out j hjk
          have hT := HT.out j hjk
          have hs1 : (U.extract j (j + 1)).size = 1 := by rw [hE]; exact txtM_size _
          have hw1 : IntKind.i64.wrap ((j : Int) + 1) = (j : Int) + 1 := IntWalk.i64_in _ (by omega)
          have q0 : (0 : Int) ≤ j := by omega
          have q1 : (j : Int) ≤ (j : Int) + 1 := by omega
          have q2 : (j : Int) + 1 ≤ K := by omega
          have q3 : ((j : Int) + 1).toNat = j + 1 := by omega
          have q4 : (0 : Int) ≤ (j : Int) + 1 := by omega
          obtain ⟨x, hx⟩ : ∃ x, V.getD j false = x := ⟨_, rfl⟩
          rw [hx] at hE hT
          rw [hT] at HP
          have HE2 := Lib.hid hE
          by_cases hxl : x = l
          · subst hxl
            have HP2 : Hid (p ++ runsF (V.drop (j + 1)) x (c + 1) = runsF V false 1) := by show _ = _; rw [← HP.out, runsF_same]
            have hte : ((U.extract j (j + 1)).toList == (txtM [x]).toList) = true := by rw [hE]; simp
            have hte2 : ((U.extract j (j + 1)).toList != (txtM [x]).toList) = false := by rw [hE]; simp
            obtain ⟨g, cp, hv, hat, hgl, ck, fk, HF⟩ := own_last hO hQ
            subst hv
            have hwq : IntKind.i64.wrap (((Q + 1 : Nat) : Int) - 1) = (Q : Int) := by rw [show ((Q + 1 : Nat) : Int) - 1 = (Q : Int) by omega]; exact IntWalk.i64_in _ (by omega)
            have hwq2 : IntKind.i64.wrap ((Q : Int) + 1 - 1) = (Q : Int) := by rw [show (Q : Int) + 1 - 1 = (Q : Int) by omega]; exact IntWalk.i64_in _ (by omega)
            have hwc : IntKind.i64.wrap ((c : Int) + 1) = (c : Int) + 1 := IntWalk.i64_in _ (by omega)
            have y0 : (0 : Int) ≤ (Q : Int) := by omega
            have y1 : (Q : Int) < (Q : Int) + 1 := by omega
            have HL2 := Lib.hid hQ
            clear hE hT HP hO hx hQ
            go_wp2_with fail
            refine ⟨⟨j + 1, p, c + 1, x, _, rfl, rfl, by go_num, by omega, by rw [HL2.out]; omega, by omega, HF.out (c + 1), HP2.out, hBr.setCell (p := ⟨g, Q, none⟩) hat _⟩, by simp only [intOf]; omega⟩
          · have HP2 : Hid ((p ++ [c]) ++ runsF (V.drop (j + 1)) x (0 + 1) = runsF V false 1) := by show _ = _; rw [← HP.out, runsF_other _ hxl, List.append_assoc]; rfl
            have hte : ((U.extract j (j + 1)).toList == (txtM [l]).toList) = false := by
              rw [hE]
              unfold txtM
              rw [txtL_toList, txtL_toList]
              revert hxl
              cases x <;> cases l <;> intro h <;> first | exact absurd rfl h | decide
            have hte2 : ((U.extract j (j + 1)).toList != (txtM [l]).toList) = true := by rw [bne, hte]; rfl
            have HL3 : Hid ((castL (p ++ [c])).length = Q + 1) := by show _ = _; rw [castL_len, List.length_append, List.length_singleton, hQ]
            have hQ2 : (p ++ [c]).length = Q + 1 := by rw [List.length_append, List.length_singleton, hQ]
            clear hT HP hx hE hQ
            go_wp2_with (at_builtin; go_loud (refine append_int rfl _ _ rfl w3.heap.size _ (castL (p ++ [c])) (Q + 1) HL3 (by omega) rfl hO hzB rfl ?_))
            intro v5 w5 ho5 hn5 hb5
            have hB5 := hBr.trans (hb5.mono (by omega))
            rw [show (0 : Int) = ((0 : Nat) : Int) from rfl, castL_snoc'] at ho5
            obtain ⟨Q', hQ'⟩ : ∃ Q', Q + 1 = Q' := ⟨_, rfl⟩
            rw [hQ'] at hQ2
            have hQl : Q' ≤ j + 1 := by omega
            clear hO hBr hb5 HL3 hQ'
            generalize p ++ [c] = p' at *
            obtain ⟨g, cp, hv, hat, hgl, ck, fk, HF⟩ := own_last ho5 hQ2
            subst hv
            have hwq : IntKind.i64.wrap (((Q' + 1 : Nat) : Int) - 1) = (Q' : Int) := by rw [show ((Q' + 1 : Nat) : Int) - 1 = (Q' : Int) by omega]; exact IntWalk.i64_in _ (by omega)
            have hwq2 : IntKind.i64.wrap ((Q' : Int) + 1 - 1) = (Q' : Int) := by rw [show (Q' : Int) + 1 - 1 = (Q' : Int) by omega]; exact IntWalk.i64_in _ (by omega)
            have hwc : IntKind.i64.wrap (((0 : Nat) : Int) + 1) = ((1 : Nat) : Int) := by rfl
            have y0 : (0 : Int) ≤ (Q' : Int) := by omega
            have y1 : (Q' : Int) < (Q' : Int) + 1 := by omega
            have HL2 := Lib.hid hQ2
            have ck2 : w5.cell? ⟨g, Q', none⟩ = some (.int .i64 0) := ck
            clear hQ2 ho5 ck
            go_wp2_with fail
            refine ⟨⟨j + 1, p', 0 + 1, x, _, rfl, by rw [HE2.out], by go_num, by omega, by rw [HL2.out]; omega, by omega, HF.out (0 + 1), HP2.out, hB5.setCell (p := ⟨g, Q', none⟩) hat _⟩, by simp only [intOf]; omega⟩
        · obtain rfl : j = K := by omega
          have hjk' : ¬ (j : Int) < j := by omega
          have hend : oneMore (p ++ [c]) = QL := by
            have := HP.out
            rw [HD.out] at this
            rw [← HRQ.out, ← this]; rfl
          rw [oneMore_snoc] at hend
          obtain ⟨g, cp, hv, hat, hgl, ck, fk, HF⟩ := own_last hO hQ
          subst hv
          have hwq : IntKind.i64.wrap (((Q + 1 : Nat) : Int) - 1) = (Q : Int) := by rw [show ((Q + 1 : Nat) : Int) - 1 = (Q : Int) by omega]; exact IntWalk.i64_in _ (by omega)
          have hwq2 : IntKind.i64.wrap ((Q : Int) + 1 - 1) = (Q : Int) := by rw [show (Q : Int) + 1 - 1 = (Q : Int) by omega]; exact IntWalk.i64_in _ (by omega)
          have hwc : IntKind.i64.wrap ((c : Int) + 1) = (c : Int) + 1 := IntWalk.i64_in _ (by omega)
          have y0 : (0 : Int) ≤ (Q : Int) := by omega
          have y1 : (Q : Int) < (Q : Int) + 1 := by omega
          have HL2 := Lib.hid hQ
          have HFo := HF.out (c + 1)
          have e1 : (((c + 1 : Nat)) : Int) = (c : Int) + 1 := rfl
          rw [e1, hend] at HFo
          have t4 := t3.below hBr t3.lt
          have hB4 := hB3.trans (hBr.mono hB3.size)
          have hB5 := hB4.setCell (p := ⟨g, Q, none⟩) (by omega : w.heap.size ≤ g) (.int .i64 ((c : Int) + 1))
          have t5 := Two.set t4 (b := g) (by omega) Q (.int .i64 ((c : Int) + 1))
          clear HP HE HT HD HRQ HF hO hBr hB4 t4 t3 t3c t3d hB3 hend hO0 hBs HL2 hQ
          have hzz := hB5.size
          go_wp2_with fail
          generalize wr.setCell ⟨g, Q, none⟩ (.int .i64 ((c : Int) + 1)) = w5 at *
          refine (hM.out _).mono ?_; rintro e w6 ⟨rfl, hb6⟩
          have t6 := t5.below hb6 t5.lt
          have ho6 : OwnL w6 w3.heap.size _ (castL QL) := HFo.below hb6
          have hB6 := hB5.trans (hb6.mono hB5.size)
          clear hb6 t5 HFo hB5 hM
          have p7 : Two (w6.alloc (.cells #[.int .i64 N, .int .i64 S] 28)) w6.heap.size (.int .i64 N) (.int .i64 S) 28 := Two.new _ _ _ _
          have t7 := t6.alloc (.cells #[.int .i64 N, .int .i64 S] 28)
          have hB7 := hB6.alloc hB6.size (.cells #[.int .i64 N, .int .i64 S] 28)
          have ho7 : OwnL (w6.alloc (.cells #[.int .i64 N, .int .i64 S] 28)) w3.heap.size _ (castL QL) := ho6.below ((Below.refl _ _).alloc (Nat.le_refl _) _)
          have hne : w1.heap.size < w6.heap.size := t6.lt
          have p7c := p7.cell0
          have p7d := p7.cell1
          have t7c := t7.cell0
          have t7d := t7.cell1
          clear hB6 t6 ho6
          go_wp2_with fail
          generalize w6.alloc (.cells #[.int .i64 N, .int .i64 S] 28) = w7 at *
          refine (hR.out _).mono ?_; rintro e w8 ⟨v8, rfl, ho8, hb8⟩
          have t8 := t7.below hb8 t7.lt
          have t8c := t8.cell0
          have t8d := t8.cell1
          have hr8 := ho7.below hb8
          have hB8 := hB7.trans (hb8.mono hB7.size)
          obtain ⟨a8, cap8, rfl, _⟩ := ho8.four HRe.out
          clear hb8 t7 t7c t7d hB7 ho8 p7 p7c p7d hR ho7
          have hwj : IntKind.i64.wrap ((j : Int) + 1 - 1) = (j : Int) := by rw [show (j : Int) + 1 - 1 = (j : Int) by omega]; exact IntWalk.i64_in _ (by omega)
          have hju : ((U.size : Int) == (j : Int)) = true := by rw [hsz]; simp
          go_wp2_with fail
          refine (hQ.out _).mono ?_; rintro e w9 ⟨v9, rfl, ho9, hb9⟩
          have hr9 := hr8.below hb9
          have hB9 := hB8.trans (hb9.mono hB8.size)
          have hql2 : (castL QL).length ≤ 1000000 := by rw [castL_len]; omega
          clear hb9 t8 t8c t8d hB8 hr8
          go_wp2_with fail
          refine (sameInts_any _ v9 _ _ _ hr9.reads ho9.reads hql2 hql2).mono ?_; rintro e wa ⟨rfl, nq, rfl⟩
          rw [decide_eq_true rfl]
          go_wp2
          go_ret
          exact ⟨rfl, below_drewN hB9 nq⟩
    · have ht' : tok n s = false := by simpa using ht
      rw [ht', mfF_no ht]
      rw [mfF_no ht] at hbq
      have hbx := hbq.out
      have mm : ((false : Bool) != false) = false := rfl
      go_wp2_with fail
      refine (turnOk_any _ _ _).mono ?_; rintro e w4 ⟨rfl, hb4⟩
      rw [ht']
      have hB4 := hB3.trans (hb4.mono hB3.size)
      go_wp2_with fail
      refine (alive_any _).mono ?_; rintro e w5 ⟨rfl, hb5⟩
      have hB5 := hB4.trans (hb5.mono hB4.size)
      go_wp2
      go_ret
      exact ⟨rfl, hB5⟩

set_option maxRecDepth 100000 in
theorem lifted (os : Os) (started : os.Started) (H : Type) (enc : TypeId × Value → H) :
    ReturnsInHanded {} Tryd.checked os 4 .any (fun w args => (Rows.fnMovesForSpec.pre enc Tryd.prog Tryd.f4 Rows.fnMovesForRow.domain false w args ∧ laidMetH Tryd.prog Rows.fnMovesForRow.laid w) ∧ sizedMet enc Tryd.prog Tryd.f4 (OpenSpec.ofChange Rows.fnMovesForSpec) false w args) (Rows.fnMovesForSpec.post enc Tryd.prog Tryd.f4 false true false false) := by
  refine returnsInHanded_of_change_and (C := Tryd.checked) (X := fun w _ => laidMetH Tryd.prog Rows.fnMovesForRow.laid w) (fun _ _ _ hh h => h.of_heap hh) own started (by kernel_rfl) Tryd.func4
    (ChangeSpec.witness_shaped (enc := enc) (C := Tryd.checked) (os := os) (X := fun w _ => laidMetH Tryd.prog Rows.fnMovesForRow.laid w) false (World.laidAll Tryd.prog os Rows.fnMovesForRow.laid) #[.slice none 0 0] 8 (World.laidAll_os _ _ _)
      (World.shaped_of_ZipB (by kernel_rfl) (by kernel_rfl)) (by kernel_rfl) (by kernel_rfl) (by kernel_rfl)
      (by rw [MakeChecks.laidMetH_plain _ _ _ (by kernel_rfl)]; exact laidMet_laidAll _ (by kernel_rfl) (by kernel_rfl))) ?_
  intro W base args ds gs before hval0 hW hcnd _ hL _
  have hval : ∀ (j : Nat) t v, Tryd.f4.params[j]? = some t → args[j]? = some v → Value.okWide Tryd.prog W .any base t v := hval0
  have hW' := hW
  obtain ⟨p, q, hA0, hV, rfl, hfz, hnd⟩ := hW
  have hA : DataW.TrodAll enc Tryd.prog W 0 (fun _ => true) true Tryd.f4.params.toList args.toList ds p := hA0
  rw [Tryd.params4] at hA hval
  obtain ⟨v0, vs0, d0, ds0, p0, q0, hargs, rfl, rfl, h0, r0⟩ := trodAll_cons hA
  obtain ⟨rfl, rfl, rfl⟩ := trodAll_nil r0
  obtain rfl : args = #[v0] := by cases args; simp_all
  obtain ⟨rfl, rfl⟩ := trodVars_none hV
  obtain ⟨acode, lencode, capcode, rfl⟩ := okWide_slice Tryd.underlying22 (hval 0 22 v0 rfl rfl)
  have k0 := h0
  have lt0 : ∀ x ∈ p0, x.block < W.heap.size := by obtain ⟨m, hm⟩ := k0; exact DataW.trod_lt m _ _ _ hm
  obtain ⟨zcode, rowcode⟩ : ∃ zs, IsRow .u8 W acode lencode capcode zs := by
    obtain ⟨fuel, hf⟩ := h0
    rcases open_ints Tryd.underlying22 Tryd.underlying5 (by kernel_rfl) hf with ⟨hcs, _⟩ | ⟨x, l, c, zs, hcs, _, hl, hm, hz, _, hcell, hwz⟩
    · simp [Value.cells] at hcs
      obtain ⟨rfl, rfl, rfl⟩ := hcs
      exact ⟨[], .inl ⟨rfl, rfl, rfl, rfl⟩⟩
    · simp [Value.cells] at hcs
      obtain ⟨rfl, rfl, rfl⟩ := hcs
      exact ⟨zs, .inr ⟨_, rfl, hl, hm, by simpa using hz, hcell, hwz⟩⟩
  clear hA0 hval0
  refine (walk acode lencode capcode zcode W rowcode).mono fun e W' ⟨he, bel⟩ => ?_
  subst he
  exact ⟨_, rfl, _, _, _, [], _, [], hW', trodAll_mk1 (shut_bool Tryd.underlying4 _), (trodAll_cons_mk (Below.trod laidOut (by kernel_rfl) (of_decide_eq_true (by kernel_rfl)) k0 bel lt0) trodAll_mk0), rfl, bel.frame _, fun h => by cases h⟩

theorem facts : joinedFacts Tryd.pinned.checked.prog 4 Tryd.f4 Rows.fnMovesForSpec Rows.fnMovesForRow = true := by
  simp only [joinedFacts, Bool.and_eq_true]
  repeat' apply And.intro
  all_goals first | rw [mayEnter_eq] | (rw [liftsFinal_eq]; kernel_rfl) | (rw [make_eq]; kernel_rfl) | kernel_rfl

theorem over : Rows.fnMovesForRow.holds Tryd.pinned (OpenSpec.ofChange Rows.fnMovesForSpec) :=
  OpenClaim.holds_of_wide 4 Tryd.f4 rfl rfl rfl rfl rfl rfl rfl ⟨rfl, rfl, rfl, rfl, rfl⟩ rfl rfl rfl rfl rfl (by kernel_rfl) Tryd.func4 facts
    (of_decide_eq_true (by kernel_rfl)) (by unfold Func.isWrapper; first | (rw [if_pos (by decide +kernel)]; kernel_rfl) | (rw [if_neg (by decide +kernel)]; exact ⟨rfl, rfl⟩))
    (fun os started H enc _ => lifted os started H enc)

theorem proved : Rows.FnMovesForCardSaid :=
  Claim7.holds_tied_plain_at .later [] [.data, .pinned] true (true, "97dcc2f3217bf827ca5d7d49b76339c1e85332b440dfcb587d19ecd10f4bdf07") true over (fun _ h => by cases h) (by kernel_rfl) (fun _ h => by cases h) fnMovesFor_row_tie rfl ⟨rfl, rfl⟩ (by kernel_rfl) rfl
    (fun f fn hf hfn => by
      obtain rfl : f = 4 := Option.some.inj ((show Tryd.prog.funcNamed Rows.fnMovesForRow.func = some 4 by kernel_rfl).symm.trans hf) |>.symm
      obtain rfl : fn = Tryd.f4 := (Option.some.inj (Tryd.func4.symm.trans hfn)).symm
      exact ⟨by kernel_rfl, fun j t ht => by
        rw [Tryd.params4] at ht
        have hm : t ∈ [22] := by simpa using Array.mem_of_getElem? ht
        have hall : ([22].all fun u => !Tryd.prog.wantsStandIn u) = true := by kernel_rfl
        exact (show Tryd.prog.wantsStandIn t = false by simpa using List.all_eq_true.1 hall t hm)⟩)
    (by kernel_rfl)
#print axioms proved
end Go.Proofs.YtckkgjgfjnfeoaaDoor.lawMovesFor
