/- Proves that FnQuotientsOf returns true for every code, and leaves the code as it was. No conditions. -/
import Derived.Test.YtbdgginamnllaaaFromQ
import Derived.Test.YtbdgginamnllaaaRuleN
import Derived.Test.YtbdgginamnllaaaDraw9
import Derived.Test.YtbdgginamnllaaaFun3
set_option linter.unusedVariables false
namespace Go.Proofs.Ytbdgginamnllaaa.lawQuot

set_option maxRecDepth 4000
open Go.ChangeShapes Go.WideShapes Go.ChangeAt Go.RowKit Go.Joins N

theorem quot_last {n s : Nat} (h : tokN n s = true) : 2 ≤ (quotsN n s).getD ((quotsN n s).length - 1) 0 := by
  have c := all_turns chkQuots_all h
  unfold chkQuots at c
  simp only [Bool.and_eq_true, Nat.ble_eq] at c
  have d := c.2.1
  cases e : (quotsN n s).getLast? with
  | none => rw [e] at d; simp at d
  | some l =>
    rw [e] at d
    simp only [Nat.ble_eq] at d
    rw [List.getD_eq_getElem?_getD, ← List.getLast?_eq_getElem?, e]
    exact d

theorem quot_sum {n s : Nat} (h : tokN n s = true) : (quotsN n s).foldl (· + ·) 0 = (rowsI n s).length + 1 := by
  have c := all_turns chkQuots_all h
  unfold chkQuots at c
  simp only [Bool.and_eq_true, Nat.beq_eq] at c
  unfold rowsI
  rw [List.length_map]
  exact c.2.2.2.2.1

set_option maxHeartbeats 4000000 in
theorem walk (a : Option Addr) (len cap : Nat) (z : List Int) (w : World) (row : IsRow .u8 w a len cap z) :
    Calls Try.prog 6 #[.slice a len cap] w fun e w' => e = .returned (.bool true) ∧ Below w.heap.size w w' := by
  
  have hc := CodeIn.of row
  clear row
  by_cases hl : 1048576 < len
  · have hl' : (1048576 : Int) < len := by omega
    go_enter Try.func6, Try.ntmps6
    go_wp2
    go_ret
    exact ⟨rfl, (by repeat (first | exact Below.refl _ _ | assumption | (refine Below.trans ?_ (Below.mono (by assumption) (by first | omega | (simp <;> omega)))) | (refine Below.alloc ?_ (by first | omega | (simp <;> omega)) _) | (refine below_drewN ?_ _) | (refine Below.drew ?_) | (refine Below.setCell ?_ (by first | omega | (simp <;> omega)) _)))⟩
  · have hl' : ¬ (1048576 : Int) < len := by omega
    go_enter Try.func6, Try.ntmps6
    go_wp2_with fail
    refine (drawQuotientsOf_any a len cap _ hc (by omega)).mono ?_; rintro e w1 ⟨n, s, rfl, n0, n1, s0, s1, hb1⟩
    have hz1 := hb1.size
    try simp at hz1
    go_wp2_with fail
    refine (quotientsOf_any _ _ _).mono ?_; rintro e w2 ⟨v1, rfl, hp2, hb2⟩
    have hz2 := hb2.size
    try simp at hz2
    have t2 : Two w2 (w1.heap.size) (.int .i64 n) (.int .i64 s) 24 := Two.below (by repeat (first | assumption | exact Two.new' _ _ _ _ _ (by simp) | refine Two.alloc ?_ _ | refine Two.drewN ?_ _)) hb2 (by first | omega | (simp <;> omega))
    have hlt2 : (w1.heap.size) < w2.heap.size := t2.lt
    have hnt2 : ¬ (w1.heap.size) = w2.heap.size := Nat.ne_of_lt hlt2
    have t2c := t2.cell0
    have t2d := t2.cell1
    go_wp2_with fail
    refine (specQuotientsOf_any _ _ _).mono ?_; rintro e w3 ⟨v2, rfl, hq3, hb3⟩
    have hz3 := hb3.size
    try simp at hz3
    have t3 : Two w3 (w1.heap.size) (.int .i64 n) (.int .i64 s) 24 := Two.below (by repeat (first | assumption | exact Two.new' _ _ _ _ _ (by simp) | refine Two.alloc ?_ _ | refine Two.drewN ?_ _)) hb3 (by first | omega | (simp <;> omega))
    have hlt3 : (w1.heap.size) < w3.heap.size := t3.lt
    have hnt3 : ¬ (w1.heap.size) = w3.heap.size := Nat.ne_of_lt hlt3
    have t3c := t3.cell0
    have t3d := t3.cell1
    have hp3 := hp2.below hb3
    have hB3 : Below w.heap.size w w3 := (by repeat (first | exact Below.refl _ _ | assumption | (refine Below.trans ?_ (Below.mono (by assumption) (by first | omega | (simp <;> omega)))) | (refine Below.alloc ?_ (by first | omega | (simp <;> omega)) _) | (refine below_drewN ?_ _) | (refine Below.drew ?_) | (refine Below.setCell ?_ (by first | omega | (simp <;> omega)) _)))
    have hz3' : w1.heap.size < w3.heap.size := hlt3
    have hlen := quotF_len n s
    clear hb1 hb2 hb3 hp2
    go_wp2_with fail
    refine (sameInts_any v1 v2 _ _ _ hp3.reads hq3.reads (by omega) (by omega)).mono ?_; rintro e w4 ⟨rfl, nq, rfl⟩
    rw [decide_eq_true rfl]
    clear hq3
    have t4 : Two (w3.drewN nq) w1.heap.size (.int .i64 n) (.int .i64 s) 24 := t3
    have hB4 := below_drewN hB3 nq
    have hz4 : w1.heap.size < (w3.drewN nq).heap.size := t4.lt
    by_cases ht : tok n s = true
    · obtain ⟨N, S, rfl, rfl, hN⟩ := tokN_of ht
      obtain ⟨b1, b2, b3, b4, _⟩ := tokN_bd hN
      
      rw [quotF_yes hN] at hp3
      have hp4 : OwnL (w3.drewN nq) _ v1 _ := hp3
      clear hp3 hlen hB3 t3 t3c t3d t2 t2c t2d
      generalize w3.drewN nq = w4 at *
      have t4c := t4.cell0
      have t4d := t4.cell1
      have HF := Lib.hid (from_quots hN)
      have HQ60 : Hid (∀ x ∈ quotsN N S, 1 ≤ x ∧ x ≤ 60) := quots_le hN
      have HQ8 := Lib.hid (quots_len hN)
      have HL2 : Hid (2 ≤ (quotsN N S).getD ((quotsN N S).length - 1) 0) := quot_last hN
      have HS : Hid ((quotsN N S).foldl (· + ·) 0 = (rowsI N S).length + 1) := quot_sum hN
      have hR61 := rowsI_len hN
      have hne := quots_ne hN
      have hnr := nearRule_any N S
      rw [ruleF_yes hN] at hnr
      generalize quotsN N S = Q at *
      generalize rowsI N S = T at *
      obtain ⟨m, hm⟩ : ∃ m, Q.length = m := ⟨_, rfl⟩
      obtain ⟨r, hr⟩ : ∃ r, T.length = r := ⟨_, rfl⟩
      have hm1 : 1 ≤ m := by
        cases Q with
        | nil => exact absurd rfl hne
        | cons x r => simp at hm; omega
      obtain ⟨ga, cap1, rfl, HC0⟩ := hp4.cells ((castL_len Q).trans hm)
      obtain ⟨g, rfl, g1, g2, HC1⟩ := HC0 (by omega)
      have HC : Hid (∀ j, j < m → w4.cell? ⟨g, j, none⟩ = some (.int .i64 ((Q.getD j 0 : Nat) : Int))) := fun j hj => by
        have h' := HC1.out j hj
        rwa [castL_getD] at h'
      have HR : Hid (Reads w4 (.slice (some ⟨g, 0, none⟩) m cap1) (castL Q)) := hp4.reads
      have HM := Lib.hid hm
      have HRr := Lib.hid hr
      have hm8 : m ≤ 8 := by have := HQ8.out; omega
      have hr61 : r ≤ 61 := by omega
      have hm0 : ((m : Int) == 0) = false := by simp; omega
      clear HC0 HC1 hp4 hm hr hne ht hN hR61
      go_wp2_with fail
      go_loopw [5, 6] (fun y x wr => ∃ (k A : Nat), x = .int .i64 k ∧ y = .int .i64 A ∧ k ≤ m ∧ A ≤ 60 * k ∧ Hid ((Q.take k).foldl (· + ·) 0 = A) ∧ wr = w4) (fun _ x _ => m - (intOf x).toNat)
      case atStart => exact ⟨0, 0, rfl, rfl, by omega, by omega, by show _ = _; rfl, rfl⟩
      case round =>
        obtain ⟨k, A, rfl, rfl, hk, hA, HA, rfl⟩ := hrel
        by_cases hkm : k < m
        · have hkm' : (k : Int) < m := by omega
          have ck := HC.out k hkm
          have hkl : k < Q.length := by rw [HM.out]; exact hkm
          have hQk : Q.getD k 0 ∈ Q := by rw [List.getD_eq_getElem?_getD, List.getElem?_eq_getElem hkl]; simp
          have hq60 := HQ60.out _ hQk
          have hA2 : (Q.take (k + 1)).foldl (· + ·) 0 = A + Q.getD k 0 := by
            rw [List.take_succ_eq_append_getElem hkl, List.foldl_append, HA.out, List.getD_eq_getElem?_getD, List.getElem?_eq_getElem hkl]; rfl
          generalize Q.getD k 0 = q at *
          have HA2 := Lib.hid hA2
          have c1 : decide ((q : Int) < 1) = false := by simp; omega
          clear hA2 hQk
          go_wp2_with fail
          go_roundw
          case rel => exact ⟨k + 1, A + q, by go_num, by go_num, by omega, by omega, HA2.out, trivial⟩
          case measure => simp only [intOf]; omega
        · obtain rfl : k = m := by omega
          have hkm' : decide ((k : Int) < k) = false := by simp
          have hAr : A = r + 1 := by
            have h1 := HA.out
            rw [List.take_of_length_le (by rw [HM.out]; exact Nat.le_refl _), HS.out, HRr.out] at h1
            exact h1.symm
          subst hAr
          have hf := fromQuotients_any (.slice (some ⟨g, 0, none⟩) k cap1) (castL Q) wr HR.out (by rw [castL_len, HM.out]; omega)
          have cl := HC.out (k - 1) (by omega)
          have hl2 := HL2.out
          rw [HM.out] at hl2
          generalize Q.getD (k - 1) 0 = lastq at *
          have q0 : (0 : Int) ≤ (k : Int) - 1 := by omega
          have q1 : (k : Int) - 1 < k := by omega
          have q2 : ((k : Int) - 1).toNat = k - 1 := by omega
          have q3 : (1 : Int) ≤ k := by omega
          have q4 : (2 : Int) ≤ lastq := by omega
          have HnR := Lib.hid hnr
          clear hnr
          go_wp2_with fail
          refine hf.mono ?_; rintro e w5 ⟨rfl, hb5⟩
          rw [HF.out]
          have t5 := t4.below hb5 t4.lt
          have t5c := t5.cell0
          have t5d := t5.cell1
          have cl5 := (hb5.cell (p := ⟨g, k - 1, none⟩) g2).trans cl
          have hz5 := hb5.size
          have hB5 := hB4.trans (hb5.mono hB4.size)
          clear hb5 hf cl
          have x5 : Two (w5.alloc (.cells #[.int .i64 (N : Int), .int .i64 (S : Int)] 24)) w5.heap.size (.int .i64 N) (.int .i64 S) 24 := Two.new _ _ _ _
          have x5c := x5.cell0
          have x5d := x5.cell1
          have t6 : Two (w5.alloc (.cells #[.int .i64 (N : Int), .int .i64 (S : Int)] 24)) w1.heap.size (.int .i64 N) (.int .i64 S) 24 := t5.alloc _
          have t6c := t6.cell0
          have t6d := t6.cell1
          have cl6 := (((Below.refl w5.heap.size w5).alloc (Nat.le_refl _) (.cells #[.int .i64 (N : Int), .int .i64 (S : Int)] 24)).cell (p := ⟨g, k - 1, none⟩) (show g < w5.heap.size by omega)).trans cl5
          go_wp2_with fail
          refine (HnR.out _).mono ?_; rintro e w6 ⟨v6, rfl, ho6, hb6⟩
          obtain ⟨a6, cap6, rfl, _⟩ := ho6.cells HRr.out
          have hB6 : Below w.heap.size w w6 := (hB5.alloc hB5.size _).trans (hb6.mono (by simp; have := hB5.size; omega))
          have heq : (((r + 1 : Nat) : Int) == (r : Int) + 1) = true := by simp
          have heq2 : (((r : Nat) : Int) + 1 == (r : Int) + 1) = true := by simp
          clear ho6 hb6
          go_wp2
          go_ret
          exact ⟨ret_bool (by simp), hB6⟩
    · 
      rw [quotF_no ht] at *
      have ht' : tok n s = false := by simpa using ht
      have hp4 : OwnL (w3.drewN nq) _ v1 [] := hp3
      obtain ⟨ga, cap1, rfl, _⟩ := hp4.reads.cells (N := 0) rfl
      clear hp3 hp4
      go_wp2_with fail
      refine (turnOk_any _ _ _).mono ?_; rintro e w5 ⟨rfl, hb5⟩
      rw [ht']
      go_wp2_with fail
      refine (alive_any _).mono ?_; rintro e w6 ⟨rfl, hb6⟩
      have hz5 := hb5.size
      have hB6 : Below w.heap.size w w6 := (hB4.trans (hb5.mono hB4.size)).trans (hb6.mono (Nat.le_trans hB4.size hz5))
      go_wp2
      go_ret
      exact ⟨rfl, hB6⟩

set_option maxRecDepth 100000 in
theorem lifted (os : Os) (started : os.Started) (H : Type) (enc : TypeId × Value → H) :
    ReturnsInHanded {} Try.checked os 6 .any (Rows.fnQuotientsOfSpec.pre6 enc Try.prog Try.f6 Rows.fnQuotientsOfRow.domain false) (Rows.fnQuotientsOfSpec.post enc Try.prog Try.f6 false true false false) := by
  refine returnsInHanded_of_change (C := Try.checked) own started (by kernel_rfl) Try.func6
    (ChangeSpec.witness6 (enc := enc) (C := Try.checked) false ⟨#[], #[.slice none 0 0], []⟩ 8 (by kernel_rfl) (by kernel_rfl) (by kernel_rfl) (by kernel_rfl)) ?_
  intro W base args ds gs before hval0 hW hcnd _
  have hval : ∀ (j : Nat) t v, Try.f6.params[j]? = some t → args[j]? = some v → Value.okWide Try.prog W .any base t v := hval0
  have hW' := hW
  obtain ⟨p, q, hA0, hV, rfl, hfz, hnd⟩ := hW
  have hA : DataW.TrodAll enc Try.prog W 0 (fun _ => true) true Try.f6.params.toList args.toList ds p := hA0
  rw [Try.params6] at hA hval
  obtain ⟨v0, vs0, d0, ds0, p0, q0, hargs, rfl, rfl, h0, r0⟩ := trodAll_cons hA
  obtain ⟨rfl, rfl, rfl⟩ := trodAll_nil r0
  obtain rfl : args = #[v0] := by cases args; simp_all
  obtain ⟨rfl, rfl⟩ := trodVars_none hV
  obtain ⟨acode, lencode, capcode, rfl⟩ := okWide_slice Try.underlying22 (hval 0 22 v0 rfl rfl)
  have k0 := h0
  have lt0 : ∀ x ∈ p0, x.block < W.heap.size := by obtain ⟨m, hm⟩ := k0; exact DataW.trod_lt m _ _ _ hm
  obtain ⟨zcode, rowcode⟩ : ∃ zs, IsRow .u8 W acode lencode capcode zs := by
    obtain ⟨fuel, hf⟩ := h0
    rcases open_ints Try.underlying22 Try.underlying5 (by kernel_rfl) hf with ⟨hcs, _⟩ | ⟨x, l, c, zs, hcs, _, hl, hm, hz, _, hcell, hwz⟩
    · simp [Value.cells] at hcs
      obtain ⟨rfl, rfl, rfl⟩ := hcs
      exact ⟨[], .inl ⟨rfl, rfl, rfl, rfl⟩⟩
    · simp [Value.cells] at hcs
      obtain ⟨rfl, rfl, rfl⟩ := hcs
      exact ⟨zs, .inr ⟨_, rfl, hl, hm, by simpa using hz, hcell, hwz⟩⟩
  clear hA0 hval0
  refine (walk acode lencode capcode zcode W rowcode).mono fun e W' ⟨he, bel⟩ => ?_
  subst he
  exact ⟨_, rfl, _, _, _, [], _, [], hW', trodAll_mk1 (shut_bool Try.underlying4 _), (trodAll_cons_mk (Below.trod laidOut (by kernel_rfl) (of_decide_eq_true (by kernel_rfl)) k0 bel lt0) trodAll_mk0), rfl, bel.frame _, fun h => by cases h⟩

theorem facts : joinedFacts Try.pinned.checked.prog 6 Try.f6 Rows.fnQuotientsOfSpec Rows.fnQuotientsOfRow = true := by
  simp only [joinedFacts, Bool.and_eq_true]
  repeat' apply And.intro
  all_goals first | rw [mayEnter_eq] | (rw [liftsFinal_eq]; kernel_rfl) | (rw [make_eq]; kernel_rfl) | kernel_rfl

theorem over : Rows.fnQuotientsOfRow.holds Try.pinned (OpenSpec.ofChange Rows.fnQuotientsOfSpec) :=
  OpenClaim.holds_of_wide 6 Try.f6 rfl rfl rfl rfl rfl rfl rfl ⟨rfl, rfl, rfl, rfl, rfl⟩ rfl rfl rfl rfl rfl (by kernel_rfl) Try.func6 facts
    (of_decide_eq_true (by kernel_rfl)) (by unfold Func.isWrapper; first | (rw [if_pos (by decide +kernel)]; kernel_rfl) | (rw [if_neg (by decide +kernel)]; exact ⟨rfl, rfl⟩))
    (fun os started H enc _ => lifted os started H enc)

theorem proved : Rows.FnQuotientsOfSaid := over
#print axioms proved
end Go.Proofs.Ytbdgginamnllaaa.lawQuot
