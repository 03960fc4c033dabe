/- Proves that FnRecordsAbove returns true for every code, and leaves the code as it was. No conditions. -/
import Derived.Test.YtppahekbgbbidabHead
import Derived.Test.YtppahekbgbbidabRecI
import Derived.Test.YtppahekbgbbidabRecL
import Derived.Test.YtppahekbgbbidabGQuot
import Derived.Test.YtppahekbgbbidabDraw9
import Derived.Test.YtppahekbgbbidabGFun2
set_option linter.unusedVariables false
namespace Go.Proofs.Ytppahekbgbbidab.lawRecA

set_option maxRecDepth 4000
open Go.ChangeShapes Go.WideShapes Go.ChangeAt Go.RowKit Go.Joins N

set_option maxHeartbeats 4000000 in
theorem walk (a : Option Addr) (len cap : Nat) (z : List Int) (w : World) (row : IsRow .u8 w a len cap z) :
    Calls Try.prog 6 #[.slice a len cap] w fun e w' => e = .returned (.bool true) ∧ Below w.heap.size w w' := by
  
  have hc := CodeIn.of row
  clear row
  by_cases hl : 1048576 < len
  · have hl' : (1048576 : Int) < len := by omega
    go_enter Try.func6, Try.ntmps6
    go_wp2
    go_ret
    exact ⟨rfl, (by repeat (first | exact Below.refl _ _ | assumption | (refine Below.trans ?_ (Below.mono (by assumption) (by first | omega | (simp <;> omega)))) | (refine Below.alloc ?_ (by first | omega | (simp <;> omega)) _) | (refine below_drewN ?_ _) | (refine Below.drew ?_) | (refine Below.setCell ?_ (by first | omega | (simp <;> omega)) _)))⟩
  · have hl' : ¬ (1048576 : Int) < len := by omega
    go_enter Try.func6, Try.ntmps6
    go_wp2_with fail
    refine (drawRecordsAbove_any a len cap _ hc (by omega)).mono ?_; rintro e w1 ⟨n, s, rfl, n0, n1, s0, s1, hb1⟩
    have hz1 := hb1.size
    try simp at hz1
    go_wp2_with fail
    refine (iRecordsAbove_any _ _ _).mono ?_; rintro e w2 ⟨v1, rfl, hp2, hb2⟩
    have hz2 := hb2.size
    try simp at hz2
    have t2 : Two w2 (w1.heap.size) (.int .i64 n) (.int .i64 s) 24 := Two.below (by repeat (first | assumption | exact Two.new' _ _ _ _ _ (by simp) | refine Two.alloc ?_ _ | refine Two.drewN ?_ _)) hb2 (by first | omega | (simp <;> omega))
    have hlt2 : (w1.heap.size) < w2.heap.size := t2.lt
    have hnt2 : ¬ (w1.heap.size) = w2.heap.size := Nat.ne_of_lt hlt2
    have t2c := t2.cell0
    have t2d := t2.cell1
    go_wp2_with fail
    refine (specRecordsAbove_any _ _ _).mono ?_; rintro e w3 ⟨v2, rfl, hq3, hb3⟩
    have hz3 := hb3.size
    try simp at hz3
    have t3 : Two w3 (w1.heap.size) (.int .i64 n) (.int .i64 s) 24 := Two.below (by repeat (first | assumption | exact Two.new' _ _ _ _ _ (by simp) | refine Two.alloc ?_ _ | refine Two.drewN ?_ _)) hb3 (by first | omega | (simp <;> omega))
    have hlt3 : (w1.heap.size) < w3.heap.size := t3.lt
    have hnt3 : ¬ (w1.heap.size) = w3.heap.size := Nat.ne_of_lt hlt3
    have t3c := t3.cell0
    have t3d := t3.cell1
    have hp3 := hp2.below hb3
    have hB3 : Below w.heap.size w w3 := (by repeat (first | exact Below.refl _ _ | assumption | (refine Below.trans ?_ (Below.mono (by assumption) (by first | omega | (simp <;> omega)))) | (refine Below.alloc ?_ (by first | omega | (simp <;> omega)) _) | (refine below_drewN ?_ _) | (refine Below.drew ?_) | (refine Below.setCell ?_ (by first | omega | (simp <;> omega)) _)))
    have hz3' : w1.heap.size < w3.heap.size := hlt3
    have hlen := recF_len true n s
    clear hb1 hb2 hb3 hp2
    go_wp2_with fail
    refine (sameInts_any v1 v2 _ _ _ hp3.reads hq3.reads (by omega) (by omega)).mono ?_; rintro e w4 ⟨rfl, nq, rfl⟩
    rw [decide_eq_true rfl]
    clear hq3
    have t4 : Two (w3.drewN nq) w1.heap.size (.int .i64 n) (.int .i64 s) 24 := t3
    have hB4 := below_drewN hB3 nq
    have hz4 : w1.heap.size < (w3.drewN nq).heap.size := t4.lt
    by_cases ht : tok n s = true
    · obtain ⟨N, S, rfl, rfl, hN⟩ := tokN_of ht
      obtain ⟨b1, b2, b3, b4, _⟩ := tokN_bd hN
      
      rw [recF_yes hN] at hp3
      have hp4 : OwnL (w3.drewN nq) _ v1 _ := hp3
      clear hp3 hlen hB3 t3 t3c t3d t2 t2c t2d
      generalize w3.drewN nq = w4 at *
      have t4c := t4.cell0
      have t4d := t4.cell1
      have hrl : (recL true N S).length ≤ 60 := Nat.le_trans (recSt_len true N S N) b2
      obtain ⟨_, p', hp', hp1, hpn⟩ := recA_rows hN
      have hO : timeF (N : Int) S 1 = (p' : Int) := by
        have e1 : ((p' * S % N : Nat) : Int) = 1 := by rw [hp1]; rfl
        exact timeF_of ht (by omega) (by omega) (by simpa using e1)
      have HO := Lib.hid hO
      have hlastp : 1 ≤ (recL true N S).length → (recL true N S).getD ((recL true N S).length - 1) 0 = p' := fun h => (last_getD h p').1 hp'
      clear hp' hp1 hO
      have hsome := fun k hk => someA hN (k := k) hk
      have hnr := specNearRule_any N S
      rw [ruleF_yes hN] at hnr
      have hR61 := rowsI_len hN
      have hRe : rowsI N S = (rowsN N S).map rowI := rfl
      rw [hRe] at hnr hR61
      rw [List.length_map] at hR61
      have hM1 : 1 ≤ (rowsN N S).length := by rw [rowsN_head hN]; simp
      have hrl1 : 1 ≤ (recL true N S).length := by rw [← hsome _ (Nat.le_refl _), show (rowsN N S).length = ((rowsN N S).length - 1) + 1 by omega]; exact someF_ne _ (by omega)
      generalize rowsN N S = Rs at *
      generalize recL true N S = T at *
      clear hRe
      obtain ⟨m, hm⟩ : ∃ m, T.length = m := ⟨_, rfl⟩
      obtain ⟨M, hM⟩ : ∃ M, Rs.length = M := ⟨_, rfl⟩
      rw [hm] at hrl1 hrl
      rw [hM] at hR61 hM1
      have HSo : Hid (someF Row.p Rs M = T) := hsome M (by omega)
      obtain ⟨ga, cap1, rfl, HC0⟩ := hp4.cells ((castL_len T).trans hm)
      obtain ⟨gT, rfl, _, gT2, HC1⟩ := HC0 (by omega)
      have hm0 : ((m : Int) == 0) = false := by simp; omega
      have hp4' : OwnL w4 0 (.slice (some ⟨gT, 0, none⟩) m cap1) (castL T) := hp4.mono (Nat.zero_le _)
      have HTL : Hid ((castL T).length = m) := (castL_len T).trans hm
      clear HC0 HC1 hp4 hsome
      go_wp2_with fail
      refine (hnr _).mono ?_; rintro e w5 ⟨v5, rfl, ho5, hb5⟩
      have t5 := t4.below hb5 t4.lt
      have t5c := t5.cell0
      have t5d := t5.cell1
      have hz5 := hb5.size
      have hB5 := hB4.trans (hb5.mono hB4.size)
      have hp5 := hp4'.below hb5
      obtain ⟨a5, cap5, rfl, HF0⟩ := ho5.four hM
      obtain ⟨g, rfl, g2, HF⟩ := HF0 (by omega)
      have HM := Lib.hid hM
      have HMt := Lib.hid hm
      have hnil := made_nil w5
      have hBn : Below w5.heap.size w5 (w5.alloc (.cells #[] 3)) := (Below.refl _ _).alloc (Nat.le_refl _) _
      clear hnr HF0 ho5 hb5 hp4' hM hm t4 t4c t4d hB4
      go_wp2_with fail
      go_loopw [6, 7] (fun y x wr => ∃ (k : Nat) (v0 : Value), x = .int .i64 k ∧ v0 = y ∧ k ≤ M ∧ OwnL wr w5.heap.size v0 (castL (someF Row.p Rs k)) ∧ Below w5.heap.size w5 wr) (fun _ x _ => M - (intOf x).toNat)
      case atStart => exact ⟨0, _, rfl, rfl, by omega, by rw [someF_zero]; exact hnil, hBn⟩
      case round =>
        obtain ⟨k, v0, rfl, rfl, hk, ho, hB⟩ := hrel
        clear hnil hBn
        have hsz := hB.size
        by_cases hkm : k < M
        · have hkm' : (k : Int) < M := by omega
          obtain ⟨x, c, e0, x2, ex0, ex1, ex2, ex3⟩ := HF.out k hkm
          have e0' := (hB.cell (p := ⟨g, k, none⟩) g2).trans e0
          have ex' := (hB.cell (p := ⟨x, 0, none⟩) x2).trans ex0
          have hs1 := someF_succ Row.p (Rs := Rs) (k := k) (by rw [HM.out]; exact hkm)
          have hlen := someF_len Row.p Rs k
          have hs1' : someF Row.p Rs (k + 1) = if (someF Row.p Rs k).getLast? = some ((Rs.getD k row0).p) then someF Row.p Rs k else someF Row.p Rs k ++ [(Rs.getD k row0).p] := hs1
          clear e0 ex0 ex1 ex2 ex3 hs1
          generalize (Rs.getD k row0).p = X at *
          by_cases hk0 : k = 0
          · subst hk0
            rw [someF_zero] at ho hs1'
            rw [if_neg (by simp)] at hs1'
            obtain ⟨a6, cap6, rfl, _⟩ := ho.cells (N := 0) rfl
            have HS := Lib.hid hs1'
            have HL0 : Hid ((castL ([] : List Nat)).length = 0) := rfl
            clear hs1'
            go_wp2_with fail
            go_quiet (fail)
            go_wp2_with (at_builtin; refine append_int rfl _ _ rfl w5.heap.size _ (castL []) 0 HL0 (by omega) rfl (show OwnL (wr.drewN nq) w5.heap.size _ _ from ho) (show w5.heap.size ≤ (wr.drewN nq).heap.size by simpa using hsz) rfl ?_)
            intro v7 w7 ho7 hn7 hb7
            have ho8 : OwnL w7 w5.heap.size v7 (castL (someF Row.p Rs (0 + 1))) := by rw [HS.out, List.nil_append]; exact ho7
            have hB7 := (below_drewN hB nq).trans hb7
            clear ho ho7 hb7 hB
            go_wp2_with fail
            go_roundw
            case rel => exact ⟨0 + 1, v7, by go_num, rfl, by omega, ho8, hB7⟩
            case measure => simp only [intOf]; omega
          · obtain ⟨j, rfl⟩ : ∃ j, k = j + 1 := ⟨k - 1, by omega⟩
            have hne := someF_ne Row.p (Rs := Rs) (k := j) (by rw [HM.out]; omega)
            generalize someF Row.p Rs (j + 1) = D at *
            obtain ⟨L, hL⟩ : ∃ L, D.length = L := ⟨_, rfl⟩
            have hlg := last_getD hne X
            rw [hL] at hne hlg hlen
            obtain ⟨a6, cap6, rfl, HC5⟩ := ho.cells ((castL_len D).trans hL)
            obtain ⟨h, rfl, h1, h2, HC6⟩ := HC5 (by omega)
            have hl := HC6.out (L - 1) (by omega)
            rw [castL_getD] at hl
            generalize D.getD (L - 1) 0 = l at *
            have HL : Hid ((castL D).length = L) := (castL_len D).trans hL
            have q1 : (1 : Int) ≤ L := by omega
            have q2 : ((L : Int) - 1).toNat = L - 1 := by omega
            have q3 : (0 : Int) ≤ (L : Int) - 1 := by omega
            have q4 : (L : Int) - 1 < L := by omega
            have q5 : IntKind.i64.wrap ((L : Int) - 1) = (L : Int) - 1 := IntWalk.i64_in _ (by omega)
            have q6 : ((L : Int) == 0) = false := by simp; omega
            have q7 : (j : Int) + 1 < M := by omega
            have q8 : (0 : Int) ≤ (j : Int) + 1 := by omega
            have q9 : ((j : Int) + 1).toNat = j + 1 := by omega
            clear HC5 HC6 hL
            by_cases hlx : l = X
            · rw [if_pos (hlg.2 hlx)] at hs1'
              have HS := Lib.hid hs1'
              have c' : ((l : Int) != X) = false := by simp; omega
              clear hs1' hlg hlx
              go_wp2_with fail
              go_quiet (fail)
              have ho8 : OwnL (wr.drewN nq) w5.heap.size (.slice (some ⟨h, 0, none⟩) L cap6) (castL (someF Row.p Rs (j + 1 + 1))) := by rw [HS.out]; exact ho
              have hB7 := below_drewN hB nq
              clear ho hB
              go_wp2_with fail
              go_roundw
              case rel => exact ⟨j + 1 + 1, _, by go_num, rfl, by omega, ho8, hB7⟩
              case measure => simp only [intOf]; omega
            · rw [if_neg (fun h => hlx (hlg.1 h))] at hs1'
              have HS := Lib.hid hs1'
              have c' : ((l : Int) != X) = true := by simp; omega
              clear hs1' hlg hlx
              go_wp2_with fail
              go_quiet (fail)
              have hsz' : w5.heap.size ≤ (wr.drewN nq).heap.size := by simpa using hsz
              go_wp2_with (at_builtin; refine append_int rfl _ _ rfl w5.heap.size _ (castL D) L HL (by omega) rfl (show OwnL (wr.drewN nq) w5.heap.size _ (castL D) from ho) hsz' rfl ?_)
              intro v7 w7 ho7 hn7 hb7
              have ho8 : OwnL w7 w5.heap.size v7 (castL (someF Row.p Rs (j + 1 + 1))) := by rw [HS.out, castL_snoc]; exact ho7
              have hB7 := (below_drewN hB nq).trans hb7
              clear ho ho7 hb7 hB
              go_wp2_with fail
              go_roundw
              case rel => exact ⟨j + 1 + 1, v7, by go_num, rfl, by omega, ho8, hB7⟩
              case measure => simp only [intOf]; omega
        · obtain rfl : k = M := by omega
          have hkm' : decide ((k : Int) < k) = false := by simp
          rw [HSo.out] at ho
          have hp6 := hp5.below hB
          have t6 : Two wr w1.heap.size (.int .i64 N) (.int .i64 S) 24 := Two.below t5 hB (by omega)
          have hB6 := hB5.trans (hB.mono hB5.size)
          have t6c := t6.cell0
          have t6d := t6.cell1
          clear HF hp5 t5 t5c t5d hB5
          have hlp := hlastp (by rw [HMt.out]; exact hrl1)
          rw [HMt.out] at hlp
          obtain ⟨a8, cap8, e8, HC8⟩ := hp6.cells HTL.out
          obtain ⟨g8, rfl, _, g82, HC9⟩ := HC8 (by omega)
          injection e8 with e81 e82 e83
          injection e81 with e81
          injection e81 with e81
          subst e81
          have cl := HC9.out (m - 1) (by omega)
          rw [castL_getD, hlp] at cl
          have q1 : (1 : Int) ≤ m := by omega
          have q2 : ((m : Int) - 1).toNat = m - 1 := by omega
          have q3 : (0 : Int) ≤ (m : Int) - 1 := by omega
          have q4 : (m : Int) - 1 < m := by omega
          have q5 : IntKind.i64.wrap ((m : Int) - 1) = (m : Int) - 1 := IntWalk.i64_in _ (by omega)
          have hlT : (castL T).length ≤ 1000000 := by rw [HTL.out]; omega
          have hoR := ho.reads
          have hpR := hp6.reads
          have heq : ((p' : Int) == p') = true := by simp
          clear HC8 HC9 hlp hlastp e83 ho hp6
          have gTl : gT < wr.heap.size := g82
          have hoD : Reads wr.drew v0 (castL T) := hoR
          have hpD : Reads wr.drew (.slice (some ⟨gT, 0, none⟩) m cap1) (castL T) := hpR
          go_wp2_with fail
          go_region_held3 (fun w' => w'.cell? ⟨w1.heap.size, 0, none⟩ = some (.int .i64 (N : Int)) ∧ w'.cell? ⟨w1.heap.size, 1, none⟩ = some (.int .i64 (S : Int)) ∧ w'.cell? ⟨gT, m - 1, none⟩ = some (.int .i64 (p' : Int))) (first | go_keep | exact ⟨t'c, t'd, cl'⟩)
            (first
              | (go_at_call 24; refine (sameInts_any _ _ _ _ _ hoD hpD hlT hlT).mono ?_; rintro e w' ⟨rfl, nq, rfl⟩; rw [decide_eq_true rfl])
              | (go_at_call 30; refine (timeOf_any N S 1 _).mono ?_; rintro e w' ⟨rfl, hb'⟩; rw [HO.out]; have t' : Two w' w1.heap.size (.int .i64 (N : Int)) (.int .i64 (S : Int)) 24 := Two.below (Two.drewN t6 _) hb' (show w1.heap.size < wr.heap.size by omega); have t'c := t'.cell0; have t'd := t'.cell1; have cl' := (hb'.cell (p := ⟨gT, m - 1, none⟩) gTl).trans cl; have hBF := (below_drewN hB6 _).trans (hb'.mono hB6.size)))
          go_wp2
          go_ret
          exact ⟨ret_bool (by simp), hBF⟩
    · 
      rw [recF_no ht] at *
      have ht' : tok n s = false := by simpa using ht
      have hp4 : OwnL (w3.drewN nq) _ v1 [] := hp3
      obtain ⟨ga, cap1, rfl, _⟩ := hp4.reads.cells (N := 0) rfl
      clear hp3 hp4
      go_wp2_with fail
      refine (turnOk_any _ _ _).mono ?_; rintro e w5 ⟨rfl, hb5⟩
      rw [ht']
      go_wp2_with fail
      refine (alive_any _).mono ?_; rintro e w6 ⟨rfl, hb6⟩
      have hz5 := hb5.size
      have hB6 : Below w.heap.size w w6 := (hB4.trans (hb5.mono hB4.size)).trans (hb6.mono (Nat.le_trans hB4.size hz5))
      go_wp2
      go_ret
      exact ⟨rfl, hB6⟩

set_option maxRecDepth 100000 in
theorem lifted (os : Os) (started : os.Started) (H : Type) (enc : TypeId × Value → H) :
    ReturnsInHanded {} Try.checked os 6 .any (Rows.fnRecordsAboveSpec.pre6 enc Try.prog Try.f6 Rows.fnRecordsAboveRow.domain false) (Rows.fnRecordsAboveSpec.post enc Try.prog Try.f6 false true false false) := by
  refine returnsInHanded_of_change (C := Try.checked) own started (by kernel_rfl) Try.func6
    (ChangeSpec.witness6 (enc := enc) (C := Try.checked) false ⟨#[], #[.slice none 0 0], []⟩ 8 (by kernel_rfl) (by kernel_rfl) (by kernel_rfl) (by kernel_rfl)) ?_
  intro W base args ds gs before hval0 hW hcnd _
  have hval : ∀ (j : Nat) t v, Try.f6.params[j]? = some t → args[j]? = some v → Value.okWide Try.prog W .any base t v := hval0
  have hW' := hW
  obtain ⟨p, q, hA0, hV, rfl, hfz, hnd⟩ := hW
  have hA : DataW.TrodAll enc Try.prog W 0 (fun _ => true) true Try.f6.params.toList args.toList ds p := hA0
  rw [Try.params6] at hA hval
  obtain ⟨v0, vs0, d0, ds0, p0, q0, hargs, rfl, rfl, h0, r0⟩ := trodAll_cons hA
  obtain ⟨rfl, rfl, rfl⟩ := trodAll_nil r0
  obtain rfl : args = #[v0] := by cases args; simp_all
  obtain ⟨rfl, rfl⟩ := trodVars_none hV
  obtain ⟨acode, lencode, capcode, rfl⟩ := okWide_slice Try.underlying22 (hval 0 22 v0 rfl rfl)
  have k0 := h0
  have lt0 : ∀ x ∈ p0, x.block < W.heap.size := by obtain ⟨m, hm⟩ := k0; exact DataW.trod_lt m _ _ _ hm
  obtain ⟨zcode, rowcode⟩ : ∃ zs, IsRow .u8 W acode lencode capcode zs := by
    obtain ⟨fuel, hf⟩ := h0
    rcases open_ints Try.underlying22 Try.underlying5 (by kernel_rfl) hf with ⟨hcs, _⟩ | ⟨x, l, c, zs, hcs, _, hl, hm, hz, _, hcell, hwz⟩
    · simp [Value.cells] at hcs
      obtain ⟨rfl, rfl, rfl⟩ := hcs
      exact ⟨[], .inl ⟨rfl, rfl, rfl, rfl⟩⟩
    · simp [Value.cells] at hcs
      obtain ⟨rfl, rfl, rfl⟩ := hcs
      exact ⟨zs, .inr ⟨_, rfl, hl, hm, by simpa using hz, hcell, hwz⟩⟩
  clear hA0 hval0
  refine (walk acode lencode capcode zcode W rowcode).mono fun e W' ⟨he, bel⟩ => ?_
  subst he
  exact ⟨_, rfl, _, _, _, [], _, [], hW', trodAll_mk1 (shut_bool Try.underlying4 _), (trodAll_cons_mk (Below.trod laidOut (by kernel_rfl) (of_decide_eq_true (by kernel_rfl)) k0 bel lt0) trodAll_mk0), rfl, bel.frame _, fun h => by cases h⟩

theorem facts : joinedFacts Try.pinned.checked.prog 6 Try.f6 Rows.fnRecordsAboveSpec Rows.fnRecordsAboveRow = true := by
  simp only [joinedFacts, Bool.and_eq_true]
  repeat' apply And.intro
  all_goals first | rw [mayEnter_eq] | (rw [liftsFinal_eq]; kernel_rfl) | (rw [make_eq]; kernel_rfl) | kernel_rfl

theorem over : Rows.fnRecordsAboveRow.holds Try.pinned (OpenSpec.ofChange Rows.fnRecordsAboveSpec) :=
  OpenClaim.holds_of_wide 6 Try.f6 rfl rfl rfl rfl rfl rfl rfl ⟨rfl, rfl, rfl, rfl, rfl⟩ rfl rfl rfl rfl rfl (by kernel_rfl) Try.func6 facts
    (of_decide_eq_true (by kernel_rfl)) (by unfold Func.isWrapper; first | (rw [if_pos (by decide +kernel)]; kernel_rfl) | (rw [if_neg (by decide +kernel)]; exact ⟨rfl, rfl⟩))
    (fun os started H enc _ => lifted os started H enc)

theorem proved : Rows.FnRecordsAboveSaid := over
#print axioms proved
end Go.Proofs.Ytppahekbgbbidab.lawRecA
