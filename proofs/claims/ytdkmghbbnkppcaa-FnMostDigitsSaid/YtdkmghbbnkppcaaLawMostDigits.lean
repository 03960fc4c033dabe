/- Proves that FnMostDigits returns true for every code, and leaves the code as it was. No conditions. -/
import Derived.Test.YtdkmghbbnkppcaaHead
import Derived.Test.YtdkmghbbnkppcaaNumI
import Derived.Test.YtdkmghbbnkppcaaDrawD
import Derived.Test.YtdkmghbbnkppcaaGFun2
set_option linter.unusedVariables false
namespace Go.Proofs.Ytdkmghbbnkppcaa.lawMostDigits

set_option maxRecDepth 4000
open Go.ChangeShapes Go.WideShapes Go.ChangeAt Go.RowKit Go.Joins

set_option maxHeartbeats 4000000 in
theorem walk (a : Option Addr) (len cap : Nat) (z : List Int) (w : World) (row : IsRow .u8 w a len cap z) :
    Calls Try.prog 4 #[.slice a len cap] w fun e w' => e = .returned (.bool true) ∧ Below w.heap.size w w' := by
  
  have hc := CodeIn.of row
  clear row
  by_cases hl : 1048576 < len
  · have hl' : (1048576 : Int) < len := by omega
    go_enter Try.func4, Try.ntmps4
    go_wp2
    go_ret
    exact ⟨rfl, (by repeat (first | exact Below.refl _ _ | assumption | (refine Below.trans ?_ (Below.mono (by assumption) (by first | omega | (simp <;> omega)))) | (refine Below.alloc ?_ (by first | omega | (simp <;> omega)) _) | (refine below_drewN ?_ _) | (refine Below.drew ?_) | (refine Below.setCell ?_ (by first | omega | (simp <;> omega)) _)))⟩
  · have hl' : ¬ (1048576 : Int) < len := by omega
    go_enter Try.func4, Try.ntmps4
    go_wp2_with fail
    refine (drawMostDigits_any a len cap _ hc (by omega)).mono ?_; rintro e w1 ⟨n, s, rfl, n0, n1, s0, s1, hb1⟩
    have hz1 := hb1.size
    try simp at hz1
    go_wp2_with fail
    refine (mostDigits_any _ _ _).mono ?_; rintro e w2 ⟨v1, rfl, hp2, hb2⟩
    have hz2 := hb2.size
    try simp at hz2
    have t2 : Two w2 (w1.heap.size) (.int .i64 n) (.int .i64 s) 24 := Two.below (by repeat (first | assumption | exact Two.new' _ _ _ _ _ (by simp) | refine Two.alloc ?_ _ | refine Two.drewN ?_ _)) hb2 (by first | omega | (simp <;> omega))
    have hlt2 : (w1.heap.size) < w2.heap.size := t2.lt
    have hnt2 : ¬ (w1.heap.size) = w2.heap.size := Nat.ne_of_lt hlt2
    have t2c := t2.cell0
    have t2d := t2.cell1
    go_wp2_with fail
    refine (specMostDigits_any _ _ _).mono ?_; rintro e w3 ⟨v2, rfl, hq3, hb3⟩
    have hz3 := hb3.size
    try simp at hz3
    have t3 : Two w3 (w1.heap.size) (.int .i64 n) (.int .i64 s) 24 := Two.below (by repeat (first | assumption | exact Two.new' _ _ _ _ _ (by simp) | refine Two.alloc ?_ _ | refine Two.drewN ?_ _)) hb3 (by first | omega | (simp <;> omega))
    have hlt3 : (w1.heap.size) < w3.heap.size := t3.lt
    have hnt3 : ¬ (w1.heap.size) = w3.heap.size := Nat.ne_of_lt hlt3
    have t3c := t3.cell0
    have t3d := t3.cell1
    have hp3 := hp2.below hb3
    have hB3 : Below w.heap.size w w3 := (by repeat (first | exact Below.refl _ _ | assumption | (refine Below.trans ?_ (Below.mono (by assumption) (by first | omega | (simp <;> omega)))) | (refine Below.alloc ?_ (by first | omega | (simp <;> omega)) _) | (refine below_drewN ?_ _) | (refine Below.drew ?_) | (refine Below.setCell ?_ (by first | omega | (simp <;> omega)) _)))
    have hlen := mostF_len n s
    clear hb1 hb2 hb3 hp2
    go_wp2_with fail
    refine (sameInts_any v1 v2 _ _ _ hp3.reads hq3.reads (by omega) (by omega)).mono ?_; rintro e w4 ⟨rfl, nq, rfl⟩
    rw [decide_eq_true rfl]
    clear hq3
    have t4 : Two (w3.drewN nq) w1.heap.size (.int .i64 n) (.int .i64 s) 24 := t3
    have hB4 := below_drewN hB3 nq
    have hp4 : OwnO (w3.drewN nq) _ v1 _ := hp3
    clear hp3 hB3 t3 t3c t3d t2 t2c t2d
    generalize w3.drewN nq = w4 at *
    have t4c := t4.cell0
    have t4d := t4.cell1
    have lt4 := t4.lt
    by_cases ht : tok n s = true
    · obtain ⟨N, S, rfl, rfl, hN⟩ := tokN_of ht
      obtain ⟨b1, b2, b3, b4, _⟩ := tokN_bd hN
      
      rw [mostF_yes hN] at hp4
      clear hlen
      obtain ⟨hm1, hm8, hml, hsc, h60, hend⟩ := bas_facts hN
      have hfill := most_fill hsc hm1
      rw [hend] at hfill
      have hbs := fun w => basisOf_any (N : Int) (S : Int) w
      rw [basisF_yes hN] at hbs
      have HBG : Hid (∀ i, i < bmN N S → (castL (basN N S)).getD i 0 = ((basAt N S i : Nat) : Int)) := fun i hi => by rw [castL_getD, ← basAt_get hi]
      have HMG : Hid (∀ i, (castL (mostN N S)).getD i 0 = ((mostAt N S i : Nat) : Int)) := fun i => by rw [castL_getD]; rfl
      have HBL : Hid ((castL (basN N S)).length = bmN N S) := by show _ = _; rw [castL_len]; rfl
      have HML : Hid ((castL (mostN N S)).length = bmN N S) := by show _ = _; rw [castL_len]; exact hml
      have HB60 : Hid (∀ i, i < bmN N S → basAt N S i ≤ 60) := fun i hi => by have := bas_lt hN hi; omega
      have HM60 := Lib.hid h60
      have HBs := Lib.hid hbs
      have HF := Lib.hid hfill
      generalize basN N S = BN at *
      generalize mostN N S = MN at *
      generalize basAt N S = B at *
      generalize mostAt N S = M at *
      generalize bmN N S = m at *
      obtain ⟨g, off, cap1, rfl, hbg, hg4, hnc, hcu⟩ := hp4.cells (N := m) HML.out (by omega)
      have HC : Hid (∀ j, j < m → w4.cell? ⟨g, off + j, none⟩ = some (.int .i64 ((M j : Nat) : Int))) := fun j hj => by rw [hcu j hj, HMG.out]
      have hm0 : ((m : Int) == 0) = false := by simp; omega
      clear hcu hp4 hml ht hN hsc h60 hend hfill hbs
      go_wp2_with fail
      refine (HBs.out _).mono ?_; rintro e w5 ⟨v5, rfl, ho5, hb5⟩
      have t5 := t4.below hb5 t4.lt
      have hB5 := hB4.trans (hb5.mono hB4.size)
      obtain ⟨gB, oB, capB, rfl, hbB, hgB, hncB, hcB⟩ := ho5.cells (N := m) HBL.out (by omega)
      have HCB : Hid (∀ j, j < m → w5.cell? ⟨gB, oB + j, none⟩ = some (.int .i64 ((B j : Nat) : Int))) := fun j hj => by rw [hcB j hj, HBG.out j hj]
      have HCM : Hid (∀ j, j < m → w5.cell? ⟨g, off + j, none⟩ = some (.int .i64 ((M j : Nat) : Int))) := fun j hj => (hb5.cell (p := ⟨g, off + j, none⟩) hg4).trans (HC.out j hj)
      have t5c := t5.cell0
      have t5d := t5.cell1
      have hnn : ((m : Int) != (m : Int)) = false := by simp
      obtain ⟨j, rfl⟩ : ∃ j, m = j + 1 := ⟨m - 1, by omega⟩
      have c1 := HCM.out j (by omega)
      have c2 := HCB.out j (by omega)
      have hMj := HM60.out j (by omega)
      have hBj := HB60.out j (by omega)
      have hf := HF.out
      rw [Nat.add_sub_cancel] at hf
      have hwj : IntKind.i64.wrap (j : Int) = j := IntWalk.i64_in _ (by omega)
      have hjj : (j : Int) < (j : Int) + 1 := by omega
      have hj00 : (0 : Int) ≤ j := by omega
      by_cases h0 : j = 0
      · subst h0
        rw [Nat.add_zero] at c1 c2
        rw [if_neg (by omega)] at hf
        generalize M 0 = X at *
        generalize B 0 = Y at *
        have hfI : (X : Int) * (Y : Int) + 1 = N := by rw [← hf]; simp
        have hp0 : (0 : Int) ≤ (X : Int) * (Y : Int) := Int.mul_nonneg (by omega) (by omega)
        have hp1 : (X : Int) * (Y : Int) ≤ 60 := by omega
        have hw1 : IntKind.i64.wrap ((X : Int) * (Y : Int)) = (X : Int) * (Y : Int) := IntWalk.i64_in _ (by omega)
        have hw2 : IntKind.i64.wrap ((X : Int) * (Y : Int) + 1) = (X : Int) * (Y : Int) + 1 := IntWalk.i64_in _ (by omega)
        have hq : ((X : Int) * (Y : Int) + 1 == (N : Int)) = true := by simpa using hfI
        clear ho5 hcB hb5 t4 t4c t4d HC HF hf hfI
        go_wp2_with fail
        go_quiet (fail)
        go_wp2
        go_ret
        exact ⟨rfl, below_drewN hB5 _⟩
      · obtain ⟨i, rfl⟩ : ∃ i, j = i + 1 := ⟨j - 1, by omega⟩
        rw [if_pos (by omega), show i + 1 + 1 - 2 = i by omega] at hf
        have c3 := HCB.out i (by omega)
        have hBi := HB60.out i (by omega)
        have hi0 : (0 : Int) < (i : Int) + 1 := by omega
        have hi1 : (i : Int) < (i : Int) + 1 + 1 := by omega
        have hi2 : (0 : Int) ≤ i := by omega
        have hwi : IntKind.i64.wrap (i : Int) = i := IntWalk.i64_in _ (by omega)
        have hwi2 : IntKind.i64.wrap ((i : Int) + 1) = (i : Int) + 1 := IntWalk.i64_in _ (by omega)
        generalize M (i + 1) = X at *
        generalize B (i + 1) = Y at *
        generalize B i = Z at *
        have hfI : (X : Int) * (Y : Int) + Z = N := by rw [← hf]; simp
        have hp0 : (0 : Int) ≤ (X : Int) * (Y : Int) := Int.mul_nonneg (by omega) (by omega)
        have hp1 : (X : Int) * (Y : Int) ≤ 60 := by omega
        have hw1 : IntKind.i64.wrap ((X : Int) * (Y : Int)) = (X : Int) * (Y : Int) := IntWalk.i64_in _ (by omega)
        have hw2 : IntKind.i64.wrap ((X : Int) * (Y : Int) + Z) = (X : Int) * (Y : Int) + Z := IntWalk.i64_in _ (by omega)
        have hq : ((X : Int) * (Y : Int) + Z == (N : Int)) = true := by simpa using hfI
        clear ho5 hcB hb5 t4 t4c t4d HC HF hf hfI hwj hjj hj00
        go_wp2_with fail
        go_quiet (fail)
        go_wp2
        go_ret
        exact ⟨rfl, below_drewN hB5 _⟩
    · rw [mostF_no ht] at hp4
      have ht' : tok n s = false := by simpa using ht
      obtain ⟨ga, cap1, rfl, _⟩ := hp4.reads.cells (N := 0) rfl
      clear hp4 hlen
      go_wp2_with fail
      refine (turnOk_any _ _ _).mono ?_; rintro e w5 ⟨rfl, hb5⟩
      rw [ht']
      have hB5 := hB4.trans (hb5.mono hB4.size)
      go_wp2_with fail
      refine (alive_any _).mono ?_; rintro e w6 ⟨rfl, hb6⟩
      have hB6 := hB5.trans (hb6.mono hB5.size)
      go_wp2
      go_ret
      exact ⟨rfl, hB6⟩

set_option maxRecDepth 100000 in
theorem lifted (os : Os) (started : os.Started) (H : Type) (enc : TypeId × Value → H) :
    ReturnsInHanded {} Try.checked os 4 .any (Rows.fnMostDigitsSpec.pre6 enc Try.prog Try.f4 Rows.fnMostDigitsRow.domain false) (Rows.fnMostDigitsSpec.post enc Try.prog Try.f4 false true false false) := by
  refine returnsInHanded_of_change (C := Try.checked) own started (by kernel_rfl) Try.func4
    (ChangeSpec.witness6 (enc := enc) (C := Try.checked) false ⟨#[], #[.slice none 0 0], []⟩ 8 (by kernel_rfl) (by kernel_rfl) (by kernel_rfl) (by kernel_rfl)) ?_
  intro W base args ds gs before hval0 hW hcnd _
  have hval : ∀ (j : Nat) t v, Try.f4.params[j]? = some t → args[j]? = some v → Value.okWide Try.prog W .any base t v := hval0
  have hW' := hW
  obtain ⟨p, q, hA0, hV, rfl, hfz, hnd⟩ := hW
  have hA : DataW.TrodAll enc Try.prog W 0 (fun _ => true) true Try.f4.params.toList args.toList ds p := hA0
  rw [Try.params4] at hA hval
  obtain ⟨v0, vs0, d0, ds0, p0, q0, hargs, rfl, rfl, h0, r0⟩ := trodAll_cons hA
  obtain ⟨rfl, rfl, rfl⟩ := trodAll_nil r0
  obtain rfl : args = #[v0] := by cases args; simp_all
  obtain ⟨rfl, rfl⟩ := trodVars_none hV
  obtain ⟨acode, lencode, capcode, rfl⟩ := okWide_slice Try.underlying22 (hval 0 22 v0 rfl rfl)
  have k0 := h0
  have lt0 : ∀ x ∈ p0, x.block < W.heap.size := by obtain ⟨m, hm⟩ := k0; exact DataW.trod_lt m _ _ _ hm
  obtain ⟨zcode, rowcode⟩ : ∃ zs, IsRow .u8 W acode lencode capcode zs := by
    obtain ⟨fuel, hf⟩ := h0
    rcases open_ints Try.underlying22 Try.underlying5 (by kernel_rfl) hf with ⟨hcs, _⟩ | ⟨x, l, c, zs, hcs, _, hl, hm, hz, _, hcell, hwz⟩
    · simp [Value.cells] at hcs
      obtain ⟨rfl, rfl, rfl⟩ := hcs
      exact ⟨[], .inl ⟨rfl, rfl, rfl, rfl⟩⟩
    · simp [Value.cells] at hcs
      obtain ⟨rfl, rfl, rfl⟩ := hcs
      exact ⟨zs, .inr ⟨_, rfl, hl, hm, by simpa using hz, hcell, hwz⟩⟩
  clear hA0 hval0
  refine (walk acode lencode capcode zcode W rowcode).mono fun e W' ⟨he, bel⟩ => ?_
  subst he
  exact ⟨_, rfl, _, _, _, [], _, [], hW', trodAll_mk1 (shut_bool Try.underlying4 _), (trodAll_cons_mk (Below.trod laidOut (by kernel_rfl) (of_decide_eq_true (by kernel_rfl)) k0 bel lt0) trodAll_mk0), rfl, bel.frame _, fun h => by cases h⟩

theorem facts : joinedFacts Try.pinned.checked.prog 4 Try.f4 Rows.fnMostDigitsSpec Rows.fnMostDigitsRow = true := by
  simp only [joinedFacts, Bool.and_eq_true]
  repeat' apply And.intro
  all_goals first | rw [mayEnter_eq] | (rw [liftsFinal_eq]; kernel_rfl) | (rw [make_eq]; kernel_rfl) | kernel_rfl

theorem over : Rows.fnMostDigitsRow.holds Try.pinned (OpenSpec.ofChange Rows.fnMostDigitsSpec) :=
  OpenClaim.holds_of_wide 4 Try.f4 rfl rfl rfl rfl rfl rfl rfl ⟨rfl, rfl, rfl, rfl, rfl⟩ rfl rfl rfl rfl rfl (by kernel_rfl) Try.func4 facts
    (of_decide_eq_true (by kernel_rfl)) (by unfold Func.isWrapper; first | (rw [if_pos (by decide +kernel)]; kernel_rfl) | (rw [if_neg (by decide +kernel)]; exact ⟨rfl, rfl⟩))
    (fun os started H enc _ => lifted os started H enc)

theorem proved : Rows.FnMostDigitsSaid := over
#print axioms proved
end Go.Proofs.Ytdkmghbbnkppcaa.lawMostDigits
