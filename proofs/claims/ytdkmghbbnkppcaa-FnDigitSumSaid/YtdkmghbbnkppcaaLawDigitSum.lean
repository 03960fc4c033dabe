/- Proves that FnDigitSum returns true for every code, and leaves the code as it was. No conditions. -/
import Derived.Test.YtdkmghbbnkppcaaHead
import Derived.Test.YtdkmghbbnkppcaaNumI
import Derived.Test.YtdkmghbbnkppcaaDrawD
import Derived.Test.YtdkmghbbnkppcaaHas
import Derived.Test.YtdkmghbbnkppcaaGFun2
set_option linter.unusedVariables false
namespace Go.Proofs.Ytdkmghbbnkppcaa.lawDigitSum

set_option maxRecDepth 4000
open Go.ChangeShapes Go.WideShapes Go.ChangeAt Go.RowKit Go.Joins

theorem castL_mem {x : Nat} {L : List Nat} : ((x : Int) ∈ castL L) ↔ x ∈ L := by
  simp only [castL, List.mem_map]
  constructor
  · rintro ⟨y, hy, e⟩
    have : y = x := by omega
    subst this; exact hy
  · intro h; exact ⟨x, h, rfl⟩

/-- a number of the basis has the digit sum 1; the digit sum grows by one at most -/
theorem sum_facts {n s k : Nat} (h : tokN n s = true) (hk : k < n) : (k ∈ basN n s → dsumF n s k = 1) ∧ dsumF n s ((k : Int) + 1) ≤ dsumF n s k + 1 ∧ 0 ≤ dsumF n s k ∧ dsumF n s k ≤ 480 ∧ -1 ≤ dsumF n s ((k : Int) + 1) ∧ dsumF n s ((k : Int) + 1) ≤ 481 := by
  have hs := bas_scale h
  obtain ⟨_, hm8, _⟩ := bas_facts h
  obtain ⟨_, b2, _⟩ := tokN_bd h
  have hb : sumD (digD (basAt n s) (bmN n s) k) (bmN n s) ≤ 480 := by
    have := sumD_le (M := fun _ => 0) (d := digD (basAt n s) (bmN n s) k) (m := bmN n s) (fun i _ => dig_le (by omega)) (bmN n s) (Nat.le_refl _)
    omega
  have hnext : dsumF n s ((k : Int) + 1) ≤ dsumF n s k + 1 ∧ -1 ≤ dsumF n s ((k : Int) + 1) := by
    by_cases c : k + 1 < n
    · have e : (k : Int) + 1 = ((k + 1 : Nat) : Int) := by omega
      rw [e, dsumF_yes h c, dsumF_yes h hk]
      have := sum_step hs (a := k) (by rw [bas_end h]; exact c)
      omega
    · rw [dsumF_no (n := n) (s := s) (k := (k : Int) + 1) (fun q => by omega), dsumF_yes h hk]
      omega
  refine ⟨fun hx => ?_, hnext.1, by rw [dsumF_yes h hk]; omega, by rw [dsumF_yes h hk]; omega, hnext.2, by have := hnext.1; rw [dsumF_yes h hk] at this; omega⟩
  obtain ⟨i, hi, e⟩ := List.mem_iff_getElem.1 hx
  have e2 : basAt n s i = k := by
    rw [basAt_get hi, List.getD_eq_getElem?_getD, List.getElem?_eq_getElem hi]
    exact e
  rw [dsumF_yes h hk, ← e2, unit_sum hs hi]; rfl

set_option maxHeartbeats 4000000 in
theorem walk (a : Option Addr) (len cap : Nat) (z : List Int) (w : World) (row : IsRow .u8 w a len cap z) :
    Calls Try.prog 9 #[.slice a len cap] w fun e w' => e = .returned (.bool true) ∧ Below w.heap.size w w' := by
  
  have hc := CodeIn.of row
  clear row
  by_cases hl : 1048576 < len
  · have hl' : (1048576 : Int) < len := by omega
    go_enter Try.func9, Try.ntmps9
    go_wp2
    go_ret
    exact ⟨rfl, (by repeat (first | exact Below.refl _ _ | assumption | (refine Below.trans ?_ (Below.mono (by assumption) (by first | omega | (simp <;> omega)))) | (refine Below.alloc ?_ (by first | omega | (simp <;> omega)) _) | (refine below_drewN ?_ _) | (refine Below.drew ?_) | (refine Below.setCell ?_ (by first | omega | (simp <;> omega)) _)))⟩
  · have hl' : ¬ (1048576 : Int) < len := by omega
    go_enter Try.func9, Try.ntmps9
    go_wp2_with fail
    refine (drawDigitSum_any a len cap _ hc (by omega)).mono ?_; rintro e w1 ⟨n, s, k, rfl, n0, n1, s0, s1, k0, k1, hb1⟩
    have hz1 := hb1.size
    try simp at hz1
    go_wp2_with fail
    refine (digitSum_any _ _ _ _).mono ?_; rintro e w2 ⟨rfl, hb2⟩
    have hz2 := hb2.size
    try simp at hz2
    have t2 : Two w2 (w1.heap.size) (.int .i64 n) (.int .i64 s) 24 := Two.below (by repeat (first | assumption | exact Two.new' _ _ _ _ _ (by simp) | refine Two.alloc ?_ _ | refine Two.drewN ?_ _)) hb2 (by first | omega | (simp <;> omega))
    have hlt2 : (w1.heap.size) < w2.heap.size := t2.lt
    have hnt2 : ¬ (w1.heap.size) = w2.heap.size := Nat.ne_of_lt hlt2
    have t2c := t2.cell0
    have t2d := t2.cell1
    go_wp2_with fail
    refine (specDigitSum_any _ _ _ _).mono ?_; rintro e w3 ⟨rfl, hb3⟩
    have hz3 := hb3.size
    try simp at hz3
    have t3 : Two w3 (w1.heap.size) (.int .i64 n) (.int .i64 s) 24 := Two.below (by repeat (first | assumption | exact Two.new' _ _ _ _ _ (by simp) | refine Two.alloc ?_ _ | refine Two.drewN ?_ _)) hb3 (by first | omega | (simp <;> omega))
    have hlt3 : (w1.heap.size) < w3.heap.size := t3.lt
    have hnt3 : ¬ (w1.heap.size) = w3.heap.size := Nat.ne_of_lt hlt3
    have t3c := t3.cell0
    have t3d := t3.cell1
    have hB3 : Below w.heap.size w w3 := (by repeat (first | exact Below.refl _ _ | assumption | (refine Below.trans ?_ (Below.mono (by assumption) (by first | omega | (simp <;> omega)))) | (refine Below.alloc ?_ (by first | omega | (simp <;> omega)) _) | (refine below_drewN ?_ _) | (refine Below.drew ?_) | (refine Below.setCell ?_ (by first | omega | (simp <;> omega)) _)))
    clear hb1 hb2 hb3 t2 t2c t2d hc
    by_cases h : tok n s = true ∧ 0 ≤ k ∧ k < n
    · obtain ⟨ht, h0, h1⟩ := h
      obtain ⟨N, S, rfl, rfl, hN⟩ := tokN_of ht
      obtain ⟨k, rfl⟩ := Int.eq_ofNat_of_zero_le h0
      
      obtain ⟨f1, f2, f3, f4, f5, f6⟩ := sum_facts hN (show k < N by omega)
      obtain ⟨hm1, hm8, _⟩ := bas_facts hN
      obtain ⟨_, b2, _⟩ := tokN_bd hN
      have hdg := fun w => digitsOf_any (N : Int) S k w
      rw [digF_yes hN (by omega)] at hdg
      have hbs := fun w => basisOf_any (N : Int) S w
      rw [basisF_yes hN] at hbs
      have hds := fun w => digitSum_any (N : Int) S ((k : Int) + 1) w
      have hsumE : dsumF N S k = ((sumD (digD (basAt N S) (bmN N S) k) (bmN N S) : Nat) : Int) := dsumF_yes hN (by omega)
      have hbl : (castL (basN N S)).length ≤ 1000000 := by rw [castL_len]; show bmN N S ≤ _; omega
      have HG : Hid (∀ i, i < bmN N S → (castL (digN N S k)).getD i 0 = ((digD (basAt N S) (bmN N S) k i : Nat) : Int)) := fun i hi => by rw [castL_getD, digN_get hi]
      have HLn : Hid ((castL (digN N S k)).length = bmN N S) := by show _ = _; rw [castL_len, digN_len]
      have hdl : ∀ i, digD (basAt N S) (bmN N S) k i ≤ 60 := fun i => dig_le (by omega)
      have HMem : Hid (((k : Int) ∈ castL (basN N S)) → dsumF N S k = 1) := fun q => f1 (castL_mem.1 q)
      have HDg := Lib.hid hdg
      have HBs := Lib.hid hbs
      have HDs := Lib.hid hds
      have HDL := Lib.hid hdl
      have HBL := Lib.hid hbl
      have HSE := Lib.hid hsumE
      obtain ⟨S0, hS0⟩ : ∃ x, dsumF N S k = x := ⟨_, rfl⟩
      obtain ⟨S1, hS1⟩ : ∃ x, dsumF N S ((k : Int) + 1) = x := ⟨_, rfl⟩
      rw [hS0] at f2 f3 f4 HMem HSE
      rw [hS1] at f2 f5 f6 HDs
      rw [hS0]
      have f3' : ¬ S0 < 0 := by omega
      generalize digD (basAt N S) (bmN N S) k = d at *
      generalize digN N S k = DN at *
      generalize bmN N S = m at *
      have hsl := Lib.hid (fun j (hj : j ≤ m) => sumD_le (M := d) (d := d) (m := m) (fun i _ => HDL.out i) j hj)
      clear f1 hdg hbs hds hsumE hdl hbl ht hN hS0 hS1
      go_wp2_with fail
      refine (HDg.out _).mono ?_; rintro e w4 ⟨v4, rfl, ho4, hb4⟩
      have t4 := t3.below hb4 t3.lt
      have hB4 := hB3.trans (hb4.mono hB3.size)
      obtain ⟨g, cap4, cur, rfl, hbg, hr, _, hnc, _, hcc⟩ := ho4.rowI (N := m) HLn.out (by omega)
      have HC : Hid (∀ i, i < m → w4.cell? ⟨g, i, none⟩ = some (.int .i64 ((d i : Nat) : Int))) := fun i hi => by rw [hr.cell, hcc i hi, HG.out i hi]
      clear ho4 hr hcc hb4 t3 t3c t3d hB3
      go_wp2_with fail
      go_loop [7, 8] (fun x y => ∃ j : Nat, x = .int .i64 ((sumD d j : Nat) : Int) ∧ y = .int .i64 j ∧ j ≤ m) (fun _ y => m - (intOf y).toNat)
      case atStart => exact ⟨0, rfl, rfl, by omega⟩
      case round =>
        obtain ⟨j, rfl, rfl, hj⟩ := hrel
        have hsj := hsl.out j hj
        by_cases hjm : j < m
        · have hjm' : (j : Int) < m := by omega
          have cj := HC.out j hjm
          have hdj := HDL.out j
          have hs1 := Lib.hid (show sumD d (j + 1) = sumD d j + d j from rfl)
          generalize sumD d j = A0 at *
          generalize d j = X at *
          go_wp2_with fail
          go_round
          case rel => exact ⟨j + 1, by rw [hs1.out]; go_num, by go_num, by omega⟩
          case measure => simp only [intOf]; omega
        · have hjm' : decide ((j : Int) < m) = false := by simp; omega
          obtain rfl : j = m := by omega
          rw [← HSE.out]
          have t4c := t4.cell0
          have t4d := t4.cell1
          have hwk : IntKind.i64.wrap ((k : Int) + 1) = (k : Int) + 1 := IntWalk.i64_in _ (by omega)
          have hw0 : IntKind.i64.wrap (S0 + 1) = S0 + 1 := IntWalk.i64_in _ (by omega)
          clear HC HSE hsl HDL HG hsj
          go_wp2_with fail
          refine (HDs.out _).mono ?_; rintro e w5 ⟨rfl, hb5⟩
          have t5 := t4.below hb5 t4.lt
          have hB5 := hB4.trans (hb5.mono hB4.size)
          have t5c := t5.cell0
          have t5d := t5.cell1
          clear t4 t4c t4d hb5 hB4
          go_wp2_with fail
          refine (HBs.out _).mono ?_; rintro e w6 ⟨v6, rfl, ho6, hb6⟩
          have hB6 := hB5.trans (hb6.mono hB5.size)
          clear hb6 t5 t5c t5d hB5
          go_wp2_with fail
          refine (hasInt_any v6 _ (k : Int) _ ho6.reads HBL.out).mono ?_; rintro e w7 ⟨rfl, rfl⟩
          by_cases hin : (k : Int) ∈ castL (basN N S)
          · rw [decide_eq_true hin]
            have hone := HMem.out hin
            subst hone
            clear ho6
            go_wp2
            go_ret
            exact ⟨ret_bool (by first | (simp; done) | (simp; omega)), hB6⟩
          · rw [decide_eq_false hin]
            clear ho6
            go_wp2
            go_ret
            exact ⟨ret_bool (by first | (simp; done) | (simp; omega)), hB6⟩
    · rw [dsumF_no h]
      go_wp2_with fail
      refine (alive_any _).mono ?_; rintro e w6 ⟨rfl, hb6⟩
      have hB6 := hB3.trans (hb6.mono hB3.size)
      go_wp2
      go_ret
      exact ⟨rfl, hB6⟩

set_option maxRecDepth 100000 in
theorem lifted (os : Os) (started : os.Started) (H : Type) (enc : TypeId × Value → H) :
    ReturnsInHanded {} Try.checked os 9 .any (Rows.fnDigitSumSpec.pre6 enc Try.prog Try.f9 Rows.fnDigitSumRow.domain false) (Rows.fnDigitSumSpec.post enc Try.prog Try.f9 false true false false) := by
  refine returnsInHanded_of_change (C := Try.checked) own started (by kernel_rfl) Try.func9
    (ChangeSpec.witness6 (enc := enc) (C := Try.checked) false ⟨#[], #[.slice none 0 0], []⟩ 8 (by kernel_rfl) (by kernel_rfl) (by kernel_rfl) (by kernel_rfl)) ?_
  intro W base args ds gs before hval0 hW hcnd _
  have hval : ∀ (j : Nat) t v, Try.f9.params[j]? = some t → args[j]? = some v → Value.okWide Try.prog W .any base t v := hval0
  have hW' := hW
  obtain ⟨p, q, hA0, hV, rfl, hfz, hnd⟩ := hW
  have hA : DataW.TrodAll enc Try.prog W 0 (fun _ => true) true Try.f9.params.toList args.toList ds p := hA0
  rw [Try.params9] at hA hval
  obtain ⟨v0, vs0, d0, ds0, p0, q0, hargs, rfl, rfl, h0, r0⟩ := trodAll_cons hA
  obtain ⟨rfl, rfl, rfl⟩ := trodAll_nil r0
  obtain rfl : args = #[v0] := by cases args; simp_all
  obtain ⟨rfl, rfl⟩ := trodVars_none hV
  obtain ⟨acode, lencode, capcode, rfl⟩ := okWide_slice Try.underlying22 (hval 0 22 v0 rfl rfl)
  have k0 := h0
  have lt0 : ∀ x ∈ p0, x.block < W.heap.size := by obtain ⟨m, hm⟩ := k0; exact DataW.trod_lt m _ _ _ hm
  obtain ⟨zcode, rowcode⟩ : ∃ zs, IsRow .u8 W acode lencode capcode zs := by
    obtain ⟨fuel, hf⟩ := h0
    rcases open_ints Try.underlying22 Try.underlying5 (by kernel_rfl) hf with ⟨hcs, _⟩ | ⟨x, l, c, zs, hcs, _, hl, hm, hz, _, hcell, hwz⟩
    · simp [Value.cells] at hcs
      obtain ⟨rfl, rfl, rfl⟩ := hcs
      exact ⟨[], .inl ⟨rfl, rfl, rfl, rfl⟩⟩
    · simp [Value.cells] at hcs
      obtain ⟨rfl, rfl, rfl⟩ := hcs
      exact ⟨zs, .inr ⟨_, rfl, hl, hm, by simpa using hz, hcell, hwz⟩⟩
  clear hA0 hval0
  refine (walk acode lencode capcode zcode W rowcode).mono fun e W' ⟨he, bel⟩ => ?_
  subst he
  exact ⟨_, rfl, _, _, _, [], _, [], hW', trodAll_mk1 (shut_bool Try.underlying4 _), (trodAll_cons_mk (Below.trod laidOut (by kernel_rfl) (of_decide_eq_true (by kernel_rfl)) k0 bel lt0) trodAll_mk0), rfl, bel.frame _, fun h => by cases h⟩

theorem facts : joinedFacts Try.pinned.checked.prog 9 Try.f9 Rows.fnDigitSumSpec Rows.fnDigitSumRow = true := by
  simp only [joinedFacts, Bool.and_eq_true]
  repeat' apply And.intro
  all_goals first | rw [mayEnter_eq] | (rw [liftsFinal_eq]; kernel_rfl) | (rw [make_eq]; kernel_rfl) | kernel_rfl

theorem over : Rows.fnDigitSumRow.holds Try.pinned (OpenSpec.ofChange Rows.fnDigitSumSpec) :=
  OpenClaim.holds_of_wide 9 Try.f9 rfl rfl rfl rfl rfl rfl rfl ⟨rfl, rfl, rfl, rfl, rfl⟩ rfl rfl rfl rfl rfl (by kernel_rfl) Try.func9 facts
    (of_decide_eq_true (by kernel_rfl)) (by unfold Func.isWrapper; first | (rw [if_pos (by decide +kernel)]; kernel_rfl) | (rw [if_neg (by decide +kernel)]; exact ⟨rfl, rfl⟩))
    (fun os started H enc _ => lifted os started H enc)

theorem proved : Rows.FnDigitSumSaid := over
#print axioms proved
end Go.Proofs.Ytdkmghbbnkppcaa.lawDigitSum
