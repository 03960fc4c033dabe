/- Proves that FnScaleSizes returns true for every code, and leaves the code as it was. No conditions. -/
import Derived.Test.YtcfhjkaemhhndaaHead
import Derived.Test.YtcfhjkaemhhndaaSclL
import Derived.Test.YtcfhjkaemhhndaaSclI
import Derived.Test.YtcfhjkaemhhndaaDrawSc
import Derived.Test.YtcfhjkaemhhndaaGFun2
import Derived.Test.YtcfhjkaemhhndaaGSort
import Derived.Test.YtcfhjkaemhhndaaFarI
import Derived.Deep.RegionHeld3
import Derived.Test.YtcfhjkaemhhndaaGRule
import Derived.Test.YtcfhjkaemhhndaaMarks
set_option linter.unusedVariables false
set_option linter.unusedSimpArgs false
namespace Go.Proofs.Ytcfhjkaemhhndaa.lawScaleSizes

set_option maxRecDepth 4000
open Go.ChangeShapes Go.WideShapes Go.ChangeAt Go.RowKit Go.Joins

/-- both nearest times of a row are its scale -/
theorem row_scale {N S : Nat} (h : tokN N S = true) {k : Nat} (hk : k < (rowsN N S).length) : (scalesF N S).getD k 0 = (((rowsN N S).getD k row0).p : Int) + (((rowsN N S).getD k row0).q : Int) ∧ (((rowsN N S).getD k row0).p : Int) + (((rowsN N S).getD k row0).q : Int) ≤ 61 := by
  have e : (rowsN N S)[k]? = some ((rowsN N S).getD k row0) := by rw [List.getD_eq_getElem?_getD, List.getElem?_eq_getElem hk]; rfl
  have a := scales_at h e
  have b := scales_len h
  have c := (scalesF_bd N S).2 k (by omega)
  omega

set_option maxHeartbeats 8000000 in
theorem walk (a : Option Addr) (len cap : Nat) (z : List Int) (w : World) (row : IsRow .u8 w a len cap z) :
    Calls Try.prog 4 #[.slice a len cap] w fun e w' => e = .returned (.bool true) ∧ Below w.heap.size w w' := by
  
  have hc := CodeIn.of row
  clear row
  by_cases hl : 1048576 < len
  · have hl' : (1048576 : Int) < len := by omega
    go_enter Try.func4, Try.ntmps4
    go_wp2
    go_ret
    exact ⟨rfl, (by repeat (first | exact Below.refl _ _ | assumption | (refine Below.trans ?_ (Below.mono (by assumption) (by first | omega | (simp <;> omega)))) | (refine Below.alloc ?_ (by first | omega | (simp <;> omega)) _) | (refine below_drewN ?_ _) | (refine Below.drew ?_) | (refine Below.setCell ?_ (by first | omega | (simp <;> omega)) _)))⟩
  · have hl' : ¬ (1048576 : Int) < len := by omega
    go_enter Try.func4, Try.ntmps4
    go_wp2_with fail
    refine (drawScaleSizes_any a len cap _ hc (by omega)).mono ?_; rintro e w1 ⟨n, s, rfl, n0, n1, s0, s1, hb1⟩
    have hz1 := hb1.size
    try simp at hz1
    go_wp2_with fail
    refine (scaleSizes_any _ _ _).mono ?_; rintro e w2 ⟨v1, rfl, hp2, hb2⟩
    have hz2 := hb2.size
    try simp at hz2
    have t2 : Two w2 (w1.heap.size) (.int .i64 n) (.int .i64 s) 24 := Two.below (by repeat (first | assumption | exact Two.new' _ _ _ _ _ (by simp) | refine Two.alloc ?_ _ | refine Two.drewN ?_ _)) hb2 (by first | omega | (simp <;> omega))
    have hlt2 : (w1.heap.size) < w2.heap.size := t2.lt
    have hnt2 : ¬ (w1.heap.size) = w2.heap.size := Nat.ne_of_lt hlt2
    have t2c := t2.cell0
    have t2d := t2.cell1
    go_wp2_with fail
    refine (specScaleSizes_any _ _ _).mono ?_; rintro e w3 ⟨v2, rfl, hq3, hb3⟩
    have hz3 := hb3.size
    try simp at hz3
    have t3 : Two w3 (w1.heap.size) (.int .i64 n) (.int .i64 s) 24 := Two.below (by repeat (first | assumption | exact Two.new' _ _ _ _ _ (by simp) | refine Two.alloc ?_ _ | refine Two.drewN ?_ _)) hb3 (by first | omega | (simp <;> omega))
    have hlt3 : (w1.heap.size) < w3.heap.size := t3.lt
    have hnt3 : ¬ (w1.heap.size) = w3.heap.size := Nat.ne_of_lt hlt3
    have t3c := t3.cell0
    have t3d := t3.cell1
    have hp3 := hp2.below hb3
    have hB3 : Below w.heap.size w w3 := (by repeat (first | exact Below.refl _ _ | assumption | (refine Below.trans ?_ (Below.mono (by assumption) (by first | omega | (simp <;> omega)))) | (refine Below.alloc ?_ (by first | omega | (simp <;> omega)) _) | (refine below_drewN ?_ _) | (refine Below.drew ?_) | (refine Below.setCell ?_ (by first | omega | (simp <;> omega)) _)))
    have hlen := (scalesF_bd n s).1
    clear hp2 hb1 hb2 hb3
    go_wp2_with fail
    refine (sameInts_any v1 v2 _ _ _ hp3.reads hq3.reads (by omega) (by omega)).mono ?_; rintro e w4 ⟨rfl, nq, rfl⟩
    rw [decide_eq_true rfl]
    have hB4 := below_drewN hB3 nq
    have hp4 : OwnL (w3.drewN nq) _ v1 (scalesF n s) := hp3
    have t4 : Two (w3.drewN nq) w1.heap.size (.int .i64 n) (.int .i64 s) 24 := t3
    clear hq3 hp3 hB3 t3 t3c t3d
    generalize w3.drewN nq = w4 at *
    have t4c := t4.cell0
    have t4d := t4.cell1
    by_cases ht : tok n s = true
    · obtain ⟨N, S, rfl, rfl, hN⟩ := tokN_of ht
      
      obtain ⟨b1, b2, b3, b4, _⟩ := tokN_bd hN
      have hR := Lib.hid (fun w => nearRule_any (N : Int) (S : Int) w)
      rw [ruleF_yes hN] at hR
      have hRe : rowsI N S = (rowsN N S).map rowI := rfl
      rw [hRe] at hR
      obtain ⟨e1, e2, e3⟩ := scales_ends hN
      have HA := Lib.hid (scUp_facts (N : Int) S ((N : Int).toNat + 1)).1
      have HA : Hid ((scalesF (N : Int) S).Pairwise (· < ·)) := HA
      have HRS := Lib.hid (fun k hk => row_scale hN (k := k) hk)
      have hsl := scales_len hN
      generalize scalesF (N : Int) S = L at *
      generalize rowsN N S = Rs at *
      obtain ⟨M, hM⟩ : ∃ M, Rs.length = M := ⟨_, rfl⟩
      rw [hM] at hsl HRS
      rw [hsl] at hlen e2 e3
      obtain ⟨a1, cap1, rfl, HC0⟩ := hp4.reads.cells hsl
      have hreads := hp4.reads
      obtain ⟨g, off, rfl, HC⟩ := HC0 (by omega)
      have hm0 : ((M : Int) == 0) = false := by simp; omega
      have HLl := Lib.hid (show L.length ≤ 1000000 by omega)
      have HM := Lib.hid hM
      clear ht hN hRe hp4 HC0 hsl hM
      go_wp2_with fail
      refine (hR.out _).mono ?_; rintro e w5 ⟨v5, rfl, ho5, hb5⟩
      have t5 := t4.below hb5 t4.lt
      have t5c := t5.cell0
      have t5d := t5.cell1
      have hB5 := hB4.trans (hb5.mono hB4.size)
      have hr5 : Reads w5 _ L := hreads.below hb5
      have HC5 : Hid (∀ j, j < M → w5.cell? ⟨g, off + j, none⟩ = some (.int .i64 (L.getD j 0))) := fun j hj => (hb5.cell (p := ⟨g, off + j, none⟩) (World.block_lt_of_cell? w4 _ (HC.out j hj))).trans (HC.out j hj)
      obtain ⟨a2, cap2, rfl, HA0⟩ := ho5.four HM.out
      obtain ⟨g2, rfl, g2l, HRw⟩ := HA0 (by omega)
      clear t4 t4c t4d hb5 hB4 hR ho5 HA0 HC hreads
      have hmm : ((M : Int) != M) = false := by simp
      go_wp2_with fail
      go_loopw [6] (fun x wr => ∃ (k q : Nat), x = .int .i64 k ∧ k ≤ M ∧ wr = w5.drewN q) (fun x _ => M - (intOf x).toNat)
      case atStart => exact ⟨0, 0, rfl, by omega, rfl⟩
      case round =>
        obtain ⟨k, q, rfl, hk, rfl⟩ := hrel
        by_cases hkm : k < M
        · have hkm' : (k : Int) < M := by omega
          obtain ⟨x, c, e0, x2, ex0, ex1, ex2, ex3⟩ := HRw.out k hkm
          obtain ⟨hrs, hrs2⟩ := HRS.out k hkm
          have ck : w5.cell? ⟨g, off + k, none⟩ = some (.int .i64 (L.getD k 0)) := HC5.out k hkm
          generalize Rs.getD k row0 = R at *
          rw [hrs] at ck
          have hwr : IntKind.i64.wrap ((R.p : Int) + (R.q : Int)) = (R.p : Int) + (R.q : Int) := IntWalk.i64_in _ (by omega)
          clear ex1 ex3 hrs
          generalize (R.p : Int) = rp at *
          generalize (R.q : Int) = rq at *
          have hne : ((rp + rq) != (rp + rq)) = false := by simp
          go_wp2_with fail
          go_quiet (fail)
          go_wp2_with fail
          go_roundw
          case rel => exact ⟨k + 1, q + nq, by go_num, by omega, by simp⟩
          case measure => simp only [intOf]; omega
        · obtain rfl : k = M := by omega
          have hkm' : decide ((k : Int) < k) = false := by simp
          have hB6 := below_drewN hB5 q
          have c0 : w5.cell? ⟨g, off, none⟩ = some (.int .i64 (L.getD 0 0)) := HC5.out 0 (by omega)
          rw [e1] at c0
          have cl : w5.cell? ⟨g, off + (k - 1), none⟩ = some (.int .i64 (L.getD (k - 1) 0)) := HC5.out (k - 1) (by omega)
          rw [e3] at cl
          have i1 : IntKind.i64.wrap ((k : Int) - 1) = (k : Int) - 1 := IntWalk.i64_in _ (by omega)
          have i2 : (0 : Int) ≤ (k : Int) - 1 := by omega
          have i3 : (k : Int) - 1 < k := by omega
          have i4 : ((k : Int) - 1).toNat = k - 1 := by omega
          have hasc := fun (r : Nat) => (ascend_any _ _ (w5.drewN (q + r)) (show Reads (w5.drewN (q + r)) _ L from hr5) HLl.out HA.out).mono (R' := fun e w' => e = .returned (.bool true) ∧ ∃ n, w' = w5.drewN (q + n)) (fun e w' h => ⟨h.1, by obtain ⟨n, hn⟩ := h.2; exact ⟨r + n, by rw [hn]; simp [Nat.add_assoc]⟩⟩)
          clear t5 hr5 HC5 HRw hkm hk hB5
          go_wp2_with fail
          go_quiet ((go_at_call 26; with_reducible exact hasc _))
          go_wp2
          go_ret
          exact ⟨rfl, by first | assumption | exact below_drewN hB6 _⟩
    · have ht' : tok n s = false := by simpa using ht
      rw [scalesF_no ht] at *
      obtain ⟨ga, cap1, rfl⟩ := nil_cells hp4.reads
      clear hp4
      go_wp2_with fail
      refine (turnOk_any _ _ _).mono ?_; rintro e w5 ⟨rfl, hb5⟩
      rw [ht']
      have hB5 := hB4.trans (hb5.mono hB4.size)
      go_wp2_with fail
      refine (alive_any _).mono ?_; rintro e w9 ⟨rfl, hb9⟩
      have hB9 := hB5.trans (hb9.mono hB5.size)
      go_wp2
      go_ret
      exact ⟨rfl, hB9⟩

set_option maxRecDepth 100000 in
theorem lifted (os : Os) (started : os.Started) (H : Type) (enc : TypeId × Value → H) :
    ReturnsInHanded {} Try.checked os 4 .any (Rows.fnScaleSizesSpec.pre6 enc Try.prog Try.f4 Rows.fnScaleSizesRow.domain false) (Rows.fnScaleSizesSpec.post enc Try.prog Try.f4 false true false false) := by
  refine returnsInHanded_of_change (C := Try.checked) own started (by kernel_rfl) Try.func4
    (ChangeSpec.witness6 (enc := enc) (C := Try.checked) false ⟨#[], #[.slice none 0 0], []⟩ 8 (by kernel_rfl) (by kernel_rfl) (by kernel_rfl) (by kernel_rfl)) ?_
  intro W base args ds gs before hval0 hW hcnd _
  have hval : ∀ (j : Nat) t v, Try.f4.params[j]? = some t → args[j]? = some v → Value.okWide Try.prog W .any base t v := hval0
  have hW' := hW
  obtain ⟨p, q, hA0, hV, rfl, hfz, hnd⟩ := hW
  have hA : DataW.TrodAll enc Try.prog W 0 (fun _ => true) true Try.f4.params.toList args.toList ds p := hA0
  rw [Try.params4] at hA hval
  obtain ⟨v0, vs0, d0, ds0, p0, q0, hargs, rfl, rfl, h0, r0⟩ := trodAll_cons hA
  obtain ⟨rfl, rfl, rfl⟩ := trodAll_nil r0
  obtain rfl : args = #[v0] := by cases args; simp_all
  obtain ⟨rfl, rfl⟩ := trodVars_none hV
  obtain ⟨acode, lencode, capcode, rfl⟩ := okWide_slice Try.underlying22 (hval 0 22 v0 rfl rfl)
  have k0 := h0
  have lt0 : ∀ x ∈ p0, x.block < W.heap.size := by obtain ⟨m, hm⟩ := k0; exact DataW.trod_lt m _ _ _ hm
  obtain ⟨zcode, rowcode⟩ : ∃ zs, IsRow .u8 W acode lencode capcode zs := by
    obtain ⟨fuel, hf⟩ := h0
    rcases open_ints Try.underlying22 Try.underlying5 (by kernel_rfl) hf with ⟨hcs, _⟩ | ⟨x, l, c, zs, hcs, _, hl, hm, hz, _, hcell, hwz⟩
    · simp [Value.cells] at hcs
      obtain ⟨rfl, rfl, rfl⟩ := hcs
      exact ⟨[], .inl ⟨rfl, rfl, rfl, rfl⟩⟩
    · simp [Value.cells] at hcs
      obtain ⟨rfl, rfl, rfl⟩ := hcs
      exact ⟨zs, .inr ⟨_, rfl, hl, hm, by simpa using hz, hcell, hwz⟩⟩
  clear hA0 hval0
  refine (walk acode lencode capcode zcode W rowcode).mono fun e W' ⟨he, bel⟩ => ?_
  subst he
  exact ⟨_, rfl, _, _, _, [], _, [], hW', trodAll_mk1 (shut_bool Try.underlying4 _), (trodAll_cons_mk (Below.trod laidOut (by kernel_rfl) (of_decide_eq_true (by kernel_rfl)) k0 bel lt0) trodAll_mk0), rfl, bel.frame _, fun h => by cases h⟩

theorem facts : joinedFacts Try.pinned.checked.prog 4 Try.f4 Rows.fnScaleSizesSpec Rows.fnScaleSizesRow = true := by
  simp only [joinedFacts, Bool.and_eq_true]
  repeat' apply And.intro
  all_goals first | rw [mayEnter_eq] | (rw [liftsFinal_eq]; kernel_rfl) | (rw [make_eq]; kernel_rfl) | kernel_rfl

theorem over : Rows.fnScaleSizesRow.holds Try.pinned (OpenSpec.ofChange Rows.fnScaleSizesSpec) :=
  OpenClaim.holds_of_wide 4 Try.f4 rfl rfl rfl rfl rfl rfl rfl ⟨rfl, rfl, rfl, rfl, rfl⟩ rfl rfl rfl rfl rfl (by kernel_rfl) Try.func4 facts
    (of_decide_eq_true (by kernel_rfl)) (by unfold Func.isWrapper; first | (rw [if_pos (by decide +kernel)]; kernel_rfl) | (rw [if_neg (by decide +kernel)]; exact ⟨rfl, rfl⟩))
    (fun os started H enc _ => lifted os started H enc)

theorem proved : Rows.FnScaleSizesSaid := over
#print axioms proved
end Go.Proofs.Ytcfhjkaemhhndaa.lawScaleSizes
