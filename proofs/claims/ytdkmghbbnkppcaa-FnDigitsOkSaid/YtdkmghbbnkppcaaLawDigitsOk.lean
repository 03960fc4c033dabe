/- Proves that FnDigitsOk returns true for every code, and leaves the code as it was. No conditions. -/
import Derived.Test.YtdkmghbbnkppcaaHead
import Derived.Test.YtdkmghbbnkppcaaNumI
import Derived.Test.YtdkmghbbnkppcaaDrawD
import Derived.Test.YtdkmghbbnkppcaaGFun2
set_option linter.unusedVariables false
namespace Go.Proofs.Ytdkmghbbnkppcaa.lawDigitsOk

set_option maxRecDepth 4000
open Go.ChangeShapes Go.WideShapes Go.ChangeAt Go.RowKit Go.Joins

theorem made_zero {w : World} {b m : Nat} {v : Value} (h : w.ownsRow b 3 1 v m (madeCells #[Value.int .i64 0] m).toList) : OwnL w b v (List.replicate m 0) := by
  have e : (madeCells #[Value.int .i64 0] m).toList = List.replicate m (Value.int .i64 0) := toList_madeCells_one _ _
  rw [e] at h
  unfold OwnL
  rw [List.length_replicate, List.map_replicate]
  exact h

theorem zero_digits {n s : Nat} (h : tokN n s = true) : okF n s (List.replicate (bmN n s) 0) = true ∧ numF n s (List.replicate (bmN n s) 0) = 0 := by
  obtain ⟨b2, _⟩ := tokN_bd h
  have e : castL (digN n s 0) = List.replicate (bmN n s) 0 := by
    have e1 : digN n s 0 = List.replicate (bmN n s) 0 := by
      apply List.ext_getElem (by rw [digN_len, List.length_replicate])
      intro i h1 h2
      rw [digN_len] at h1
      have a := digN_get (n := n) (s := s) (k := 0) h1
      rw [List.getD_eq_getElem?_getD, List.getElem?_eq_getElem (by rw [digN_len]; exact h1)] at a
      simp only [Option.getD_some] at a
      rw [a, List.getElem_replicate]
      have := remD_le (basAt n s) (bmN n s) 0 (bmN n s - 1 - i)
      unfold digD
      rw [Nat.le_zero.1 this, Nat.zero_div]
    rw [e1]
    simp [castL]
  have := dig_is h (show 0 < n by omega)
  rw [e] at this
  exact this

set_option maxHeartbeats 4000000 in
theorem walk (a : Option Addr) (len cap : Nat) (z : List Int) (w : World) (row : IsRow .u8 w a len cap z) :
    Calls Try.prog 6 #[.slice a len cap] w fun e w' => e = .returned (.bool true) ∧ Below w.heap.size w w' := by
  have hc := CodeIn.of row
  clear row
  by_cases hl : 1048576 < len
  · have hl' : (1048576 : Int) < len := by omega
    go_enter Try.func6, Try.ntmps6
    go_wp2
    go_ret
    exact ⟨rfl, (by repeat (first | exact Below.refl _ _ | assumption | (refine Below.trans ?_ (Below.mono (by assumption) (by first | omega | (simp <;> omega)))) | (refine Below.alloc ?_ (by first | omega | (simp <;> omega)) _) | (refine below_drewN ?_ _) | (refine Below.drew ?_) | (refine Below.setCell ?_ (by first | omega | (simp <;> omega)) _)))⟩
  · have hl' : ¬ (1048576 : Int) < len := by omega
    go_enter Try.func6, Try.ntmps6
    go_wp2_with fail
    refine (drawDigitsOk_any a len cap _ hc (by omega)).mono ?_; rintro e w1 ⟨n, s, v, D, rfl, ho1, hl10, hb1⟩
    have t1 : Two (w1.alloc (.cells #[.int .i64 n, .int .i64 s] 24)) w1.heap.size (.int .i64 n) (.int .i64 s) 24 := Two.new _ _ _ _
    have ho1' : OwnL (w1.alloc (.cells #[.int .i64 n, .int .i64 s] 24)) w.heap.size v D := World.ownsRow.alloc ho1 _
    have hB1 : Below w.heap.size w (w1.alloc (.cells #[.int .i64 n, .int .i64 s] 24)) := hb1.alloc hb1.size _
    have hD : D.length ≤ 2000000 := by omega
    clear hc ho1 hb1
    go_wp2_with fail
    refine (digitsOk_any n s v D _ ho1'.reads hD).mono ?_; rintro e w2 ⟨rfl, hb2⟩
    have t2 := t1.below hb2 t1.lt
    have ho2 := ho1'.below hb2
    have hB2 := hB1.trans (hb2.mono hB1.size)
    have c0 := t2.cell0
    have c1 := t2.cell1
    clear t1 ho1' hb2 hB1
    go_wp2_with fail
    refine (specDigitsOk_any n s v D _ ho2.reads hD).mono ?_; rintro e w3 ⟨rfl, hb3⟩
    have t3 := t2.below hb3 t2.lt
    have ho3 := ho2.below hb3
    have hB3 := hB2.trans (hb3.mono hB2.size)
    have hnn : (okF n s D != okF n s D) = false := by simp
    clear t2 ho2 hb3 hB2 c0 c1
    have c0 := t3.cell0
    have c1 := t3.cell1
    go_wp2_with fail
    refine (specTurnOk_any _ _ _).mono ?_; rintro e w4 ⟨rfl, hb4⟩
    have t4 := t3.below hb4 t3.lt
    have ho4 := ho3.below hb4
    have hB4 := hB3.trans (hb4.mono hB3.size)
    clear t3 ho3 hb4 hB3 c0 c1
    have c0 := t4.cell0
    have c1 := t4.cell1
    by_cases ht : tok n s = true
    · obtain ⟨N, S, rfl, rfl, hN⟩ := tokN_of ht
      rw [ht]
      obtain ⟨zo, zn⟩ := zero_digits hN
      obtain ⟨hm1, hm8, _⟩ := bas_facts hN
      have hbs := fun w => specBasisOf_any (N : Int) S w
      rw [basisF_yes hN] at hbs
      have HBs := Lib.hid hbs
      have hbl : (castL (basN N S)).length = bmN N S := by rw [castL_len]; rfl
      have HBL := Lib.hid hbl
      have hnc := num_cases (N : Int) S D
      have HZo := Lib.hid (fun v w hv => digitsOk_any (N : Int) S v (List.replicate (bmN N S) 0) w hv (by rw [List.length_replicate]; omega))
      have HZn := Lib.hid (fun v w hv => numberOf_any (N : Int) S v (List.replicate (bmN N S) 0) w hv (by rw [List.length_replicate]; omega))
      rw [zo] at HZo
      rw [zn] at HZn
      have HBack : Hid (okF N S D = true → digF N S (numF N S D) = D) := fun ho => by
        rw [numF_yes ho, digF_yes hN (num_lt hN ho)]
        exact dig_back hN ho
      obtain ⟨i0, hi, iz0, iz1, iz2⟩ := info_parts infoInt
      have Hi := Lib.hid hi
      generalize bmN N S = m at *
      generalize hK : numF N S D = K at *
      have HK := Lib.hid (fun w hv => numberOf_any (N : Int) S v D w hv hD)
      rw [hK] at HK
      clear zo zn hbs hbl hi ht hN hK
      go_wp2_with fail
      refine (HBs.out _).mono ?_; rintro e w5 ⟨v5, rfl, ho5, hb5⟩
      have t5 := t4.below hb5 t4.lt
      have hd5 := ho4.below hb5
      have hB5 := hB4.trans (hb5.mono hB4.size)
      obtain ⟨a5, cap5, rfl, _⟩ := ho5.reads.cells HBL.out
      have hz5 := hB5.size
      have lt5 := t5.lt
      clear ho5 hb5 t4 ho4 hB4 c0 c1
      go_wp2_with (at_make; refine wpList_make_full _ rfl _ _ 26 rfl w.heap.size 3 i0 (.int .i64 0) 1 Try.underlying26 Hi.out iz0 iz1 .i64 .i64 _ _ m rfl rfl rfl rfl (by rw [iz2]; omega) (by unfold maxLen; omega) (by omega) ?_)
      intro w6 hown hgrow
      have hZ6 := made_zero hown
      have hb6 : Below w5.heap.size w5 w6 := ⟨hgrow.os, hgrow.tape, hgrow.output, hgrow.size, fun k hk => hgrow.block k hk (by simp)⟩
      have t6 := t5.below hb6 lt5
      have hd6 := hd5.below hb6
      have hB6 := hB5.trans (hb6.mono hz5)
      generalize hG : w5.heap.size = G at *
      have c0 := t6.cell0
      have c1 := t6.cell1
      clear hown hgrow hb6 t5 hd5 hB5 hG
      go_wp2_with fail
      refine (HK.out _ hd6.reads).mono ?_; rintro e w7 ⟨rfl, hb7⟩
      have t7 := t6.below hb7 t6.lt
      have hd7 := hd6.below hb7
      have hZ7 := hZ6.below hb7
      have hB7 := hB6.trans (hb7.mono hB6.size)
      clear hb7 t6 hd6 hZ6 hB6 c0 c1
      have c0 := t7.cell0
      have c1 := t7.cell1
      rcases hnc with ⟨ho, hn⟩ | ⟨ho, h0, hlt, _⟩
      · rw [ho]
        clear HBack
        go_wp2_with fail
        refine (HZo.out _ _ hZ7.reads).mono ?_; rintro e w8 ⟨rfl, hb8⟩
        have t8 := t7.below hb8 t7.lt
        have hZ8 := hZ7.below hb8
        have hB8 := hB7.trans (hb8.mono hB7.size)
        clear hb8 t7 hd7 hZ7 hB7 c0 c1
        have c0 := t8.cell0
        have c1 := t8.cell1
        go_wp2_with fail
        refine (HZn.out _ _ hZ8.reads).mono ?_; rintro e w9 ⟨rfl, hb9⟩
        have hB9 := hB8.trans (hb9.mono hB8.size)
        go_wp2
        go_ret
        exact ⟨ret_bool (by simp), hB9⟩
      · rw [ho]
        have h0' : (0 : Int) ≤ K := h0
        have hlt' : K < (N : Int) := hlt
        have hback := HBack.out ho
        have hdg := fun w => digitsOf_any (N : Int) S K w
        rw [hback] at hdg
        have HDg := Lib.hid hdg
        clear hback hdg HBack
        go_wp2_with fail
        refine (HDg.out _).mono ?_; rintro e w8 ⟨v8, rfl, ho8, hb8⟩
        have t8 := t7.below hb8 t7.lt
        have hd8 := hd7.below hb8
        have hZ8 := hZ7.below hb8
        have hB8 := hB7.trans (hb8.mono hB7.size)
        clear hb8 t7 hd7 hZ7 hB7 c0 c1
        go_wp2_with fail
        refine (sameInts_any v8 v D D _ ho8.reads hd8.reads (by omega) (by omega)).mono ?_; rintro e w9 ⟨rfl, nq, rfl⟩
        rw [decide_eq_true rfl]
        have t9 : Two (w8.drewN nq) w1.heap.size (.int .i64 N) (.int .i64 S) 24 := t8
        have hZ9 : OwnL (w8.drewN nq) w.heap.size (.slice (some ⟨G, 0, none⟩) m m) (List.replicate m 0) := hZ8
        have hB9 := below_drewN hB8 nq
        clear ho8 t8 hd8 hZ8 hB8
        generalize w8.drewN nq = wa at *
        have c0 := t9.cell0
        have c1 := t9.cell1
        go_wp2_with fail
        refine (HZo.out _ _ hZ9.reads).mono ?_; rintro e wb ⟨rfl, hbb⟩
        have tb := t9.below hbb t9.lt
        have hZb := hZ9.below hbb
        have hBb := hB9.trans (hbb.mono hB9.size)
        clear hbb t9 hZ9 hB9 c0 c1
        have c0 := tb.cell0
        have c1 := tb.cell1
        go_wp2_with fail
        refine (HZn.out _ _ hZb.reads).mono ?_; rintro e wc ⟨rfl, hbc⟩
        have hBc := hBb.trans (hbc.mono hBb.size)
        go_wp2
        go_ret
        exact ⟨ret_bool (by simp), hBc⟩
    · have ht' : tok n s = false := by simpa using ht
      have ho : okF n s D = false := okF_no ht
      rw [ht', ho]
      clear hnn
      go_wp2_with fail
      refine (alive_any _).mono ?_; rintro e w6 ⟨rfl, hb6⟩
      have hB6 := hB4.trans (hb6.mono hB4.size)
      go_wp2
      go_ret
      exact ⟨rfl, hB6⟩

set_option maxRecDepth 100000 in
theorem lifted (os : Os) (started : os.Started) (H : Type) (enc : TypeId × Value → H) :
    ReturnsInHanded {} Try.checked os 6 .any (Rows.fnDigitsOkSpec.pre6 enc Try.prog Try.f6 Rows.fnDigitsOkRow.domain false) (Rows.fnDigitsOkSpec.post enc Try.prog Try.f6 false true false false) := by
  refine returnsInHanded_of_change (C := Try.checked) own started (by kernel_rfl) Try.func6
    (ChangeSpec.witness6 (enc := enc) (C := Try.checked) false ⟨#[], #[.slice none 0 0], []⟩ 8 (by kernel_rfl) (by kernel_rfl) (by kernel_rfl) (by kernel_rfl)) ?_
  intro W base args ds gs before hval0 hW hcnd _
  have hval : ∀ (j : Nat) t v, Try.f6.params[j]? = some t → args[j]? = some v → Value.okWide Try.prog W .any base t v := hval0
  have hW' := hW
  obtain ⟨p, q, hA0, hV, rfl, hfz, hnd⟩ := hW
  have hA : DataW.TrodAll enc Try.prog W 0 (fun _ => true) true Try.f6.params.toList args.toList ds p := hA0
  rw [Try.params6] at hA hval
  obtain ⟨v0, vs0, d0, ds0, p0, q0, hargs, rfl, rfl, h0, r0⟩ := trodAll_cons hA
  obtain ⟨rfl, rfl, rfl⟩ := trodAll_nil r0
  obtain rfl : args = #[v0] := by cases args; simp_all
  obtain ⟨rfl, rfl⟩ := trodVars_none hV
  obtain ⟨acode, lencode, capcode, rfl⟩ := okWide_slice Try.underlying22 (hval 0 22 v0 rfl rfl)
  have k0 := h0
  have lt0 : ∀ x ∈ p0, x.block < W.heap.size := by obtain ⟨m, hm⟩ := k0; exact DataW.trod_lt m _ _ _ hm
  obtain ⟨zcode, rowcode⟩ : ∃ zs, IsRow .u8 W acode lencode capcode zs := by
    obtain ⟨fuel, hf⟩ := h0
    rcases open_ints Try.underlying22 Try.underlying5 (by kernel_rfl) hf with ⟨hcs, _⟩ | ⟨x, l, c, zs, hcs, _, hl, hm, hz, _, hcell, hwz⟩
    · simp [Value.cells] at hcs
      obtain ⟨rfl, rfl, rfl⟩ := hcs
      exact ⟨[], .inl ⟨rfl, rfl, rfl, rfl⟩⟩
    · simp [Value.cells] at hcs
      obtain ⟨rfl, rfl, rfl⟩ := hcs
      exact ⟨zs, .inr ⟨_, rfl, hl, hm, by simpa using hz, hcell, hwz⟩⟩
  clear hA0 hval0
  refine (walk acode lencode capcode zcode W rowcode).mono fun e W' ⟨he, bel⟩ => ?_
  subst he
  exact ⟨_, rfl, _, _, _, [], _, [], hW', trodAll_mk1 (shut_bool Try.underlying4 _), (trodAll_cons_mk (Below.trod laidOut (by kernel_rfl) (of_decide_eq_true (by kernel_rfl)) k0 bel lt0) trodAll_mk0), rfl, bel.frame _, fun h => by cases h⟩

theorem facts : joinedFacts Try.pinned.checked.prog 6 Try.f6 Rows.fnDigitsOkSpec Rows.fnDigitsOkRow = true := by
  simp only [joinedFacts, Bool.and_eq_true]
  repeat' apply And.intro
  all_goals first | rw [mayEnter_eq] | (rw [liftsFinal_eq]; kernel_rfl) | (rw [make_eq]; kernel_rfl) | kernel_rfl

theorem over : Rows.fnDigitsOkRow.holds Try.pinned (OpenSpec.ofChange Rows.fnDigitsOkSpec) :=
  OpenClaim.holds_of_wide 6 Try.f6 rfl rfl rfl rfl rfl rfl rfl ⟨rfl, rfl, rfl, rfl, rfl⟩ rfl rfl rfl rfl rfl (by kernel_rfl) Try.func6 facts
    (of_decide_eq_true (by kernel_rfl)) (by unfold Func.isWrapper; first | (rw [if_pos (by decide +kernel)]; kernel_rfl) | (rw [if_neg (by decide +kernel)]; exact ⟨rfl, rfl⟩))
    (fun os started H enc _ => lifted os started H enc)

theorem proved : Rows.FnDigitsOkSaid := over
#print axioms proved
end Go.Proofs.Ytdkmghbbnkppcaa.lawDigitsOk
