/- Proves that FnExactNextDigits returns true for every turn and list of numbers, and leaves them as they were. No conditions. -/
import Derived.Test.YtdkmghbbnkppcaaHead
import Derived.Test.YtdkmghbbnkppcaaNumI
import Derived.Test.YtdkmghbbnkppcaaToI
import Derived.Test.YtdkmghbbnkppcaaGFun2
set_option linter.unusedVariables false
namespace Go.Proofs.Ytdkmghbbnkppcaa.exNextDigits

set_option maxRecDepth 4000
open Go.ChangeShapes Go.WideShapes Go.ChangeAt Go.RowKit Go.Joins

theorem kept2 {w w' : World} {b lo hi : Nat} {v u : Value} {xs : List Int} (h : OwnL w b v xs) (hg : w.grownBy w' u.ownBlock) (hu : ∀ q, u.ownBlock = some q → lo ≤ q ∧ q < hi) (hv : ∀ q, v.ownBlock = some q → q < lo ∨ hi ≤ q) : OwnL w' b v xs :=
  World.ownsRow.kept h hg (by
    cases h0 : v.ownBlock with
    | none => exact .inl rfl
    | some q =>
      right
      intro e
      have a1 := hu q e.symm
      have a2 := hv q h0
      omega)

set_option maxHeartbeats 4000000 in
theorem walk (n s : Int) (a : Option Addr) (len cap : Nat) (z : List Int) (w : World) (row : IsRow .i64 w a len cap z) :
    Calls Try.prog 16 #[(.agg #[.int .i64 (n), .int .i64 (s)]), .slice a len cap] w fun e w' => e = .returned (.bool true) ∧ Below w.heap.size w w' := by
  obtain ⟨hr, hlen⟩ := Reads.of_row row
  clear row
  generalize z.take len = xs at *
  have t0 : Two (w.alloc (.cells #[.int .i64 n, .int .i64 s] 45)) w.heap.size (.int .i64 n) (.int .i64 s) 45 := Two.new _ _ _ _
  have hB0 : Below w.heap.size w (w.alloc (.cells #[.int .i64 n, .int .i64 s] 45)) := (by repeat (first | exact Below.refl _ _ | assumption | (refine Below.trans ?_ (Below.mono (by assumption) (by first | omega | (simp <;> omega)))) | (refine Below.alloc ?_ (by first | omega | (simp <;> omega)) _) | (refine below_drewN ?_ _) | (refine Below.drew ?_) | (refine Below.setCell ?_ (by first | omega | (simp <;> omega)) _)))
  have c0 := t0.cell0
  have c1 := t0.cell1
  by_cases hl : 1048576 < len
  · have hl' : (1048576 : Int) < len := by omega
    clear t0
    go_enter Try.func16, Try.ntmps16
    go_wp2
    go_ret
    exact ⟨rfl, (by repeat (first | exact Below.refl _ _ | assumption | (refine Below.trans ?_ (Below.mono (by assumption) (by first | omega | (simp <;> omega)))) | (refine Below.alloc ?_ (by first | omega | (simp <;> omega)) _) | (refine below_drewN ?_ _) | (refine Below.drew ?_) | (refine Below.setCell ?_ (by first | omega | (simp <;> omega)) _)))⟩
  · have hl' : ¬ (1048576 : Int) < len := by omega
    have hx : xs.length ≤ 1048576 := by omega
    have hx2 : xs.length ≤ 2000000 := by omega
    have hL8 := nextF_len n s xs
    have HSp := Lib.hid (fun v w hv => specNextDigits_any n s v xs w hv hx2)
    have HIm := Lib.hid (fun v w hv => nextDigits_any n s v xs w hv hx2)
    unfold NextPost at HSp HIm
    have HTo := Lib.hid (fun W (hW : Below w.heap.size w W) => toIntS_any (.slice a len cap) xs W (hr.below hW) hx)
    generalize nextF n s xs = L at *
    generalize nextP n s xs = P at *
    have hnn : (P != P) = false := by simp
    have hqx : ¬ (1 + (xs.length : Int)) < 0 := by omega
    have hqL : ¬ (1 + (L.length : Int)) < 0 := by omega
    clear hlen hr
    go_enter Try.func16, Try.ntmps16
    go_wp2_with fail
    refine (toTurn_any _ _ _).mono ?_; rintro e w1 ⟨rfl, hb1⟩
    have t1 := t0.below hb1 t0.lt
    have hB1 := hB0.trans (hb1.mono hB0.size)
    clear t0 hb1 hB0 c0 c1
    go_wp2_with fail
    refine (HTo.out _ hB1).mono ?_; rintro e w2 ⟨v2, rfl, ho2, hb2⟩
    have t2 := t1.below hb2 t1.lt
    have hB2 := hB1.trans (hb2.mono hB1.size)
    clear t1 hb2 hB1
    go_wp2_with fail
    refine (HSp.out v2 _ ho2.reads).mono ?_; rintro e w3 ⟨v3, rfl, ho3, hb3⟩
    have t3 := t2.below hb3 t2.lt
    have hB3 := hB2.trans (hb3.mono hB2.size)
    have l3 := World.ownsRow.lt ho3
    have y3 : w.heap.size ≤ w3.heap.size := hB3.size
    have y2 : w.heap.size < w2.heap.size := t2.lt
    have y23 := hb3.size
    clear t2 hb3 hB2 ho2
    go_wp2_with fail
    refine (HTo.out _ hB3).mono ?_; rintro e w4 ⟨v4, rfl, ho4, hb4⟩
    have t4 := t3.below hb4 t3.lt
    have h34 := ho3.below hb4
    have hB4 := hB3.trans (hb4.mono hB3.size)
    have l4 := World.ownsRow.lt ho4
    have y34 := hb4.size
    have c0 := t4.cell0
    have c1 := t4.cell1
    clear t3 hb4 hB3 ho3
    go_wp2_with fail
    refine (toTurn_any _ _ _).mono ?_; rintro e w5 ⟨rfl, hb5⟩
    have t5 := t4.below hb5 t4.lt
    have h35 := h34.below hb5
    have h45 := ho4.below hb5
    have hB5 := hB4.trans (hb5.mono hB4.size)
    have z5 := hb5.size
    clear t4 hb5 hB4 ho4 h34 c0 c1
    go_wp2_with fail
    refine (HIm.out v4 _ h45.reads).mono ?_; rintro e w6 ⟨v6, rfl, ho6, hb6⟩
    have t6 := t5.below hb6 t5.lt
    have h36 := h35.below hb6
    have h46 := h45.below hb6
    have hB6 := hB5.trans (hb6.mono hB5.size)
    have l6 := World.ownsRow.lt ho6
    have y56 := hb6.size
    clear t5 hb6 hB5 h35 h45
    go_wp2_with fail
    refine (eqIntS_any v6 v3 L L _ ho6.reads h36.reads (by omega) (by omega)).mono ?_; rintro e w7 ⟨rfl, nq, rfl⟩
    rw [decide_eq_true (rfl : L = L)]
    have t7 : Two (w6.drewN nq) w.heap.size (.int .i64 n) (.int .i64 s) 45 := t6
    have h37 : OwnL (w6.drewN nq) _ v3 L := h36
    have h47 : OwnL (w6.drewN nq) _ v4 xs := h46
    have h67 : OwnL (w6.drewN nq) _ v6 L := ho6
    have hB7 := below_drewN hB6 nq
    have z7 : w6.heap.size ≤ (w6.drewN nq).heap.size := Nat.le_refl _
    clear t6 h36 h46 ho6 hB6
    generalize w6.drewN nq = w7 at *
    go_wp2_with fail
    refine (HTo.out _ hB7).mono ?_; rintro e w8 ⟨v8, rfl, ho8, hb8⟩
    have t8 := t7.below hb8 t7.lt
    have h38 := h37.below hb8
    have h48 := h47.below hb8
    have h68 := h67.below hb8
    have hB8 := hB7.trans (hb8.mono hB7.size)
    have z8 := hb8.size
    clear t7 h37 h47 h67 hB7 hb8
    have h9 := (eqIntS_big v4 v8 xs xs w8 h48.reads ho8.reads hx2 hx2).mono (R' := fun e w' => e = .returned (.bool true) ∧ ∃ n, w' = w8.drewN n) (fun e w' h => ⟨by rw [h.1, decide_eq_true rfl], h.2⟩)
    go_wp2_with fail
    refine h9.mono ?_; rintro e w9 ⟨rfl, nr, rfl⟩
    have t9 : Two (w8.drewN nr) w.heap.size (.int .i64 n) (.int .i64 s) 45 := t8
    have h39 : OwnL (w8.drewN nr) _ v3 L := h38
    have h49 : OwnL (w8.drewN nr) _ v4 xs := h48
    have h69 : OwnL (w8.drewN nr) _ v6 L := h68
    have hB9 := below_drewN hB8 nr
    have z9 : w8.heap.size ≤ (w8.drewN nr).heap.size := Nat.le_refl _
    have zt9 := t9.lt
    clear t8 h38 h48 h68 hB8 ho8 h9
    generalize w8.drewN nr = w9 at *
    go_wp2_with fail
    refine (markIntO_any v4 xs 1 _ w9 h49.toO hx2 (by omega) (by omega)).mono ?_; rintro e wA ⟨rfl, hpA, hgA, hsA⟩
    have h3A := kept2 h39 hgA l4 (fun q hq => by have := l3 q hq; omega)
    have h6A := kept2 h69 hgA l4 (fun q hq => by have := l6 q hq; omega)
    have tA : Two wA w.heap.size (.int .i64 n) (.int .i64 s) 45 := t9.same (hgA.block _ (by omega) (fun e => by have := l4 _ e.symm; omega))
    have hBA : Below w.heap.size w wA := hB9.grown hgA (by omega) (fun q hq => by have := l4 q hq; omega)
    clear t9 h39 h49 h69 hB9 hpA hgA
    go_wp2_with fail
    refine (eqIntS_any v6 v3 L L _ h6A.reads h3A.reads (by omega) (by omega)).mono ?_; rintro e wB ⟨rfl, ns, rfl⟩
    rw [decide_eq_true (rfl : L = L)]
    have tB : Two (wA.drewN ns) w.heap.size (.int .i64 n) (.int .i64 s) 45 := tA
    have h3B : OwnL (wA.drewN ns) _ v3 L := h3A
    have h6B : OwnL (wA.drewN ns) _ v6 L := h6A
    have hBB := below_drewN hBA ns
    have zB : wA.heap.size ≤ (wA.drewN ns).heap.size := Nat.le_refl _
    have ztB := tB.lt
    clear tA h3A h6A hBA
    generalize wA.drewN ns = wB at *
    go_wp2_with fail
    refine (markIntO_any v6 L 1 _ wB h6B.toO (by omega) (by omega) (by omega)).mono ?_; rintro e wC ⟨rfl, hpC, hgC, hsC⟩
    have h3C := kept2 h3B hgC l6 (fun q hq => by have := l3 q hq; omega)
    have tC : Two wC w.heap.size (.int .i64 n) (.int .i64 s) 45 := tB.same (hgC.block _ (by omega) (fun e => by have := l6 _ e.symm; omega))
    have hBC : Below w.heap.size w wC := hBB.grown hgC (by omega) (fun q hq => by have := l6 q hq; omega)
    have tCc := tC.cell0
    have tCd := tC.cell1
    clear tB h3B h6B hBB hgC
    go_wp2_with fail
    refine (heldIntO_any v6 1 L.length _ hpC.reads (by omega) (by omega) (by omega)).mono ?_; rintro e wD ⟨rfl, rfl⟩
    go_wp2_with fail
    refine (toTurn_any _ _ _).mono ?_; rintro e wE ⟨rfl, hbE⟩
    have h3E := h3C.below hbE
    have hpE := hpC.below hbE
    have hBE := hBC.trans (hbE.mono hBC.size)
    clear tC tCc tCd h3C hpC hBC hbE
    go_wp2_with fail
    refine (HTo.out _ hBE).mono ?_; rintro e wF ⟨vF, rfl, hoF, hbF⟩
    have h3F := h3E.below hbF
    have hpF := hpE.below hbF
    have hBF := hBE.trans (hbF.mono hBE.size)
    clear h3E hpE hBE hbF
    go_wp2_with fail
    refine (HIm.out vF _ hoF.reads).mono ?_; rintro e wG ⟨vG, rfl, hoG, hbG⟩
    have h3G := h3F.below hbG
    have hpG := hpF.below hbG
    have hBG := hBF.trans (hbG.mono hBF.size)
    clear h3F hpF hBF hbG hoF
    go_wp2_with fail
    refine (eqIntS_any vG v3 L L _ hoG.reads h3G.reads (by omega) (by omega)).mono ?_; rintro e wH ⟨rfl, nt, rfl⟩
    rw [decide_eq_true (rfl : L = L)]
    have hpH : OwnO (wG.drewN nt) _ v6 (marksL 1 L.length) := hpG
    have hBH := below_drewN hBG nt
    clear hoG h3G hpG hBG
    generalize wG.drewN nt = wH at *
    go_wp2_with fail
    refine (heldIntO_any v6 1 L.length _ hpH.reads (by omega) (by omega) (by omega)).mono ?_; rintro e wI ⟨rfl, rfl⟩
    go_wp2
    go_ret
    exact ⟨rfl, hBH⟩

set_option maxRecDepth 100000 in
theorem lifted (os : Os) (started : os.Started) (H : Type) (enc : TypeId × Value → H) :
    ReturnsInHanded {} Try.checked os 16 .any (Rows.fnExactNextDigitsSpec.pre6 enc Try.prog Try.f16 Rows.fnExactNextDigitsRow.domain false) (Rows.fnExactNextDigitsSpec.post enc Try.prog Try.f16 false true false false) := by
  refine returnsInHanded_of_change (C := Try.checked) own started (by kernel_rfl) Try.func16
    (ChangeSpec.witness6 (enc := enc) (C := Try.checked) false ⟨#[], #[.agg #[.int .i64 0, .int .i64 0], .slice none 0 0], []⟩ 8 (by kernel_rfl) (by kernel_rfl) (by kernel_rfl) (by kernel_rfl)) ?_
  intro W base args ds gs before hval0 hW hcnd _
  have hval : ∀ (j : Nat) t v, Try.f16.params[j]? = some t → args[j]? = some v → Value.okWide Try.prog W .any base t v := hval0
  have hW' := hW
  obtain ⟨p, q, hA0, hV, rfl, hfz, hnd⟩ := hW
  have hA : DataW.TrodAll enc Try.prog W 0 (fun _ => true) true Try.f16.params.toList args.toList ds p := hA0
  rw [Try.params16] at hA hval
  obtain ⟨v0, vs0, d0, ds0, p0, q0, hargs, rfl, rfl, h0, r0⟩ := trodAll_cons hA
  obtain ⟨v1, vs1, d1, ds1, p1, q1, rfl, rfl, rfl, h1, r1⟩ := trodAll_cons r0
  obtain ⟨rfl, rfl, rfl⟩ := trodAll_nil r1
  obtain rfl : args = #[v0, v1] := by cases args; simp_all
  obtain ⟨rfl, rfl⟩ := trodVars_none hV
  have lt0 : ∀ x ∈ p0, x.block < W.heap.size := by obtain ⟨m, hm⟩ := h0; exact DataW.trod_lt m _ _ _ hm
  obtain ⟨n, s, rfl, wfn, wfs⟩ : ∃ n s : Int, v0 = .agg #[.int .i64 n, .int .i64 s] ∧ (Lit.int .i64 n).wf = true ∧ (Lit.int .i64 s).wf = true := by
    obtain ⟨c0, c1, y0, y1, m, hv, _, _, hy0, hy1⟩ := open_agg2 Try.underlying45 (by kernel_rfl) (by kernel_rfl) (hval 0 45 v0 rfl rfl) h0
    obtain ⟨n, e0, _, wn⟩ := DataW.trod_int Try.underlying3 hy0
    obtain ⟨s, e1, _, ws⟩ := DataW.trod_int Try.underlying3 hy1
    simp at e0 e1
    subst e0 e1
    exact ⟨n, s, hv, wn, ws⟩
  obtain ⟨ad, lend, capd, rfl⟩ := okWide_slice Try.underlying26 (hval 1 26 v1 rfl rfl)
  have k1 := h1
  have lt1 : ∀ x ∈ p1, x.block < W.heap.size := by obtain ⟨m, hm⟩ := k1; exact DataW.trod_lt m _ _ _ hm
  obtain ⟨zd, rowd⟩ : ∃ zs, IsRow .i64 W ad lend capd zs := by
    obtain ⟨fuel, hf⟩ := h1
    rcases open_ints Try.underlying26 Try.underlying3 (by kernel_rfl) hf with ⟨hcs, _⟩ | ⟨x, l, c, zs, hcs, _, hl, hm, hz, _, hcell, hwz⟩
    · simp [Value.cells] at hcs
      obtain ⟨rfl, rfl, rfl⟩ := hcs
      exact ⟨[], .inl ⟨rfl, rfl, rfl, rfl⟩⟩
    · simp [Value.cells] at hcs
      obtain ⟨rfl, rfl, rfl⟩ := hcs
      exact ⟨zs, .inr ⟨_, rfl, hl, hm, by simpa using hz, hcell, hwz⟩⟩
  clear hA0 hval0
  refine (walk n s ad lend capd zd W rowd).mono fun e W' ⟨he, bel⟩ => ?_
  subst he
  exact ⟨_, rfl, _, _, _, [], _, [], hW', trodAll_mk1 (shut_bool Try.underlying4 _), (trodAll_cons_mk (Below.trod laidOut (by kernel_rfl) (of_decide_eq_true (by kernel_rfl)) h0 bel lt0) (trodAll_cons_mk (Below.trod laidOut (by kernel_rfl) (of_decide_eq_true (by kernel_rfl)) k1 bel lt1) trodAll_mk0)), rfl, bel.frame _, fun h => by cases h⟩

theorem facts : joinedFacts Try.pinned.checked.prog 16 Try.f16 Rows.fnExactNextDigitsSpec Rows.fnExactNextDigitsRow = true := by
  simp only [joinedFacts, Bool.and_eq_true]
  repeat' apply And.intro
  all_goals first | rw [mayEnter_eq] | (rw [liftsFinal_eq]; kernel_rfl) | (rw [make_eq]; kernel_rfl) | kernel_rfl

theorem over : Rows.fnExactNextDigitsRow.holds Try.pinned (OpenSpec.ofChange Rows.fnExactNextDigitsSpec) :=
  OpenClaim.holds_of_wide 16 Try.f16 rfl rfl rfl rfl rfl rfl rfl ⟨rfl, rfl, rfl, rfl, rfl⟩ rfl rfl rfl rfl rfl (by kernel_rfl) Try.func16 facts
    (of_decide_eq_true (by kernel_rfl)) (by unfold Func.isWrapper; first | (rw [if_pos (by decide +kernel)]; kernel_rfl) | (rw [if_neg (by decide +kernel)]; exact ⟨rfl, rfl⟩))
    (fun os started H enc _ => lifted os started H enc)

theorem proved : Rows.FnExactNextDigitsSaid := over
#print axioms proved
end Go.Proofs.Ytdkmghbbnkppcaa.exNextDigits
