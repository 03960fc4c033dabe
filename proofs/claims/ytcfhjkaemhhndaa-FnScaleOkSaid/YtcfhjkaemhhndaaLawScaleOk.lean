/- Proves that FnScaleOk returns true for every code, and leaves the code as it was. No conditions. -/
import Derived.Test.YtcfhjkaemhhndaaHead
import Derived.Test.YtcfhjkaemhhndaaSclL
import Derived.Test.YtcfhjkaemhhndaaSclI
import Derived.Test.YtcfhjkaemhhndaaDrawSc
import Derived.Test.YtcfhjkaemhhndaaGFun2
import Derived.Test.YtcfhjkaemhhndaaGSort
import Derived.Test.YtcfhjkaemhhndaaFarI
import Derived.Deep.RegionHeld3
set_option linter.unusedVariables false
set_option linter.unusedSimpArgs false
namespace Go.Proofs.Ytcfhjkaemhhndaa.lawScaleOk

set_option maxRecDepth 4000
open Go.ChangeShapes Go.WideShapes Go.ChangeAt Go.RowKit Go.Joins

set_option maxHeartbeats 8000000 in
theorem walk (a : Option Addr) (len cap : Nat) (z : List Int) (w : World) (row : IsRow .u8 w a len cap z) :
    Calls Try.prog 3 #[.slice a len cap] w fun e w' => e = .returned (.bool true) ∧ Below w.heap.size w w' := by
  
  have hc := CodeIn.of row
  clear row
  by_cases hl : 1048576 < len
  · have hl' : (1048576 : Int) < len := by omega
    go_enter Try.func3, Try.ntmps3
    go_wp2
    go_ret
    exact ⟨rfl, (by repeat (first | exact Below.refl _ _ | assumption | (refine Below.trans ?_ (Below.mono (by assumption) (by first | omega | (simp <;> omega)))) | (refine Below.alloc ?_ (by first | omega | (simp <;> omega)) _) | (refine below_drewN ?_ _) | (refine Below.drew ?_) | (refine Below.setCell ?_ (by first | omega | (simp <;> omega)) _)))⟩
  · have hl' : ¬ (1048576 : Int) < len := by omega
    go_enter Try.func3, Try.ntmps3
    go_wp2_with fail
    refine (drawScaleOk_any a len cap _ hc (by omega)).mono ?_; rintro e w1 ⟨n, s, m, rfl, n0, n1, k0, k1, hb1⟩
    have hz1 := hb1.size
    try simp at hz1
    go_wp2_with fail
    refine (scaleOk_any _ _ _ _).mono ?_; rintro e w2 ⟨rfl, hb2⟩
    have hz2 := hb2.size
    try simp at hz2
    have t2 : Two w2 (w1.heap.size) (.int .i64 n) (.int .i64 s) 24 := Two.below (by repeat (first | assumption | exact Two.new' _ _ _ _ _ (by simp) | refine Two.alloc ?_ _ | refine Two.drewN ?_ _)) hb2 (by first | omega | (simp <;> omega))
    have hlt2 : (w1.heap.size) < w2.heap.size := t2.lt
    have hnt2 : ¬ (w1.heap.size) = w2.heap.size := Nat.ne_of_lt hlt2
    have t2c := t2.cell0
    have t2d := t2.cell1
    go_wp2_with fail
    refine (specScaleOk_any _ _ _ _).mono ?_; rintro e w3 ⟨rfl, hb3⟩
    have hz3 := hb3.size
    try simp at hz3
    have t3 : Two w3 (w1.heap.size) (.int .i64 n) (.int .i64 s) 24 := Two.below (by repeat (first | assumption | exact Two.new' _ _ _ _ _ (by simp) | refine Two.alloc ?_ _ | refine Two.drewN ?_ _)) hb3 (by first | omega | (simp <;> omega))
    have hlt3 : (w1.heap.size) < w3.heap.size := t3.lt
    have hnt3 : ¬ (w1.heap.size) = w3.heap.size := Nat.ne_of_lt hlt3
    have t3c := t3.cell0
    have t3d := t3.cell1
    have hB3 : Below w.heap.size w w3 := (by repeat (first | exact Below.refl _ _ | assumption | (refine Below.trans ?_ (Below.mono (by assumption) (by first | omega | (simp <;> omega)))) | (refine Below.alloc ?_ (by first | omega | (simp <;> omega)) _) | (refine below_drewN ?_ _) | (refine Below.drew ?_) | (refine Below.setCell ?_ (by first | omega | (simp <;> omega)) _)))
    cases h : scaleF n s m with
    | true =>
      obtain ⟨M, p, q, A, B, rfl, ht, h2, hm, eA, eB, he, p1, q1, hg, hk, hl2, a1, a2, b1, b2⟩ := scale_law h
      have hb := tok_bd ht
      have hK := Lib.hid (fun w => kindsOf_any n s (M : Int) w)
      have hG := Lib.hid (fun w => gapsBy_any n s (M : Int) w)
      rw [hg] at hG
      have hNA := Lib.hid (fun w => nearAbove_any n s (M : Int) w)
      have hNB := Lib.hid (fun w => nearBelow_any n s (M : Int) w)
      unfold IntPost at hNA hNB
      rw [eA] at hNA
      rw [eB] at hNB
      generalize kindsF n s M = KL at *
      clear hg eA eB ht hb1 hb2 hb3
      have mm : ((true : Bool) != true) = false := rfl
      go_wp2_with fail
      refine (hK.out _).mono ?_; rintro e w4 ⟨v4, rfl, ho4, hb4⟩
      have t4 := t3.below hb4 t3.lt
      have t4c := t4.cell0
      have t4d := t4.cell1
      have hB4 := hB3.trans (hb4.mono hB3.size)
      clear t3 t3c t3d hb4 hB3
      go_wp2_with fail
      refine (hG.out _).mono ?_; rintro e w5 ⟨v5, rfl, ho5, hb5⟩
      have t5 := t4.below hb5 t4.lt
      have t5c := t5.cell0
      have t5d := t5.cell1
      have hB5 := hB4.trans (hb5.mono hB4.size)
      have ho45 := ho4.below hb5
      clear t4 t4c t4d hb5 hB4 hG ho4
      obtain ⟨KN, hKN⟩ : ∃ KN, KL.length = KN := ⟨_, rfl⟩
      obtain ⟨a4, cap4, rfl, _⟩ := ho45.reads.cells hKN
      obtain ⟨a5, cap5, rfl, hc5⟩ := ho5.reads.cells (N := 6) rfl
      obtain ⟨g5, o5, rfl, HC5⟩ := hc5 (by omega)
      have c0 : w5.cell? ⟨g5, o5, none⟩ = some (.int .i64 A) := HC5.out 0 (by omega)
      have c2 : w5.cell? ⟨g5, o5 + 2, none⟩ = some (.int .i64 B) := HC5.out 2 (by omega)
      have c5 : w5.cell? ⟨g5, o5 + 5, none⟩ = some (.int .i64 0) := HC5.out 5 (by omega)
      have lg5 := World.block_lt_of_cell? w5 _ c0
      have lt5 := t5.lt
      have q5 : Below w5.heap.size w5 w5.drew := below_drewN (Below.refl _ _) 1
      rw [hKN] at hk
      clear ho45 ho5 hc5 HC5
      by_cases hmn : (M : Int) = n
      · rw [if_pos hmn] at hk
        subst hk
        have d1 : decide ((M : Int) < n) = false := decide_eq_false (by omega)
        have d2 : ((M : Int) == n) = true := by simpa using hmn
        clear hmn hl2 hKN
        go_wp2_with fail
        go_quiet (fail)
        go_wp2
        go_ret
        exact ⟨ret_bool (by simp), below_drewN hB5 _⟩
      · rw [if_neg hmn] at hk
        subst hk
        obtain ⟨la, lb⟩ := hl2 hmn
        have hLA := Lib.hid (fun w => gapsLong_any n s (M : Int) A w)
        have hLB := Lib.hid (fun w => gapsLong_any n s (M : Int) B w)
        unfold IntPost at hLA hLB
        rw [la] at hLA
        rw [lb] at hLB
        have d1 : (M : Int) < n := by omega
        have d2 : ((M : Int) == n) = false := by simpa using hmn
        clear hmn la lb hKN hl2
        go_wp2_with fail
        go_region_held3 (fun w' => w'.cell? ⟨w1.heap.size, 0, none⟩ = some (.int .i64 n) ∧ w'.cell? ⟨w1.heap.size, 1, none⟩ = some (.int .i64 s) ∧ w'.cell? ⟨g5, o5, none⟩ = some (.int .i64 A) ∧ w'.cell? ⟨g5, o5 + 2, none⟩ = some (.int .i64 B) ∧ w'.cell? ⟨g5, o5 + 5, none⟩ = some (.int .i64 0))
          (first | go_keep | exact ⟨t9c, t9d, z0, z1, z2⟩)
          (first | (go_at_call 17; (with_reducible refine (hLA.out _).mono ?_); rintro e w9 ⟨rfl, hb9⟩; have q9 : Below w5.heap.size w5 w9 := hold_on (by assumption) hb9; have t9 := Two.below t5 q9 lt5; have t9c := t9.cell0; have t9d := t9.cell1; have z0 : w9.cell? ⟨g5, o5, none⟩ = some (.int .i64 (A)) := (q9.cell (p := ⟨g5, o5, none⟩) lg5).trans c0; have z1 : w9.cell? ⟨g5, o5 + 2, none⟩ = some (.int .i64 (B)) := (q9.cell (p := ⟨g5, o5 + 2, none⟩) lg5).trans c2; have z2 : w9.cell? ⟨g5, o5 + 5, none⟩ = some (.int .i64 (0)) := (q9.cell (p := ⟨g5, o5 + 5, none⟩) lg5).trans c5) | (go_at_call 17; (with_reducible refine (hLB.out _).mono ?_); rintro e w9 ⟨rfl, hb9⟩; have q9 : Below w5.heap.size w5 w9 := hold_on (by assumption) hb9; have t9 := Two.below t5 q9 lt5; have t9c := t9.cell0; have t9d := t9.cell1; have z0 : w9.cell? ⟨g5, o5, none⟩ = some (.int .i64 (A)) := (q9.cell (p := ⟨g5, o5, none⟩) lg5).trans c0; have z1 : w9.cell? ⟨g5, o5 + 2, none⟩ = some (.int .i64 (B)) := (q9.cell (p := ⟨g5, o5 + 2, none⟩) lg5).trans c2; have z2 : w9.cell? ⟨g5, o5 + 5, none⟩ = some (.int .i64 (0)) := (q9.cell (p := ⟨g5, o5 + 5, none⟩) lg5).trans c5) | (go_at_call 18; (with_reducible refine (hNB.out _).mono ?_); rintro e w9 ⟨rfl, hb9⟩; have q9 : Below w5.heap.size w5 w9 := hold_on (by assumption) hb9; have t9 := Two.below t5 q9 lt5; have t9c := t9.cell0; have t9d := t9.cell1; have z0 : w9.cell? ⟨g5, o5, none⟩ = some (.int .i64 (A)) := (q9.cell (p := ⟨g5, o5, none⟩) lg5).trans c0; have z1 : w9.cell? ⟨g5, o5 + 2, none⟩ = some (.int .i64 (B)) := (q9.cell (p := ⟨g5, o5 + 2, none⟩) lg5).trans c2; have z2 : w9.cell? ⟨g5, o5 + 5, none⟩ = some (.int .i64 (0)) := (q9.cell (p := ⟨g5, o5 + 5, none⟩) lg5).trans c5) | (go_at_call 19; (with_reducible refine (hNA.out _).mono ?_); rintro e w9 ⟨rfl, hb9⟩; have q9 : Below w5.heap.size w5 w9 := hold_on (by assumption) hb9; have t9 := Two.below t5 q9 lt5; have t9c := t9.cell0; have t9d := t9.cell1; have z0 : w9.cell? ⟨g5, o5, none⟩ = some (.int .i64 (A)) := (q9.cell (p := ⟨g5, o5, none⟩) lg5).trans c0; have z1 : w9.cell? ⟨g5, o5 + 2, none⟩ = some (.int .i64 (B)) := (q9.cell (p := ⟨g5, o5 + 2, none⟩) lg5).trans c2; have z2 : w9.cell? ⟨g5, o5 + 5, none⟩ = some (.int .i64 (0)) := (q9.cell (p := ⟨g5, o5 + 5, none⟩) lg5).trans c5))
        go_wp2
        go_ret
        first | exact ⟨rfl, hB5.trans (q9.mono hB5.size)⟩ | exact ⟨ret_bool (by simp), hB5.trans (q9.mono hB5.size)⟩
    | false =>
      have mm : ((false : Bool) != false) = false := rfl
      go_wp2_with fail
      refine (alive_any _).mono ?_; rintro e w9 ⟨rfl, hb9⟩
      have hB9 := hB3.trans (hb9.mono hB3.size)
      go_wp2
      go_ret
      exact ⟨rfl, hB9⟩

set_option maxRecDepth 100000 in
theorem lifted (os : Os) (started : os.Started) (H : Type) (enc : TypeId × Value → H) :
    ReturnsInHanded {} Try.checked os 3 .any (Rows.fnScaleOkSpec.pre6 enc Try.prog Try.f3 Rows.fnScaleOkRow.domain false) (Rows.fnScaleOkSpec.post enc Try.prog Try.f3 false true false false) := by
  refine returnsInHanded_of_change (C := Try.checked) own started (by kernel_rfl) Try.func3
    (ChangeSpec.witness6 (enc := enc) (C := Try.checked) false ⟨#[], #[.slice none 0 0], []⟩ 8 (by kernel_rfl) (by kernel_rfl) (by kernel_rfl) (by kernel_rfl)) ?_
  intro W base args ds gs before hval0 hW hcnd _
  have hval : ∀ (j : Nat) t v, Try.f3.params[j]? = some t → args[j]? = some v → Value.okWide Try.prog W .any base t v := hval0
  have hW' := hW
  obtain ⟨p, q, hA0, hV, rfl, hfz, hnd⟩ := hW
  have hA : DataW.TrodAll enc Try.prog W 0 (fun _ => true) true Try.f3.params.toList args.toList ds p := hA0
  rw [Try.params3] at hA hval
  obtain ⟨v0, vs0, d0, ds0, p0, q0, hargs, rfl, rfl, h0, r0⟩ := trodAll_cons hA
  obtain ⟨rfl, rfl, rfl⟩ := trodAll_nil r0
  obtain rfl : args = #[v0] := by cases args; simp_all
  obtain ⟨rfl, rfl⟩ := trodVars_none hV
  obtain ⟨acode, lencode, capcode, rfl⟩ := okWide_slice Try.underlying22 (hval 0 22 v0 rfl rfl)
  have k0 := h0
  have lt0 : ∀ x ∈ p0, x.block < W.heap.size := by obtain ⟨m, hm⟩ := k0; exact DataW.trod_lt m _ _ _ hm
  obtain ⟨zcode, rowcode⟩ : ∃ zs, IsRow .u8 W acode lencode capcode zs := by
    obtain ⟨fuel, hf⟩ := h0
    rcases open_ints Try.underlying22 Try.underlying5 (by kernel_rfl) hf with ⟨hcs, _⟩ | ⟨x, l, c, zs, hcs, _, hl, hm, hz, _, hcell, hwz⟩
    · simp [Value.cells] at hcs
      obtain ⟨rfl, rfl, rfl⟩ := hcs
      exact ⟨[], .inl ⟨rfl, rfl, rfl, rfl⟩⟩
    · simp [Value.cells] at hcs
      obtain ⟨rfl, rfl, rfl⟩ := hcs
      exact ⟨zs, .inr ⟨_, rfl, hl, hm, by simpa using hz, hcell, hwz⟩⟩
  clear hA0 hval0
  refine (walk acode lencode capcode zcode W rowcode).mono fun e W' ⟨he, bel⟩ => ?_
  subst he
  exact ⟨_, rfl, _, _, _, [], _, [], hW', trodAll_mk1 (shut_bool Try.underlying4 _), (trodAll_cons_mk (Below.trod laidOut (by kernel_rfl) (of_decide_eq_true (by kernel_rfl)) k0 bel lt0) trodAll_mk0), rfl, bel.frame _, fun h => by cases h⟩

theorem facts : joinedFacts Try.pinned.checked.prog 3 Try.f3 Rows.fnScaleOkSpec Rows.fnScaleOkRow = true := by
  simp only [joinedFacts, Bool.and_eq_true]
  repeat' apply And.intro
  all_goals first | rw [mayEnter_eq] | (rw [liftsFinal_eq]; kernel_rfl) | (rw [make_eq]; kernel_rfl) | kernel_rfl

theorem over : Rows.fnScaleOkRow.holds Try.pinned (OpenSpec.ofChange Rows.fnScaleOkSpec) :=
  OpenClaim.holds_of_wide 3 Try.f3 rfl rfl rfl rfl rfl rfl rfl ⟨rfl, rfl, rfl, rfl, rfl⟩ rfl rfl rfl rfl rfl (by kernel_rfl) Try.func3 facts
    (of_decide_eq_true (by kernel_rfl)) (by unfold Func.isWrapper; first | (rw [if_pos (by decide +kernel)]; kernel_rfl) | (rw [if_neg (by decide +kernel)]; exact ⟨rfl, rfl⟩))
    (fun os started H enc _ => lifted os started H enc)

theorem proved : Rows.FnScaleOkSaid := over
#print axioms proved
end Go.Proofs.Ytcfhjkaemhhndaa.lawScaleOk
