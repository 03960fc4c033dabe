/- Proves that FnScaleGrows returns true for every code, and leaves the code as it was. No conditions. -/
import Derived.Test.YtcfhjkaemhhndaaHead
import Derived.Test.YtcfhjkaemhhndaaSclL
import Derived.Test.YtcfhjkaemhhndaaSclI
import Derived.Test.YtcfhjkaemhhndaaDrawSc
import Derived.Test.YtcfhjkaemhhndaaGFun2
import Derived.Test.YtcfhjkaemhhndaaGSort
import Derived.Test.YtcfhjkaemhhndaaFarI
import Derived.Deep.RegionHeld3
set_option linter.unusedVariables false
set_option linter.unusedSimpArgs false
namespace Go.Proofs.Ytcfhjkaemhhndaa.lawScaleGrows

set_option maxRecDepth 4000
open Go.ChangeShapes Go.WideShapes Go.ChangeAt Go.RowKit Go.Joins

set_option maxHeartbeats 8000000 in
theorem walk (a : Option Addr) (len cap : Nat) (z : List Int) (w : World) (row : IsRow .u8 w a len cap z) :
    Calls Try.prog 6 #[.slice a len cap] w fun e w' => e = .returned (.bool true) ∧ Below w.heap.size w w' := by
  
  have hc := CodeIn.of row
  clear row
  by_cases hl : 1048576 < len
  · have hl' : (1048576 : Int) < len := by omega
    go_enter Try.func6, Try.ntmps6
    go_wp2
    go_ret
    exact ⟨rfl, (by repeat (first | exact Below.refl _ _ | assumption | (refine Below.trans ?_ (Below.mono (by assumption) (by first | omega | (simp <;> omega)))) | (refine Below.alloc ?_ (by first | omega | (simp <;> omega)) _) | (refine below_drewN ?_ _) | (refine Below.drew ?_) | (refine Below.setCell ?_ (by first | omega | (simp <;> omega)) _)))⟩
  · have hl' : ¬ (1048576 : Int) < len := by omega
    go_enter Try.func6, Try.ntmps6
    go_wp2_with fail
    refine (drawScaleSizes_any a len cap _ hc (by omega)).mono ?_; rintro e w1 ⟨n, s, rfl, n0, n1, s0, s1, hb1⟩
    have hz1 := hb1.size
    try simp at hz1
    go_wp2_with fail
    refine (scaleSizes_any _ _ _).mono ?_; rintro e w2 ⟨v1, rfl, hp2, hb2⟩
    have hz2 := hb2.size
    try simp at hz2
    have t2 : Two w2 (w1.heap.size) (.int .i64 n) (.int .i64 s) 24 := Two.below (by repeat (first | assumption | exact Two.new' _ _ _ _ _ (by simp) | refine Two.alloc ?_ _ | refine Two.drewN ?_ _)) hb2 (by first | omega | (simp <;> omega))
    have hlt2 : (w1.heap.size) < w2.heap.size := t2.lt
    have hnt2 : ¬ (w1.heap.size) = w2.heap.size := Nat.ne_of_lt hlt2
    have t2c := t2.cell0
    have t2d := t2.cell1
    have hB2 : Below w.heap.size w w2 := (by repeat (first | exact Below.refl _ _ | assumption | (refine Below.trans ?_ (Below.mono (by assumption) (by first | omega | (simp <;> omega)))) | (refine Below.alloc ?_ (by first | omega | (simp <;> omega)) _) | (refine below_drewN ?_ _) | (refine Below.drew ?_) | (refine Below.setCell ?_ (by first | omega | (simp <;> omega)) _)))
    have hlen := (scalesF_bd n s).1
    clear hb1 hb2
    by_cases ht : tok n s = true
    · obtain ⟨N, S, rfl, rfl, hN⟩ := tokN_of ht
      obtain ⟨b1, b2, b3, b4, _⟩ := tokN_bd hN
      have HG := Lib.hid (fun k hk => scale_grows hN (k := k) hk)
      have hK := Lib.hid (fun (k : Nat) w => kindsOf_any (N : Int) (S : Int) (k : Int) w)
      obtain ⟨L, hL⟩ : ∃ L, scalesF (N : Int) S = L := ⟨_, rfl⟩
      rw [hL] at HG hp2 hlen
      obtain ⟨M, hM⟩ : ∃ M, L.length = M := ⟨_, rfl⟩
      rw [hM] at HG hlen
      have hM0 : M ≠ 0 := by
        have := (scales_ends hN).2.1
        rw [hL, hM] at this
        omega
      obtain ⟨a1, cap1, rfl, HC0⟩ := hp2.reads.cells hM
      obtain ⟨gL, oL, rfl, HC⟩ := HC0 hM0
      have HT := Lib.hid ht
      have hB2' := Below.refl w2.heap.size w2
      obtain ⟨n, hn⟩ : ∃ n : Int, (N : Int) = n := ⟨_, rfl⟩
      obtain ⟨s, hs⟩ : ∃ s : Int, (S : Int) = s := ⟨_, rfl⟩
      have HG : Hid (∀ k, k + 1 < M → ∃ m m' : Nat, ∃ x y : Int, L.getD k 0 = m ∧ L.getD (k + 1) 0 = m' ∧ 2 ≤ m ∧ m < m' ∧ (m' : Int) ≤ n ∧ kindsL (gapsT n s m) = [x, y] ∧ 1 ≤ x ∧ x < y ∧ y ≤ n ∧ leastF n s m' = min x (y - x) ∧ (((gapsT n s m).count y : Nat) : Int) = (m' : Int) - m) := fun k hk => by
        obtain ⟨m, m', x, y, e1, e2, e3, e4, e5, e6⟩ := HG.out k hk
        rw [hn, hs] at e6
        exact ⟨m, m', x, y, e1, e2, e3, e4, by omega, e6⟩
      rw [hn, hs] at hK HT t2
      rw [hn] at t2c
      rw [hs] at t2d
      have n60 : n ≤ 60 := by omega
      clear hN ht hL HC0 hp2 hM b1 b2 b3 b4
      rw [hn, hs]
      clear hn hs
      go_wp2_with fail
      go_loopw [5] (fun x wr => ∃ (k : Nat), x = .int .i64 k ∧ k < M ∧ Below w2.heap.size w2 wr) (fun x _ => M - (intOf x).toNat)
      case atStart => exact ⟨0, rfl, by omega, hB2'⟩
      case round =>
        obtain ⟨k, rfl, hk, hBr⟩ := hrel
        clear hB2'
        have t3 := t2.below hBr t2.lt
        have t3c := t3.cell0
        have t3d := t3.cell1
        have wk : IntKind.i64.wrap ((k : Int) + 1) = (k : Int) + 1 := IntWalk.i64_in _ (by omega)
        by_cases hkm : k + 1 < M
        · have hkm' : (k : Int) + 1 < M := by omega
          obtain ⟨m, m', x, y, e1, e2, m2, mm, mn, hkk, x1, xy, y1, hle, hct⟩ := HG.out k hkm
          have c1 := HC.out k (by omega)
          have c2 := HC.out (k + 1) (by omega)
          rw [e1] at c1
          rw [e2] at c2
          have cm3 : wr.cell? ⟨gL, oL + k, none⟩ = some (.int .i64 (m : Int)) := (hBr.cell (p := ⟨gL, oL + k, none⟩) (World.block_lt_of_cell? w2 _ c1)).trans c1
          have cn3 : wr.cell? ⟨gL, oL + (k + 1), none⟩ = some (.int .i64 (m' : Int)) := (hBr.cell (p := ⟨gL, oL + (k + 1), none⟩) (World.block_lt_of_cell? w2 _ c2)).trans c2
          have lg3 := World.block_lt_of_cell? wr _ cm3
          have lt3 := t3.lt
          have gfy := gapsF_yes HT.out (by omega : 1 ≤ m) (by omega)
          have hKm := Lib.hid (hK.out m)
          have ekk : kindsF n s m = [x, y] := by unfold kindsF; rw [gfy, hkk]
          rw [ekk] at hKm
          have hLe := Lib.hid (fun w => leastGap_any n s (m' : Int) w)
          rw [hle] at hLe
          have hGL := Lib.hid (fun w => gapsLong_any n s (m : Int) y w)
          unfold IntPost at hGL
          have elong : longF n s m y = (m' : Int) - m := by
            unfold longF
            rw [if_neg (fun e => by
              have := gapsT_length n s m
              rw [← gfy, e] at this
              simp at this
              omega), gfy, hct]
          rw [elong] at hGL
          have hBw := hB2.trans (hBr.mono hB2.size)
          have r1 : (k : Int) + 1 = ((k + 1 : Nat) : Int) := by omega
          have i1 : ((k : Int) + 1).toNat = k + 1 := by omega
          have i2 : (0 : Int) ≤ (k : Int) + 1 := by omega
          clear e1 e2 hkk hle hct c1 c2 gfy ekk elong t2 t2c t2d r1
          have q3 : Below wr.heap.size wr wr.drew := below_drewN (Below.refl _ _) 1
          go_wp2_with fail
          go_region_held3 (fun w' => w'.cell? ⟨w1.heap.size, 0, none⟩ = some (.int .i64 n) ∧ w'.cell? ⟨w1.heap.size, 1, none⟩ = some (.int .i64 s) ∧ w'.cell? ⟨gL, oL + k, none⟩ = some (.int .i64 (m : Int)))
            (first | go_keep | exact ⟨t9c, t9d, z0⟩)
            (first | (go_at_call 15; (with_reducible refine (hKm.out _).mono ?_); rintro e w9 ⟨v9, rfl, ho9, hb9⟩; have q9 : Below wr.heap.size wr w9 := hold_on (by assumption) hb9; have t9 := Two.below t3 q9 lt3; have t9c := t9.cell0; have t9d := t9.cell1; have z0 : w9.cell? ⟨gL, oL + k, none⟩ = some (.int .i64 (m : Int)) := (q9.cell (p := ⟨gL, oL + k, none⟩) lg3).trans cm3))
          obtain ⟨aK, capK, rfl, HK0⟩ := ho9.reads.cells (N := 2) rfl
          obtain ⟨gK, oK, rfl, HCK⟩ := HK0 (by omega)
          have ck0 : w9.cell? ⟨gK, oK, none⟩ = some (.int .i64 x) := HCK.out 0 (by omega)
          have ck1 : w9.cell? ⟨gK, oK + 1, none⟩ = some (.int .i64 y) := HCK.out 1 (by omega)
          have lgK := World.block_lt_of_cell? w9 _ ck0
          have cm : w9.cell? ⟨gL, oL + k, none⟩ = some (.int .i64 (m : Int)) := z0
          have cm' : w9.cell? ⟨gL, oL + (k + 1), none⟩ = some (.int .i64 (m' : Int)) := (q9.cell (p := ⟨gL, oL + (k + 1), none⟩) lg3).trans cn3
          have lgL := World.block_lt_of_cell? w9 _ cm
          have hBq := hBr.trans (q9.mono hBr.size)
          have hBw9 := hBw.trans (q9.mono hBw.size)
          clear ho9 HK0 HCK hKm hb9 t3 t3c t3d z0 cm3 cn3 lg3 lt3 hBr hBw q3 q9
          generalize w9 = w6 at *
          have t6 : Two w6 w1.heap.size (.int .i64 n) (.int .i64 s) 24 := t9
          have lt6 := t6.lt
          have q6 : Below w6.heap.size w6 w6.drew := below_drewN (Below.refl _ _) 1
          have wyx : IntKind.i64.wrap (y - x) = y - x := IntWalk.i64_in _ (by omega)
          have wmm : IntKind.i64.wrap ((m' : Int) - (m : Int)) = (m' : Int) - (m : Int) := IntWalk.i64_in _ (by omega)
          have mi1 : (if y - x < x then y - x else x) = min x (y - x) := by split <;> omega
          have mi2 : (if x < y - x then x else y - x) = min x (y - x) := by split <;> omega
          generalize hmi : min x (y - x) = mi at *
          have nd1 : (mi != mi) = false := by simp
          have nd2 : (((m' : Int) - (m : Int)) != ((m' : Int) - (m : Int))) = false := by simp
          go_wp2_with fail
          go_region_held3 (fun w' => w'.cell? ⟨w1.heap.size, 0, none⟩ = some (.int .i64 n) ∧ w'.cell? ⟨w1.heap.size, 1, none⟩ = some (.int .i64 s) ∧ w'.cell? ⟨gL, oL + k, none⟩ = some (.int .i64 (m : Int)) ∧ w'.cell? ⟨gL, oL + (k + 1), none⟩ = some (.int .i64 (m' : Int)) ∧ w'.cell? ⟨gK, oK, none⟩ = some (.int .i64 x) ∧ w'.cell? ⟨gK, oK + 1, none⟩ = some (.int .i64 y))
            (first | go_keep | exact ⟨t9c, t9d, z0, z1, z2, z3⟩)
            (first | (go_at_call 30; (with_reducible refine (hLe.out _).mono ?_); rintro e w9 ⟨rfl, hb9⟩; have q9 : Below w6.heap.size w6 w9 := hold_on (by assumption) hb9; have t9 := Two.below t6 q9 lt6; have t9c := t9.cell0; have t9d := t9.cell1; have z0 : w9.cell? ⟨gL, oL + k, none⟩ = some (.int .i64 ((m : Int))) := (q9.cell (p := ⟨gL, oL + k, none⟩) lgL).trans cm; have z1 : w9.cell? ⟨gL, oL + (k + 1), none⟩ = some (.int .i64 ((m' : Int))) := (q9.cell (p := ⟨gL, oL + (k + 1), none⟩) lgL).trans cm'; have z2 : w9.cell? ⟨gK, oK, none⟩ = some (.int .i64 (x)) := (q9.cell (p := ⟨gK, oK, none⟩) lgK).trans ck0; have z3 : w9.cell? ⟨gK, oK + 1, none⟩ = some (.int .i64 (y)) := (q9.cell (p := ⟨gK, oK + 1, none⟩) lgK).trans ck1) | (go_at_call 17; (with_reducible refine (hGL.out _).mono ?_); rintro e w9 ⟨rfl, hb9⟩; have q9 : Below w6.heap.size w6 w9 := hold_on (by assumption) hb9; have t9 := Two.below t6 q9 lt6; have t9c := t9.cell0; have t9d := t9.cell1; have z0 : w9.cell? ⟨gL, oL + k, none⟩ = some (.int .i64 ((m : Int))) := (q9.cell (p := ⟨gL, oL + k, none⟩) lgL).trans cm; have z1 : w9.cell? ⟨gL, oL + (k + 1), none⟩ = some (.int .i64 ((m' : Int))) := (q9.cell (p := ⟨gL, oL + (k + 1), none⟩) lgL).trans cm'; have z2 : w9.cell? ⟨gK, oK, none⟩ = some (.int .i64 (x)) := (q9.cell (p := ⟨gK, oK, none⟩) lgK).trans ck0; have z3 : w9.cell? ⟨gK, oK + 1, none⟩ = some (.int .i64 (y)) := (q9.cell (p := ⟨gK, oK + 1, none⟩) lgK).trans ck1))
          go_wp2_with fail
          go_roundw
          case rel => exact ⟨k + 1, by go_num, by omega, hBq.trans (q9.mono hBq.size)⟩
          case measure => simp only [intOf]; omega
          all_goals (refine ⟨⟨k + 1, by go_num, by omega, hBq.trans (q9.mono hBq.size)⟩, ?_⟩; simp only [intOf]; omega)
        · have hkm' : decide ((k : Int) + 1 < M) = false := decide_eq_false (by omega)
          have hBw := hB2.trans (hBr.mono hB2.size)
          go_wp2_with fail
          refine (alive_any _).mono ?_; rintro e w9 ⟨rfl, hb9⟩
          have hB9 := hBw.trans (hb9.mono hBw.size)
          go_wp2
          go_ret
          exact ⟨rfl, hB9⟩
    · rw [scalesF_no ht] at *
      obtain ⟨ga, cap1, rfl⟩ := nil_cells hp2.reads
      clear hp2
      go_wp2_with fail
      go_loopw [5] (fun x wr => x = .int .i64 0 ∧ wr = w2) (fun x _ => 0)
      case atStart => exact ⟨rfl, rfl⟩
      case round =>
        obtain ⟨rfl, rfl⟩ := hrel
        go_wp2_with fail
        refine (alive_any _).mono ?_; rintro e w9 ⟨rfl, hb9⟩
        have hB9 := hB2.trans (hb9.mono hB2.size)
        go_wp2
        go_ret
        exact ⟨rfl, hB9⟩

set_option maxRecDepth 100000 in
theorem lifted (os : Os) (started : os.Started) (H : Type) (enc : TypeId × Value → H) :
    ReturnsInHanded {} Try.checked os 6 .any (Rows.fnScaleGrowsSpec.pre6 enc Try.prog Try.f6 Rows.fnScaleGrowsRow.domain false) (Rows.fnScaleGrowsSpec.post enc Try.prog Try.f6 false true false false) := by
  refine returnsInHanded_of_change (C := Try.checked) own started (by kernel_rfl) Try.func6
    (ChangeSpec.witness6 (enc := enc) (C := Try.checked) false ⟨#[], #[.slice none 0 0], []⟩ 8 (by kernel_rfl) (by kernel_rfl) (by kernel_rfl) (by kernel_rfl)) ?_
  intro W base args ds gs before hval0 hW hcnd _
  have hval : ∀ (j : Nat) t v, Try.f6.params[j]? = some t → args[j]? = some v → Value.okWide Try.prog W .any base t v := hval0
  have hW' := hW
  obtain ⟨p, q, hA0, hV, rfl, hfz, hnd⟩ := hW
  have hA : DataW.TrodAll enc Try.prog W 0 (fun _ => true) true Try.f6.params.toList args.toList ds p := hA0
  rw [Try.params6] at hA hval
  obtain ⟨v0, vs0, d0, ds0, p0, q0, hargs, rfl, rfl, h0, r0⟩ := trodAll_cons hA
  obtain ⟨rfl, rfl, rfl⟩ := trodAll_nil r0
  obtain rfl : args = #[v0] := by cases args; simp_all
  obtain ⟨rfl, rfl⟩ := trodVars_none hV
  obtain ⟨acode, lencode, capcode, rfl⟩ := okWide_slice Try.underlying22 (hval 0 22 v0 rfl rfl)
  have k0 := h0
  have lt0 : ∀ x ∈ p0, x.block < W.heap.size := by obtain ⟨m, hm⟩ := k0; exact DataW.trod_lt m _ _ _ hm
  obtain ⟨zcode, rowcode⟩ : ∃ zs, IsRow .u8 W acode lencode capcode zs := by
    obtain ⟨fuel, hf⟩ := h0
    rcases open_ints Try.underlying22 Try.underlying5 (by kernel_rfl) hf with ⟨hcs, _⟩ | ⟨x, l, c, zs, hcs, _, hl, hm, hz, _, hcell, hwz⟩
    · simp [Value.cells] at hcs
      obtain ⟨rfl, rfl, rfl⟩ := hcs
      exact ⟨[], .inl ⟨rfl, rfl, rfl, rfl⟩⟩
    · simp [Value.cells] at hcs
      obtain ⟨rfl, rfl, rfl⟩ := hcs
      exact ⟨zs, .inr ⟨_, rfl, hl, hm, by simpa using hz, hcell, hwz⟩⟩
  clear hA0 hval0
  refine (walk acode lencode capcode zcode W rowcode).mono fun e W' ⟨he, bel⟩ => ?_
  subst he
  exact ⟨_, rfl, _, _, _, [], _, [], hW', trodAll_mk1 (shut_bool Try.underlying4 _), (trodAll_cons_mk (Below.trod laidOut (by kernel_rfl) (of_decide_eq_true (by kernel_rfl)) k0 bel lt0) trodAll_mk0), rfl, bel.frame _, fun h => by cases h⟩

theorem facts : joinedFacts Try.pinned.checked.prog 6 Try.f6 Rows.fnScaleGrowsSpec Rows.fnScaleGrowsRow = true := by
  simp only [joinedFacts, Bool.and_eq_true]
  repeat' apply And.intro
  all_goals first | rw [mayEnter_eq] | (rw [liftsFinal_eq]; kernel_rfl) | (rw [make_eq]; kernel_rfl) | kernel_rfl

theorem over : Rows.fnScaleGrowsRow.holds Try.pinned (OpenSpec.ofChange Rows.fnScaleGrowsSpec) :=
  OpenClaim.holds_of_wide 6 Try.f6 rfl rfl rfl rfl rfl rfl rfl ⟨rfl, rfl, rfl, rfl, rfl⟩ rfl rfl rfl rfl rfl (by kernel_rfl) Try.func6 facts
    (of_decide_eq_true (by kernel_rfl)) (by unfold Func.isWrapper; first | (rw [if_pos (by decide +kernel)]; kernel_rfl) | (rw [if_neg (by decide +kernel)]; exact ⟨rfl, rfl⟩))
    (fun os started H enc _ => lifted os started H enc)

theorem proved : Rows.FnScaleGrowsSaid := over
#print axioms proved
end Go.Proofs.Ytcfhjkaemhhndaa.lawScaleGrows
