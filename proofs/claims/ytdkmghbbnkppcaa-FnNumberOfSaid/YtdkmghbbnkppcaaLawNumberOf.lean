/- Proves that FnNumberOf returns true for every code, and leaves the code as it was. No conditions. -/
import Derived.Test.YtdkmghbbnkppcaaHead
import Derived.Test.YtdkmghbbnkppcaaNumI
import Derived.Test.YtdkmghbbnkppcaaDrawD
import Derived.Test.YtdkmghbbnkppcaaGFun2
import Derived.Deep.RegionHeld3
set_option linter.unusedVariables false
namespace Go.Proofs.Ytdkmghbbnkppcaa.lawNumberOf

set_option maxRecDepth 4000
open Go.ChangeShapes Go.WideShapes Go.ChangeAt Go.RowKit Go.Joins

theorem point_nat {n s k : Nat} (h : tokN n s = true) (hk : k < n) : pointF n s k = ((k * s % n : Nat) : Int) := by
  rw [pointF_yes (tok_of_tokN h) (by omega) (by omega)]; simp

set_option maxHeartbeats 4000000 in
theorem walk (a : Option Addr) (len cap : Nat) (z : List Int) (w : World) (row : IsRow .u8 w a len cap z) :
    Calls Try.prog 7 #[.slice a len cap] w fun e w' => e = .returned (.bool true) ∧ Below w.heap.size w w' := by
  have hc := CodeIn.of row
  clear row
  by_cases hl : 1048576 < len
  · have hl' : (1048576 : Int) < len := by omega
    go_enter Try.func7, Try.ntmps7
    go_wp2
    go_ret
    exact ⟨rfl, (by repeat (first | exact Below.refl _ _ | assumption | (refine Below.trans ?_ (Below.mono (by assumption) (by first | omega | (simp <;> omega)))) | (refine Below.alloc ?_ (by first | omega | (simp <;> omega)) _) | (refine below_drewN ?_ _) | (refine Below.drew ?_) | (refine Below.setCell ?_ (by first | omega | (simp <;> omega)) _)))⟩
  · have hl' : ¬ (1048576 : Int) < len := by omega
    go_enter Try.func7, Try.ntmps7
    go_wp2_with fail
    refine (drawNumberOf_any a len cap _ hc (by omega)).mono ?_; rintro e w1 ⟨n, s, v, D, rfl, ho1, hl10, hb1⟩
    have t1 : Two (w1.alloc (.cells #[.int .i64 n, .int .i64 s] 24)) w1.heap.size (.int .i64 n) (.int .i64 s) 24 := Two.new _ _ _ _
    have ho1' : OwnL (w1.alloc (.cells #[.int .i64 n, .int .i64 s] 24)) w.heap.size v D := World.ownsRow.alloc ho1 _
    have hB1 : Below w.heap.size w (w1.alloc (.cells #[.int .i64 n, .int .i64 s] 24)) := hb1.alloc hb1.size _
    have hD : D.length ≤ 2000000 := by omega
    clear hc ho1 hb1
    go_wp2_with fail
    refine (numberOf_any n s v D _ ho1'.reads hD).mono ?_; rintro e w2 ⟨rfl, hb2⟩
    have t2 := t1.below hb2 t1.lt
    have ho2 := ho1'.below hb2
    have hB2 := hB1.trans (hb2.mono hB1.size)
    have c0 := t2.cell0
    have c1 := t2.cell1
    clear t1 ho1' hb2 hB1
    go_wp2_with fail
    refine (specNumberOf_any n s v D _ ho2.reads hD).mono ?_; rintro e w3 ⟨rfl, hb3⟩
    have t3 := t2.below hb3 t2.lt
    have ho3 := ho2.below hb3
    have hB3 := hB2.trans (hb3.mono hB2.size)
    have hnn : (numF n s D != numF n s D) = false := by simp
    clear t2 ho2 hb3 hB2 c0 c1
    have c0 := t3.cell0
    have c1 := t3.cell1
    rcases num_cases n s D with ⟨ho, hn⟩ | ⟨ho, h0, hlt, h60⟩
    · rw [hn]
      have hok := fun w hv => digitsOk_any n s v D w hv hD
      rw [ho] at hok
      have HOk := Lib.hid hok
      clear hok hnn
      go_wp2_with fail
      refine (HOk.out _ ho3.reads).mono ?_; rintro e w4 ⟨rfl, hb4⟩
      have hB4 := hB3.trans (hb4.mono hB3.size)
      clear hb4 t3 ho3 hB3 c0 c1
      go_wp2_with fail
      refine (alive_any _).mono ?_; rintro e w6 ⟨rfl, hb6⟩
      have hB6 := hB4.trans (hb6.mono hB4.size)
      go_wp2
      go_ret
      exact ⟨rfl, hB6⟩
    · obtain ⟨N, S, rfl, rfl, hN⟩ := tokN_of (ok_tok ho)
      obtain ⟨b1, b2, b3, b4, _⟩ := tokN_bd hN
      obtain ⟨hDl, hDp, hDk⟩ := (okF_iff hN).1 ho
      obtain ⟨hm1, hm8, _, hsc, hM60, hend⟩ := bas_facts hN
      have hKv := numF_yes (n := N) (s := S) ho
      have hKlt := num_lt hN ho
      have hbs := fun w => basisOf_any (N : Int) S w
      rw [basisF_yes hN] at hbs
      have HBs := Lib.hid hbs
      have HBL : Hid ((castL (basN N S)).length = bmN N S) := by show _ = _; rw [castL_len]; rfl
      have HBG : Hid (∀ i, i < bmN N S → (castL (basN N S)).getD i 0 = ((basAt N S i : Nat) : Int)) := fun i hi => by rw [castL_getD, ← basAt_get hi]
      have HPt : Hid (∀ i, i < bmN N S → pointF N S ((basAt N S i : Nat) : Int) = ((basAt N S i * S % N : Nat) : Int)) := fun i hi => point_nat hN (bas_lt hN hi)
      have HDv : Hid (∀ i, i < bmN N S → D.getD i 0 = ((dAt D i : Nat) : Int) ∧ dAt D i ≤ 60) := fun i hi => by
        have h1 := hDp i hi
        have h2 := Nat.le_trans (hDk.1 i hi) (hM60 i hi)
        exact ⟨by unfold dAt; omega, h2⟩
      have HSL : Hid (∀ k, k ≤ bmN N S → sumPt (basAt N S) (dAt D) N S k ≤ k * (60 * N)) := fun k hk => sumPt_le (m := bmN N S) (by omega) (fun i hi => (HDv.out i hi).2) k hk
      have HSS : Hid (∀ k, sumPt (basAt N S) (dAt D) N S (k + 1) = sumPt (basAt N S) (dAt D) N S k + dAt D k * (basAt N S k * S % N)) := fun k => rfl
      have HS0 : Hid (sumPt (basAt N S) (dAt D) N S 0 = 0) := by show _ = _; rfl
      have hfin : sumPt (basAt N S) (dAt D) N S (bmN N S) % N = valD (basAt N S) (dAt D) (bmN N S) * S % N := sumPt_mod _ _ _ _ _
      have hPK : pointF N S (numF N S D) = ((sumPt (basAt N S) (dAt D) N S (bmN N S) % N : Nat) : Int) := by rw [hKv, point_nat hN hKlt, hfin]
      have HPK := Lib.hid hPK
      have HPm : Hid (∀ i, basAt N S i * S % N ≤ 60) := fun i => by have := Nat.mod_lt (basAt N S i * S) (show 0 < N by omega); omega
      generalize numF N S D = K at *
      generalize dAt D = d at *
      generalize hPTd : (fun i => basAt N S i * S % N) = PT at *
      have HPTe : Hid (∀ i, basAt N S i * S % N = PT i) := fun i => by rw [← hPTd]
      generalize sumPt (basAt N S) d N S = Sm at *
      generalize basAt N S = B at *
      generalize bmN N S = m at *
      have h0' : ¬ K < 0 := by omega
      clear hDp hDk hsc hM60 hend hKv hKlt hbs hfin hPK ho hN hPTd hnn
      go_wp2_with fail
      refine (HBs.out _).mono ?_; rintro e w4 ⟨v4, rfl, ho4, hb4⟩
      have t4 := t3.below hb4 t3.lt
      have hd4 := ho3.below hb4
      have hB4 := hB3.trans (hb4.mono hB3.size)
      obtain ⟨gB, oB, capB, rfl, hbB, lB, hncB, hcB⟩ := ho4.cells (N := m) HBL.out (by omega)
      obtain ⟨gD, capD, curD, rfl, hbD, hrD, _, hncD, _, hcD⟩ := hd4.rowI (N := m) hDl (by omega)
      have HCB : Hid (∀ j, j < m → w4.cell? ⟨gB, oB + j, none⟩ = some (.int .i64 ((B j : Nat) : Int))) := fun j hj => by rw [hcB j hj, HBG.out j hj]
      have HCD : Hid (∀ j, j < m → w4.cell? ⟨gD, j, none⟩ = some (.int .i64 ((d j : Nat) : Int))) := fun j hj => by rw [hrD.cell, hcD j hj, (HDv.out j hj).1]
      have lD := hrD.lt
      have lt4 := t4.lt
      clear ho4 hd4 hcB hrD hcD hb4 t3 ho3 hB3 c0 c1 hDl
      go_wp2_with fail
      go_loopw [7, 8] (fun x y wr => ∃ k : Nat, x = .int .i64 ((Sm k : Nat) : Int) ∧ y = .int .i64 k ∧ k ≤ m ∧ Below w4.heap.size w4 wr) (fun _ y _ => m - (intOf y).toNat)
      case atStart => exact ⟨0, by rw [HS0.out]; rfl, rfl, by omega, Below.refl _ _⟩
      case round =>
        obtain ⟨k, rfl, rfl, hk, hBr⟩ := hrel
        have tr := t4.below hBr lt4
        have hBw := hB4.trans (hBr.mono hB4.size)
        have hzr := hBr.size
        have c0 := tr.cell0
        have c1 := tr.cell1
        have ltr := tr.lt
        by_cases hkm : k < m
        · have hkm' : (k : Int) < m := by omega
          have cb := (hBr.cell (p := ⟨gB, oB + k, none⟩) lB).trans (HCB.out k hkm)
          have cd := (hBr.cell (p := ⟨gD, k, none⟩) lD).trans (HCD.out k hkm)
          have hpt := HPt.out k hkm
          rw [HPTe.out k] at hpt
          have hpm := HPm.out k
          rw [HPTe.out k] at hpm
          have hdm := (HDv.out k hkm).2
          have hsl := HSL.out k hk
          have hss := HSS.out k
          rw [HPTe.out k] at hss
          have hkk : k * (60 * N) ≤ 8 * (60 * 60) := Nat.mul_le_mul (by omega) (Nat.mul_le_mul (by omega) b2)
          have hpp : d k * PT k ≤ 60 * 60 := Nat.mul_le_mul hdm hpm
          have hE1 : ((d k : Nat) : Int) * ((PT k : Nat) : Int) = ((d k * PT k : Nat) : Int) := by simp
          have HSv := Lib.hid (show ((Sm (k + 1) : Nat) : Int) = ((Sm k : Nat) : Int) + ((d k : Nat) : Int) * ((PT k : Nat) : Int) by rw [hss, hE1]; omega)
          have hp0 : (0 : Int) ≤ ((d k : Nat) : Int) * ((PT k : Nat) : Int) := by rw [hE1]; omega
          have hp1 : ((d k : Nat) : Int) * ((PT k : Nat) : Int) ≤ 3600 := by rw [hE1]; omega
          have hs0 : (0 : Int) ≤ ((Sm k : Nat) : Int) := by omega
          have hs1 : ((Sm k : Nat) : Int) ≤ 28800 := by omega
          have hpo := fun w => pointOf_any (N : Int) (S : Int) ((B k : Nat) : Int) w
          rw [hpt] at hpo
          have HPo := Lib.hid hpo
          clear hpt hpm hdm hsl hss hkk hpp hE1 hpo
          generalize ((B k : Nat) : Int) = Bk at *
          generalize ((d k : Nat) : Int) = dk at *
          generalize ((PT k : Nat) : Int) = pk at *
          obtain ⟨S0, hS0⟩ : ∃ x, ((Sm k : Nat) : Int) = x := ⟨_, rfl⟩
          rw [hS0] at HSv hs0 hs1
          rw [hS0]
          have hw1 : IntKind.i64.wrap (dk * pk) = dk * pk := IntWalk.i64_in _ (by omega)
          have hw2 : IntKind.i64.wrap (S0 + dk * pk) = S0 + dk * pk := IntWalk.i64_in _ (by omega)
          clear hS0 tr
          have gBr : gB < wr.heap.size := by omega
          have gDr : gD < wr.heap.size := by omega
          go_wp2_with fail
          go_region_held3 (fun w' => w'.cell? ⟨w1.heap.size, 0, none⟩ = some (.int .i64 N) ∧ w'.cell? ⟨w1.heap.size, 1, none⟩ = some (.int .i64 S) ∧ w'.cell? ⟨gB, oB + k, none⟩ = some (.int .i64 Bk) ∧ w'.cell? ⟨gD, k, none⟩ = some (.int .i64 dk))
            (first | go_keep | exact ⟨z0, z1, z2, z3⟩)
            (first | (go_at_call 41; refine (HPo.out _).mono ?_; rintro e w' ⟨rfl, hb'⟩; have z0 := (hb'.cell (p := ⟨w1.heap.size, 0, none⟩) ltr).trans c0; have z1 := (hb'.cell (p := ⟨w1.heap.size, 1, none⟩) ltr).trans c1; have z2 := (hb'.cell (p := ⟨gB, oB + k, none⟩) gBr).trans cb; have z3 := (hb'.cell (p := ⟨gD, k, none⟩) gDr).trans cd))
          have hBr' := (below_drewN hBr 1).trans (hb'.mono hzr)
          go_wp2_with fail
          go_roundw
          case rel => exact ⟨k + 1, by rw [HSv.out], by go_num, by omega, hBr'⟩
          case measure => simp only [intOf]; omega
        · have hkE : k = m := by omega
          subst hkE
          have hkm' : decide ((k : Int) < k) = false := by simp
          have hsl := HSL.out k (Nat.le_refl _)
          have hkk : k * (60 * N) ≤ 8 * (60 * 60) := Nat.mul_le_mul (by omega) (Nat.mul_le_mul (by omega) b2)
          have hpo := fun w => pointOf_any (N : Int) (S : Int) K w
          rw [HPK.out] at hpo
          have hmod : ((Sm k : Nat) : Int).tmod (N : Int) = ((Sm k % N : Nat) : Int) := by rw [Int.tmod_eq_emod_of_nonneg (by omega)]; simp
          have hmlt : Sm k % N < N := Nat.mod_lt _ (by omega)
          obtain ⟨Z, hZ⟩ : ∃ x, ((Sm k : Nat) : Int) = x := ⟨_, rfl⟩
          rw [hZ] at hmod
          rw [hZ]
          have hz0 : 0 ≤ Z := by omega
          have hz1 : Z ≤ 28800 := by omega
          have hmod2 : Z % (N : Int) = ((Sm k % N : Nat) : Int) := by rw [← hmod, Int.tmod_eq_emod_of_nonneg hz0]
          obtain ⟨P, hP⟩ : ∃ x, ((Sm k % N : Nat) : Int) = x := ⟨_, rfl⟩
          rw [hP] at hmod hmod2 hpo
          have hP1 : 0 ≤ P ∧ P < N := by omega
          have hwP : IntKind.i64.wrap P = P := IntWalk.i64_in _ (by omega)
          have HPo := Lib.hid hpo
          have hN0 : ¬ (N : Int) = 0 := by omega
          have hPP : (P == P) = true := by simp
          have hN0n : ¬ N = 0 := by omega
          have hN0b : (N == 0) = false := by simp; omega
          clear hpo hsl hkk hZ hP hmlt tr
          go_wp2_with fail
          go_region_held3 (fun w' => w'.cell? ⟨w1.heap.size, 0, none⟩ = some (.int .i64 N) ∧ w'.cell? ⟨w1.heap.size, 1, none⟩ = some (.int .i64 S))
            (first | go_keep | exact ⟨z0, z1⟩)
            (first | (go_at_call 41; refine (HPo.out _).mono ?_; rintro e w' ⟨rfl, hb'⟩; have z0 := (hb'.cell (p := ⟨w1.heap.size, 0, none⟩) ltr).trans c0; have z1 := (hb'.cell (p := ⟨w1.heap.size, 1, none⟩) ltr).trans c1))
          have hBw' := (below_drewN hBw 1).trans (hb'.mono (below_drewN hBw 1).size)
          go_wp2
          go_ret
          exact ⟨ret_bool (by first | (simp; done) | (simp; omega)), hBw'⟩

set_option maxRecDepth 100000 in
theorem lifted (os : Os) (started : os.Started) (H : Type) (enc : TypeId × Value → H) :
    ReturnsInHanded {} Try.checked os 7 .any (Rows.fnNumberOfSpec.pre6 enc Try.prog Try.f7 Rows.fnNumberOfRow.domain false) (Rows.fnNumberOfSpec.post enc Try.prog Try.f7 false true false false) := by
  refine returnsInHanded_of_change (C := Try.checked) own started (by kernel_rfl) Try.func7
    (ChangeSpec.witness6 (enc := enc) (C := Try.checked) false ⟨#[], #[.slice none 0 0], []⟩ 8 (by kernel_rfl) (by kernel_rfl) (by kernel_rfl) (by kernel_rfl)) ?_
  intro W base args ds gs before hval0 hW hcnd _
  have hval : ∀ (j : Nat) t v, Try.f7.params[j]? = some t → args[j]? = some v → Value.okWide Try.prog W .any base t v := hval0
  have hW' := hW
  obtain ⟨p, q, hA0, hV, rfl, hfz, hnd⟩ := hW
  have hA : DataW.TrodAll enc Try.prog W 0 (fun _ => true) true Try.f7.params.toList args.toList ds p := hA0
  rw [Try.params7] at hA hval
  obtain ⟨v0, vs0, d0, ds0, p0, q0, hargs, rfl, rfl, h0, r0⟩ := trodAll_cons hA
  obtain ⟨rfl, rfl, rfl⟩ := trodAll_nil r0
  obtain rfl : args = #[v0] := by cases args; simp_all
  obtain ⟨rfl, rfl⟩ := trodVars_none hV
  obtain ⟨acode, lencode, capcode, rfl⟩ := okWide_slice Try.underlying22 (hval 0 22 v0 rfl rfl)
  have k0 := h0
  have lt0 : ∀ x ∈ p0, x.block < W.heap.size := by obtain ⟨m, hm⟩ := k0; exact DataW.trod_lt m _ _ _ hm
  obtain ⟨zcode, rowcode⟩ : ∃ zs, IsRow .u8 W acode lencode capcode zs := by
    obtain ⟨fuel, hf⟩ := h0
    rcases open_ints Try.underlying22 Try.underlying5 (by kernel_rfl) hf with ⟨hcs, _⟩ | ⟨x, l, c, zs, hcs, _, hl, hm, hz, _, hcell, hwz⟩
    · simp [Value.cells] at hcs
      obtain ⟨rfl, rfl, rfl⟩ := hcs
      exact ⟨[], .inl ⟨rfl, rfl, rfl, rfl⟩⟩
    · simp [Value.cells] at hcs
      obtain ⟨rfl, rfl, rfl⟩ := hcs
      exact ⟨zs, .inr ⟨_, rfl, hl, hm, by simpa using hz, hcell, hwz⟩⟩
  clear hA0 hval0
  refine (walk acode lencode capcode zcode W rowcode).mono fun e W' ⟨he, bel⟩ => ?_
  subst he
  exact ⟨_, rfl, _, _, _, [], _, [], hW', trodAll_mk1 (shut_bool Try.underlying4 _), (trodAll_cons_mk (Below.trod laidOut (by kernel_rfl) (of_decide_eq_true (by kernel_rfl)) k0 bel lt0) trodAll_mk0), rfl, bel.frame _, fun h => by cases h⟩

theorem facts : joinedFacts Try.pinned.checked.prog 7 Try.f7 Rows.fnNumberOfSpec Rows.fnNumberOfRow = true := by
  simp only [joinedFacts, Bool.and_eq_true]
  repeat' apply And.intro
  all_goals first | rw [mayEnter_eq] | (rw [liftsFinal_eq]; kernel_rfl) | (rw [make_eq]; kernel_rfl) | kernel_rfl

theorem over : Rows.fnNumberOfRow.holds Try.pinned (OpenSpec.ofChange Rows.fnNumberOfSpec) :=
  OpenClaim.holds_of_wide 7 Try.f7 rfl rfl rfl rfl rfl rfl rfl ⟨rfl, rfl, rfl, rfl, rfl⟩ rfl rfl rfl rfl rfl (by kernel_rfl) Try.func7 facts
    (of_decide_eq_true (by kernel_rfl)) (by unfold Func.isWrapper; first | (rw [if_pos (by decide +kernel)]; kernel_rfl) | (rw [if_neg (by decide +kernel)]; exact ⟨rfl, rfl⟩))
    (fun os started H enc _ => lifted os started H enc)

theorem proved : Rows.FnNumberOfSaid := over
#print axioms proved
end Go.Proofs.Ytdkmghbbnkppcaa.lawNumberOf
