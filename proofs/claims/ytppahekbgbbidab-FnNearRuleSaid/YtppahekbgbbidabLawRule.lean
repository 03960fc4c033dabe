/- Proves that FnNearRule returns true for every code, and leaves the code as it was. No conditions. -/
import Derived.Test.YtppahekbgbbidabHead
import Derived.Test.YtppahekbgbbidabGRule
import Derived.Test.YtppahekbgbbidabRecL
import Derived.Test.YtppahekbgbbidabDraw9
import Derived.Test.YtppahekbgbbidabGFun2
set_option linter.unusedVariables false
namespace Go.Proofs.Ytppahekbgbbidab.lawRule

set_option maxRecDepth 4000
open Go.ChangeShapes Go.WideShapes Go.ChangeAt Go.RowKit Go.Joins N

theorem rows_facts {n s : Nat} (h : tokN n s = true) : ∀ r ∈ rowsN n s, r.p * r.b + r.q * r.a = n ∧ (1 ≤ r.p ∧ r.p < n) ∧ (1 ≤ r.q ∧ r.q < n) ∧ r.p * s % n = r.a ∧ r.q * s % n + r.b = n ∧ 1 ≤ r.a ∧ 1 ≤ r.b := by
  have c := all_turns chkRows_all h
  unfold chkRows at c
  simp only [Bool.and_eq_true, List.all_eq_true, Nat.beq_eq, Nat.ble_eq, Nat.blt_eq] at c
  intro r hr
  obtain ⟨a, b, c1, d, e, f, g, h1, i⟩ := c.1 r hr
  exact ⟨a, ⟨b, c1⟩, ⟨d, e⟩, f, g, h1, i⟩

theorem rows_last {n s : Nat} (h : tokN n s = true) : ((rowsN n s).getD ((rowsN n s).length - 1) row0).a = 1 ∧ ((rowsN n s).getD ((rowsN n s).length - 1) row0).b = 1 ∧ ((rowsN n s).getD ((rowsN n s).length - 1) row0).p + ((rowsN n s).getD ((rowsN n s).length - 1) row0).q = n := by
  have c := all_turns chkRows_all h
  unfold chkRows at c
  simp only [Bool.and_eq_true] at c
  have d := c.2
  cases e : (rowsN n s).getLast? with
  | none => rw [e] at d; simp at d
  | some r =>
    rw [e] at d
    simp only [Bool.and_eq_true, Nat.beq_eq] at d
    rw [List.getD_eq_getElem?_getD, ← List.getLast?_eq_getElem?, e]
    exact d

theorem reads4 {w : World} {x c : Nat} {x0 x1 x2 x3 : Int} (h0 : w.cell? ⟨x, 0, none⟩ = some (.int .i64 x0)) (h1 : w.cell? ⟨x, 1, none⟩ = some (.int .i64 x1)) (h2 : w.cell? ⟨x, 2, none⟩ = some (.int .i64 x2)) (h3 : w.cell? ⟨x, 3, none⟩ = some (.int .i64 x3)) :
    Reads w (.slice (some ⟨x, 0, none⟩) 4 c) [x0, x1, x2, x3] := by
  refine ⟨_, _, rfl, fun _ => ⟨x, 0, rfl, fun i hi => ?_⟩⟩
  rw [Nat.zero_add]
  match i, hi with
  | 0, _ => exact h0
  | 1, _ => exact h1
  | 2, _ => exact h2
  | 3, _ => exact h3

set_option maxHeartbeats 4000000 in
theorem walk (a : Option Addr) (len cap : Nat) (z : List Int) (w : World) (row : IsRow .u8 w a len cap z) :
    Calls Try.prog 4 #[.slice a len cap] w fun e w' => e = .returned (.bool true) ∧ Below w.heap.size w w' := by
  
  have hc := CodeIn.of row
  clear row
  by_cases hl : 1048576 < len
  · have hl' : (1048576 : Int) < len := by omega
    go_enter Try.func4, Try.ntmps4
    go_wp2
    go_ret
    exact ⟨rfl, (by repeat (first | exact Below.refl _ _ | assumption | (refine Below.trans ?_ (Below.mono (by assumption) (by first | omega | (simp <;> omega)))) | (refine Below.alloc ?_ (by first | omega | (simp <;> omega)) _) | (refine below_drewN ?_ _) | (refine Below.drew ?_) | (refine Below.setCell ?_ (by first | omega | (simp <;> omega)) _)))⟩
  · have hl' : ¬ (1048576 : Int) < len := by omega
    go_enter Try.func4, Try.ntmps4
    go_wp2_with fail
    refine (drawNearRule_any a len cap _ hc (by omega)).mono ?_; rintro e w1 ⟨n, s, rfl, n0, n1, s0, s1, hb1⟩
    have hz1 := hb1.size
    try simp at hz1
    go_wp2_with fail
    refine (nearRule_any _ _ _).mono ?_; rintro e w2 ⟨v1, rfl, hp2, hb2⟩
    have hz2 := hb2.size
    try simp at hz2
    have t2 : Two w2 (w1.heap.size) (.int .i64 n) (.int .i64 s) 24 := Two.below (by repeat (first | assumption | exact Two.new' _ _ _ _ _ (by simp) | refine Two.alloc ?_ _ | refine Two.drewN ?_ _)) hb2 (by first | omega | (simp <;> omega))
    have hlt2 : (w1.heap.size) < w2.heap.size := t2.lt
    have hnt2 : ¬ (w1.heap.size) = w2.heap.size := Nat.ne_of_lt hlt2
    have t2c := t2.cell0
    have t2d := t2.cell1
    go_wp2_with fail
    refine (specNearRule_any _ _ _).mono ?_; rintro e w3 ⟨v2, rfl, hq3, hb3⟩
    have hz3 := hb3.size
    try simp at hz3
    have t3 : Two w3 (w1.heap.size) (.int .i64 n) (.int .i64 s) 24 := Two.below (by repeat (first | assumption | exact Two.new' _ _ _ _ _ (by simp) | refine Two.alloc ?_ _ | refine Two.drewN ?_ _)) hb3 (by first | omega | (simp <;> omega))
    have hlt3 : (w1.heap.size) < w3.heap.size := t3.lt
    have hnt3 : ¬ (w1.heap.size) = w3.heap.size := Nat.ne_of_lt hlt3
    have t3c := t3.cell0
    have t3d := t3.cell1
    have hp3 := hp2.below hb3
    have hB3 : Below w.heap.size w w3 := (by repeat (first | exact Below.refl _ _ | assumption | (refine Below.trans ?_ (Below.mono (by assumption) (by first | omega | (simp <;> omega)))) | (refine Below.alloc ?_ (by first | omega | (simp <;> omega)) _) | (refine below_drewN ?_ _) | (refine Below.drew ?_) | (refine Below.setCell ?_ (by first | omega | (simp <;> omega)) _)))
    clear hb1 hb2 hb3 hp2
    by_cases ht : tok n s = true
    · obtain ⟨N, S, rfl, rfl, hN⟩ := tokN_of ht
      obtain ⟨b1, b2, b3, b4, _⟩ := tokN_bd hN
      
      rw [ruleF_yes hN] at hp3 hq3
      have hRe : rowsI N S = (rowsN N S).map rowI := rfl
      rw [hRe] at hp3 hq3
      have hR61 := rowsI_len hN
      rw [hRe, List.length_map] at hR61
      have hM1 : 1 ≤ (rowsN N S).length := by rw [rowsN_head hN]; simp
      have HF := Lib.hid (rows_facts hN)
      have HLa := Lib.hid (rows_last hN)
      have hpt : ∀ k : Nat, k < N → pointF (N : Int) S (k : Int) = ((k * S % N : Nat) : Int) := fun k hk => by
        rw [pointF_yes ht (by omega) (by omega)]; simp
      have HP := Lib.hid hpt
      generalize rowsN N S = Rs at *
      clear hRe hpt ht hN
      obtain ⟨M, hM⟩ : ∃ M, Rs.length = M := ⟨_, rfl⟩
      rw [hM] at hR61 hM1
      obtain ⟨a1, cap1, rfl, HA0⟩ := hp3.four hM
      obtain ⟨g, rfl, g2, HA⟩ := HA0 (by omega)
      obtain ⟨a2, cap2, rfl, HB0⟩ := hq3.four hM
      obtain ⟨g', rfl, g2', HB⟩ := HB0 (by omega)
      have HM := Lib.hid hM
      have hMM : ((M : Int) != M) = false := by simp
      clear HA0 HB0 hp3 hq3 hM
      go_wp2_with fail
      go_loopw [6] (fun x wr => ∃ (k q : Nat), x = .int .i64 k ∧ k ≤ M ∧ wr = w3.drewN q) (fun x _ => M - (intOf x).toNat)
      case atStart => exact ⟨0, 0, rfl, by omega, rfl⟩
      case round =>
        obtain ⟨k, q, rfl, hk, rfl⟩ := hrel
        by_cases hkm : k < M
        · have hkm' : (k : Int) < M := by omega
          obtain ⟨x, c, e0, x2, ex0, ex1, ex2, ex3⟩ := HA.out k hkm
          obtain ⟨x', c', e0', x2', ex0', ex1', ex2', ex3'⟩ := HB.out k hkm
          generalize Rs.getD k row0 = R at *
          have hss := fun (r : Nat) => (sameInts_any (.slice (some ⟨x, 0, none⟩) 4 c) (.slice (some ⟨x', 0, none⟩) 4 c') _ _ (w3.drewN (q + r)) (reads4 (w := w3) ex0 ex1 ex2 ex3) (reads4 (w := w3) ex0' ex1' ex2' ex3') (by simp) (by simp)).mono (R' := fun e w' => e = .returned (.bool true) ∧ ∃ n, w' = w3.drewN (q + n)) (fun e w' h => ⟨by rw [h.1, decide_eq_true rfl], by obtain ⟨n, hn⟩ := h.2; exact ⟨r + n, by rw [hn]; simp [Nat.add_assoc]⟩⟩)
          clear ex0 ex1 ex2 ex3 ex0' ex1' ex2' ex3'
          go_wp2_with fail
          go_quiet ((go_at_call 24; with_reducible exact hss _))
          go_wp2_with fail
          go_roundw
          case rel => exact ⟨k + 1, q + nq, by go_num, by omega, by simp⟩
          case measure => simp only [intOf]; omega
        · obtain rfl : k = M := by omega
          have hkm' : decide ((k : Int) < k) = false := by simp
          have hm0 : ((k : Int) == 0) = false := by simp; omega
          have HA' : Hid (∀ i, i < k → ∃ x c, (w3.drewN q).cell? ⟨g, i, none⟩ = some (.slice (some ⟨x, 0, none⟩) 4 c) ∧ x < (w3.drewN q).heap.size ∧
      (w3.drewN q).cell? ⟨x, 0, none⟩ = some (.int .i64 ((Rs.getD i row0).p : Int)) ∧ (w3.drewN q).cell? ⟨x, 1, none⟩ = some (.int .i64 ((Rs.getD i row0).a : Int)) ∧
      (w3.drewN q).cell? ⟨x, 2, none⟩ = some (.int .i64 ((Rs.getD i row0).q : Int)) ∧ (w3.drewN q).cell? ⟨x, 3, none⟩ = some (.int .i64 ((Rs.getD i row0).b : Int))) := HA
          have t4 : Two (w3.drewN q) w1.heap.size (.int .i64 N) (.int .i64 S) 24 := t3
          have hB4 := below_drewN hB3 q
          have hg4 : g < (w3.drewN q).heap.size := g2
          clear HA HB t3 t3c t3d t2 t2c t2d hB3 hkm hk
          generalize w3.drewN q = w4 at *
          have hz4 := t4.lt
          go_wp2_with fail
          go_loopw [7, 8, 9] (fun y _ _ wr => ∃ (i : Nat), y = .int .i64 i ∧ i ≤ k ∧ Below w4.heap.size w4 wr) (fun y _ _ _ => k - (intOf y).toNat)
          case atStart => exact ⟨0, rfl, by omega, Below.refl _ _⟩
          case round =>
            obtain ⟨i, rfl, hi, hB⟩ := hrel
            have t5 := t4.below hB t4.lt
            have t5c := t5.cell0
            have t5d := t5.cell1
            have hsz := hB.size
            by_cases hik : i < k
            · have hik' : (i : Int) < k := by omega
              obtain ⟨x, c, e0, x2, ex0, ex1, ex2, ex3⟩ := HA'.out i hik
              have e0' := (hB.cell (p := ⟨g, i, none⟩) hg4).trans e0
              have f0 := (hB.cell (p := ⟨x, 0, none⟩) x2).trans ex0
              have f1 := (hB.cell (p := ⟨x, 1, none⟩) x2).trans ex1
              have f2 := (hB.cell (p := ⟨x, 2, none⟩) x2).trans ex2
              have f3 := (hB.cell (p := ⟨x, 3, none⟩) x2).trans ex3
              obtain ⟨h1, ⟨p1, p2⟩, ⟨q1, q2⟩, h4, h5, h6, h7⟩ := HF.out (Rs.getD i row0) (by rw [List.getD_eq_getElem?_getD, List.getElem?_eq_getElem (show i < Rs.length by rw [HM.out]; exact hik)]; simp)
              generalize (Rs.getD i row0).p = p at *
              generalize (Rs.getD i row0).q = qq at *
              generalize (Rs.getD i row0).a = aa at *
              generalize (Rs.getD i row0).b = bb at *
              have hpp := HP.out p p2
              have hpq := HP.out qq q2
              rw [h4] at hpp
              rw [show qq * S % N = N - bb by omega] at hpq
              have hi0 : (0 : Int) ≤ i := by omega
              have m1 : (p : Int) * bb + (qq : Int) * aa = N := by rw [← h1]; simp
              have m2 : (0 : Int) ≤ (p : Int) * bb := Int.mul_nonneg (by omega) (by omega)
              have m3 : (0 : Int) ≤ (qq : Int) * aa := Int.mul_nonneg (by omega) (by omega)
              have k1 : IntKind.i64.wrap ((p : Int) * bb) = (p : Int) * bb := IntWalk.i64_in _ (by omega)
              have k2 : IntKind.i64.wrap ((qq : Int) * aa) = (qq : Int) * aa := IntWalk.i64_in _ (by omega)
              have k3 : IntKind.i64.wrap ((p : Int) * bb + (qq : Int) * aa) = (p : Int) * bb + (qq : Int) * aa := IntWalk.i64_in _ (by omega)
              have k4 : IntKind.i64.wrap ((N : Int) - bb) = (N : Int) - bb := IntWalk.i64_in _ (by omega)
              have k5 : IntKind.i64.wrap (N : Int) = N := IntWalk.i64_in _ (by omega)
              have d1 : ((N : Int) != N) = false := by simp
              have d2 : ((aa : Int) != aa) = false := by simp
              have hNb : ((N - bb : Nat) : Int) = (N : Int) - bb := by omega
              have d3 : ((((N - bb : Nat)) : Int) != (N : Int) - bb) = false := by simp; omega
              rw [hNb] at hpq d3
              have HPp := Lib.hid hpp
              have HPq := Lib.hid hpq
              clear hpp hpq h1 h4 h5 e0 ex0 ex1 ex2 ex3 hNb
              have t5d' : Two wr.drew w1.heap.size (.int .i64 (N : Int)) (.int .i64 (S : Int)) 24 := Two.drew1 t5
              have e0d : wr.drew.cell? ⟨g, i, none⟩ = some (.slice (some ⟨x, 0, none⟩) 4 c) := e0'
              have f1d : wr.drew.cell? ⟨x, 1, none⟩ = some (.int .i64 (aa : Int)) := f1
              have f3d : wr.drew.cell? ⟨x, 3, none⟩ = some (.int .i64 (bb : Int)) := f3
              have hBd : Below w4.heap.size w4 wr.drew := Below.drew hB
              have hszd : w4.heap.size ≤ wr.drew.heap.size := hBd.size
              go_wp2_with fail
              go_region_held3 (fun w' => w'.cell? ⟨w1.heap.size, 0, none⟩ = some (.int .i64 (N : Int)) ∧ w'.cell? ⟨w1.heap.size, 1, none⟩ = some (.int .i64 (S : Int)) ∧ w'.cell? ⟨g, i, none⟩ = some (.slice (some ⟨x, 0, none⟩) 4 c) ∧ w'.cell? ⟨x, 1, none⟩ = some (.int .i64 (aa : Int)) ∧ w'.cell? ⟨x, 3, none⟩ = some (.int .i64 (bb : Int)))
                (first | go_keep | exact ⟨t'c, t'd, e'', f1', f3'⟩)
                (first
                  | (go_at_call 20; refine (pointOf_any N S _ _).mono ?_; rintro e w' ⟨rfl, hb'⟩; (first | rw [HPp.out] | rw [HPq.out]); have hsz' := hb'.size; have t' : Two w' w1.heap.size (.int .i64 (N : Int)) (.int .i64 (S : Int)) 24 := Two.below (by assumption) hb' (by omega); have t'c := t'.cell0; have t'd := t'.cell1; have e'' := (hb'.cell (p := ⟨g, i, none⟩) (by show g < _; omega)).trans (by assumption); have f1' := (hb'.cell (p := ⟨x, 1, none⟩) (by show x < _; omega)).trans (by assumption); have f3' := (hb'.cell (p := ⟨x, 3, none⟩) (by show x < _; omega)).trans (by assumption); have hB' : Below w4.heap.size w4 w' := Below.trans (by assumption) (hb'.mono (by omega))))
              go_wp2_with fail
              go_roundw
              case rel => exact ⟨i + 1, by go_num, by omega, hB'⟩
              case measure => simp only [intOf]; omega
            · obtain rfl : i = k := by omega
              have hik' : decide ((i : Int) < i) = false := by simp
              obtain ⟨x, c, e0, x2, ex0, ex1, ex2, ex3⟩ := HA'.out (i - 1) (by omega)
              have e0' := (hB.cell (p := ⟨g, i - 1, none⟩) hg4).trans e0
              have f0 := (hB.cell (p := ⟨x, 0, none⟩) x2).trans ex0
              have f1 := (hB.cell (p := ⟨x, 1, none⟩) x2).trans ex1
              have f2 := (hB.cell (p := ⟨x, 2, none⟩) x2).trans ex2
              have f3 := (hB.cell (p := ⟨x, 3, none⟩) x2).trans ex3
              obtain ⟨l1, l2, l3⟩ := HLa.out
              rw [HM.out] at l1 l2 l3
              rw [l1] at f1
              rw [l2] at f3
              obtain ⟨_, ⟨p1, p2⟩, ⟨qq1, qq2⟩, _⟩ := HF.out (Rs.getD (i - 1) row0) (by rw [List.getD_eq_getElem?_getD, List.getElem?_eq_getElem (show i - 1 < Rs.length by rw [HM.out]; omega)]; simp)
              generalize (Rs.getD (i - 1) row0).p = p at *
              generalize (Rs.getD (i - 1) row0).q = qq at *
              have q1 : (1 : Int) ≤ i := by omega
              have q2 : ((i : Int) - 1).toNat = i - 1 := by omega
              have q3 : (0 : Int) ≤ (i : Int) - 1 := by omega
              have q4 : (i : Int) - 1 < i := by omega
              have q5 : IntKind.i64.wrap ((i : Int) - 1) = (i : Int) - 1 := IntWalk.i64_in _ (by omega)
              have q6 : (p : Int) + qq = N := by omega
              have q7 : IntKind.i64.wrap (N : Int) = N := IntWalk.i64_in _ (by omega)
              have d1 : ((N : Int) == N) = true := by simp
              have hB6 := hB4.trans (hB.mono hB4.size)
              clear e0 ex0 ex1 ex2 ex3 l1 l2 l3
              go_wp2_with fail
              go_quiet (fail)
              go_wp2
              go_ret
              exact ⟨ret_bool (by simp), below_drewN hB6 _⟩
    · 
      rw [ruleF_no ht] at *
      have ht' : tok n s = false := by simpa using ht
      obtain ⟨ga, cap1, rfl, _⟩ := hp3.cells (N := 0) rfl
      obtain ⟨gb, cap2, rfl, _⟩ := hq3.cells (N := 0) rfl
      clear hp3 hq3
      go_wp2_with fail
      go_loopw [6] (fun x wr => x = .int .i64 0 ∧ wr = w3) (fun _ _ => 0)
      case atStart => exact ⟨rfl, rfl⟩
      case round =>
        obtain ⟨rfl, rfl⟩ := hrel
        go_wp2_with fail
        refine (turnOk_any _ _ _).mono ?_; rintro e w5 ⟨rfl, hb5⟩
        rw [ht']
        go_wp2_with fail
        refine (alive_any _).mono ?_; rintro e w6 ⟨rfl, hb6⟩
        have hz5 := hb5.size
        have hB6 : Below w.heap.size w w6 := (hB3.trans (hb5.mono hB3.size)).trans (hb6.mono (Nat.le_trans hB3.size hz5))
        go_wp2
        go_ret
        exact ⟨rfl, hB6⟩

set_option maxRecDepth 100000 in
theorem lifted (os : Os) (started : os.Started) (H : Type) (enc : TypeId × Value → H) :
    ReturnsInHanded {} Try.checked os 4 .any (Rows.fnNearRuleSpec.pre6 enc Try.prog Try.f4 Rows.fnNearRuleRow.domain false) (Rows.fnNearRuleSpec.post enc Try.prog Try.f4 false true false false) := by
  refine returnsInHanded_of_change (C := Try.checked) own started (by kernel_rfl) Try.func4
    (ChangeSpec.witness6 (enc := enc) (C := Try.checked) false ⟨#[], #[.slice none 0 0], []⟩ 8 (by kernel_rfl) (by kernel_rfl) (by kernel_rfl) (by kernel_rfl)) ?_
  intro W base args ds gs before hval0 hW hcnd _
  have hval : ∀ (j : Nat) t v, Try.f4.params[j]? = some t → args[j]? = some v → Value.okWide Try.prog W .any base t v := hval0
  have hW' := hW
  obtain ⟨p, q, hA0, hV, rfl, hfz, hnd⟩ := hW
  have hA : DataW.TrodAll enc Try.prog W 0 (fun _ => true) true Try.f4.params.toList args.toList ds p := hA0
  rw [Try.params4] at hA hval
  obtain ⟨v0, vs0, d0, ds0, p0, q0, hargs, rfl, rfl, h0, r0⟩ := trodAll_cons hA
  obtain ⟨rfl, rfl, rfl⟩ := trodAll_nil r0
  obtain rfl : args = #[v0] := by cases args; simp_all
  obtain ⟨rfl, rfl⟩ := trodVars_none hV
  obtain ⟨acode, lencode, capcode, rfl⟩ := okWide_slice Try.underlying22 (hval 0 22 v0 rfl rfl)
  have k0 := h0
  have lt0 : ∀ x ∈ p0, x.block < W.heap.size := by obtain ⟨m, hm⟩ := k0; exact DataW.trod_lt m _ _ _ hm
  obtain ⟨zcode, rowcode⟩ : ∃ zs, IsRow .u8 W acode lencode capcode zs := by
    obtain ⟨fuel, hf⟩ := h0
    rcases open_ints Try.underlying22 Try.underlying5 (by kernel_rfl) hf with ⟨hcs, _⟩ | ⟨x, l, c, zs, hcs, _, hl, hm, hz, _, hcell, hwz⟩
    · simp [Value.cells] at hcs
      obtain ⟨rfl, rfl, rfl⟩ := hcs
      exact ⟨[], .inl ⟨rfl, rfl, rfl, rfl⟩⟩
    · simp [Value.cells] at hcs
      obtain ⟨rfl, rfl, rfl⟩ := hcs
      exact ⟨zs, .inr ⟨_, rfl, hl, hm, by simpa using hz, hcell, hwz⟩⟩
  clear hA0 hval0
  refine (walk acode lencode capcode zcode W rowcode).mono fun e W' ⟨he, bel⟩ => ?_
  subst he
  exact ⟨_, rfl, _, _, _, [], _, [], hW', trodAll_mk1 (shut_bool Try.underlying4 _), (trodAll_cons_mk (Below.trod laidOut (by kernel_rfl) (of_decide_eq_true (by kernel_rfl)) k0 bel lt0) trodAll_mk0), rfl, bel.frame _, fun h => by cases h⟩

theorem facts : joinedFacts Try.pinned.checked.prog 4 Try.f4 Rows.fnNearRuleSpec Rows.fnNearRuleRow = true := by
  simp only [joinedFacts, Bool.and_eq_true]
  repeat' apply And.intro
  all_goals first | rw [mayEnter_eq] | (rw [liftsFinal_eq]; kernel_rfl) | (rw [make_eq]; kernel_rfl) | kernel_rfl

theorem over : Rows.fnNearRuleRow.holds Try.pinned (OpenSpec.ofChange Rows.fnNearRuleSpec) :=
  OpenClaim.holds_of_wide 4 Try.f4 rfl rfl rfl rfl rfl rfl rfl ⟨rfl, rfl, rfl, rfl, rfl⟩ rfl rfl rfl rfl rfl (by kernel_rfl) Try.func4 facts
    (of_decide_eq_true (by kernel_rfl)) (by unfold Func.isWrapper; first | (rw [if_pos (by decide +kernel)]; kernel_rfl) | (rw [if_neg (by decide +kernel)]; exact ⟨rfl, rfl⟩))
    (fun os started H enc _ => lifted os started H enc)

theorem proved : Rows.FnNearRuleSaid := over
#print axioms proved
end Go.Proofs.Ytppahekbgbbidab.lawRule
