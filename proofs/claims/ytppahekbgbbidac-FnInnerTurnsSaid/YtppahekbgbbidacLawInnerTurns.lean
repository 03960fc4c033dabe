/- Proves that FnInnerTurns returns true for every code, and leaves the code as it was. No conditions. -/
import Derived.Test.YtppahekbgbbidacHead
import Derived.Test.YtppahekbgbbidacInns
import Derived.Test.YtppahekbgbbidacDrawN
import Derived.Test.YtppahekbgbbidacGFun2
set_option linter.unusedVariables false
namespace Go.Proofs.Ytppahekbgbbidac.lawInnerTurns

set_option maxRecDepth 4000
open Go.ChangeShapes Go.WideShapes Go.ChangeAt Go.RowKit Go.Joins

set_option maxHeartbeats 4000000 in
theorem walk (a : Option Addr) (len cap : Nat) (z : List Int) (w : World) (row : IsRow .u8 w a len cap z) :
    Calls Try.prog 12 #[.slice a len cap] w fun e w' => e = .returned (.bool true) ∧ Below w.heap.size w w' := by
  have hc := CodeIn.of row
  clear row
  by_cases hl : 1048576 < len
  · have hl' : (1048576 : Int) < len := by omega
    go_enter Try.func12, Try.ntmps12
    go_wp2
    go_ret
    exact ⟨rfl, (by repeat (first | exact Below.refl _ _ | assumption | (refine Below.trans ?_ (Below.mono (by assumption) (by first | omega | (simp <;> omega)))) | (refine Below.alloc ?_ (by first | omega | (simp <;> omega)) _) | (refine below_drewN ?_ _) | (refine Below.drew ?_) | (refine Below.setCell ?_ (by first | omega | (simp <;> omega)) _)))⟩
  · have hl' : ¬ (1048576 : Int) < len := by omega
    
    go_enter Try.func12, Try.ntmps12
    go_wp2_with fail
    refine (drawInnerTurns_any a len cap _ hc (by omega)).mono ?_; rintro e w1 ⟨n, s, rfl, n0, n1, s0, s1, hb1⟩
    have hz1 := hb1.size
    try simp at hz1
    go_wp2_with fail
    refine (innerTurns_any _ _ _).mono ?_; rintro e w2 ⟨v1, rfl, ho2, hb2⟩
    have hz2 := hb2.size
    try simp at hz2
    have t2 : Two w2 (w1.heap.size) (.int .i64 n) (.int .i64 s) 24 := Two.below (by repeat (first | assumption | exact Two.new' _ _ _ _ _ (by simp) | refine Two.alloc ?_ _ | refine Two.drewN ?_ _)) hb2 (by first | omega | (simp <;> omega))
    have hlt2 : (w1.heap.size) < w2.heap.size := t2.lt
    have hnt2 : ¬ (w1.heap.size) = w2.heap.size := Nat.ne_of_lt hlt2
    have t2c := t2.cell0
    have t2d := t2.cell1
    go_wp2_with fail
    refine (specInnerTurns_any _ _ _).mono ?_; rintro e w3 ⟨v2, rfl, ho3, hb3⟩
    have hz3 := hb3.size
    try simp at hz3
    have t3 : Two w3 (w1.heap.size) (.int .i64 n) (.int .i64 s) 24 := Two.below (by repeat (first | assumption | exact Two.new' _ _ _ _ _ (by simp) | refine Two.alloc ?_ _ | refine Two.drewN ?_ _)) hb3 (by first | omega | (simp <;> omega))
    have hlt3 : (w1.heap.size) < w3.heap.size := t3.lt
    have hnt3 : ¬ (w1.heap.size) = w3.heap.size := Nat.ne_of_lt hlt3
    have t3c := t3.cell0
    have t3d := t3.cell1
    have hp3 := ho2.below hb3
    have hB3 : Below w.heap.size w w3 := (by repeat (first | exact Below.refl _ _ | assumption | (refine Below.trans ?_ (Below.mono (by assumption) (by first | omega | (simp <;> omega)))) | (refine Below.alloc ?_ (by first | omega | (simp <;> omega)) _) | (refine below_drewN ?_ _) | (refine Below.drew ?_) | (refine Below.setCell ?_ (by first | omega | (simp <;> omega)) _)))
    have hl8 := inners_len n s
    have HF := Lib.hid (fun h => inners_facts s.toNat n s (Nat.le_refl _) h)
    have HNo := Lib.hid (innersF_no (n := n) (s := s))
    generalize innersF n s = R at *
    obtain ⟨N, hN⟩ : ∃ N, R.length = N := ⟨_, rfl⟩
    obtain ⟨a1, cap1, rfl, H1⟩ := hp3.cells hN
    obtain ⟨a2, cap2, rfl, H2⟩ := ho3.cells hN
    rw [hN] at hl8 HF
    have HN := Lib.hid hN
    have lt3 := t3.lt
    clear hb1 hb2 hb3 ho2 ho3 hp3 hc hN t2 t2c t2d
    have hLt : Hid (tok n s = true → ∀ k, 1 ≤ k → k < N → (R.getD k (0, 0)).1 < (R.getD (k - 1) (0, 0)).1) := fun h => (HF.out h).2.2.2
    have hNt : Hid (1 ≤ N → tok n s = true) := fun h => by
      cases ht : tok n s with
      | true => rfl
      | false =>
        have e := HNo.out (by rw [ht]; simp)
        have := HN.out
        rw [e] at this
        simp at this
        omega
    go_wp2_with fail
    go_loopw [6] (fun x wr => ∃ k mq : Nat, x = .int .i64 k ∧ k ≤ N ∧ wr = w3.drewN mq) (fun x _ => N - (intOf x).toNat)
    case atStart => exact ⟨0, 0, rfl, by omega, rfl⟩
    case round =>
      obtain ⟨k, mq, rfl, hk, rfl⟩ := hrel
      by_cases hkn : k < N
      · obtain ⟨g1, rfl, k1⟩ := H1.out (by omega)
        obtain ⟨g2, rfl, k2⟩ := H2.out (by omega)
        cases k with
        | zero =>
          obtain ⟨p0, p1⟩ := k1 0 hkn
          obtain ⟨r0, r1⟩ := k2 0 hkn
          generalize (R.getD 0 (0, 0)).1 = X at *
          generalize (R.getD 0 (0, 0)).2 = Y at *
          have hkn' : (0 : Int) < N := by omega
          clear k1 k2
          simp only [Nat.zero_mul, Nat.zero_add] at p0 p1 r0 r1
          go_wp2_with fail
          go_quiet (fail)
          go_wp2_with fail
          go_roundw
          case rel => exact ⟨1, mq + nq, by rfl, by omega, by simp⟩
          case measure => simp only [intOf]; omega
        | succ j =>
          obtain ⟨p0, p1⟩ := k1 (j + 1) hkn
          obtain ⟨r0, r1⟩ := k2 (j + 1) hkn
          obtain ⟨o0, o1⟩ := k1 j (by omega)
          have hd := hLt.out (hNt.out (by omega)) (j + 1) (by omega) hkn
          rw [Nat.add_sub_cancel] at hd
          generalize (R.getD (j + 1) (0, 0)).1 = X at *
          generalize (R.getD (j + 1) (0, 0)).2 = Y at *
          generalize (R.getD j (0, 0)).1 = X' at *
          have hkn' : (j : Int) + 1 < N := by omega
          have hj0 : (0 : Int) < (j : Int) + 1 := by omega
          have hjn : (j : Int) < N := by omega
          have hd' : ¬ X' ≤ X := by omega
          clear k1 k2
          go_wp2_with fail
          go_quiet (fail)
          go_wp2_with fail
          go_roundw
          case rel => exact ⟨j + 1 + 1, mq + nq, by go_num, by omega, by simp⟩
          case measure => simp only [intOf]; omega
      · have hkN : k = N := by omega
        subst hkN
        have hkn' : decide ((k : Int) < k) = false := by simp
        have t4 : Two (w3.drewN mq) w1.heap.size (.int .i64 n) (.int .i64 s) 24 := t3.drewN mq
        have hB4 := below_drewN hB3 mq
        have q0 : ∀ g i, (w3.drewN mq).cell? ⟨g, i, none⟩ = w3.cell? ⟨g, i, none⟩ := fun g i => rfl
        by_cases hk0 : k = 0
        · subst hk0
          have e := HN.out
          have hR := List.length_eq_zero_iff.1 e
          have ht : tok n s = false := by
            cases ht : tok n s with
            | false => rfl
            | true =>
              have h2 := (HF.out ht).2.1
              rw [hR] at h2
              simp at h2
              have := tok_bd ht
              omega
          clear q0 HF hLt hNt HNo H1 H2 hkn'
          generalize w3.drewN mq = w4 at *
          have c0 := t4.cell0
          have c1 := t4.cell1
          go_wp2_with fail
          refine (turnOk_any _ _ _).mono ?_; rintro e w5 ⟨rfl, hb5⟩
          rw [ht]
          have hB5 := hB4.trans (hb5.mono hB4.size)
          go_wp2_with fail
          refine (alive_any _).mono ?_; rintro e w6 ⟨rfl, hb6⟩
          have hB6 := hB5.trans (hb6.mono hB5.size)
          go_wp2
          go_ret
          exact ⟨rfl, hB6⟩
        · obtain ⟨M, rfl⟩ : ∃ M, k = M + 1 := ⟨k - 1, by omega⟩
          obtain ⟨g1, rfl, k1⟩ := H1.out (by omega)
          obtain ⟨f1, f2, f3, _⟩ := HF.out (hNt.out (by omega))
          obtain ⟨p0, p1⟩ := k1 0 (by omega)
          obtain ⟨_, o1⟩ := k1 M (by omega)
          rw [Nat.add_sub_cancel] at f3
          rw [f2] at p0 p1
          rw [f3] at o1
          simp only [Nat.zero_mul, Nat.zero_add] at p0 p1
          have lg1 := World.block_lt_of_cell? w3 _ p0
          rw [← q0] at p0 p1 o1
          have hM0 : ¬ ((M : Int) + 1 = 0) := by omega
          have HQ : Hid ((quotF n s).length = M + 1) := f1.symm
          have hMb : M ≤ 8 := by omega
          have hwM : IntKind.i64.wrap (M : Int) = M := IntWalk.i64_in _ (by omega)
          have hwM2 : IntKind.i64.wrap ((M : Int) + 1 - 1) = M := by rw [show (M : Int) + 1 - 1 = M by omega]; exact hwM
          have hM1 : (M : Int) < (M : Int) + 1 := by omega
          have hM2 : M < M + 1 := by omega
          have lz : (w3.drewN mq).heap.size = w3.heap.size := rfl
          rw [← lz] at lg1
          clear lz k1 f1 f2 f3 HF hLt hNt HNo H1 H2 hkn' q0 t3 t3c t3d hB3
          generalize w3.drewN mq = w4 at *
          have c0 := t4.cell0
          have c1 := t4.cell1
          have lt4 := t4.lt
          go_wp2_with fail
          go_region_held3 (fun w' => w'.cell? ⟨w1.heap.size, 0, none⟩ = some (.int .i64 n) ∧ w'.cell? ⟨w1.heap.size, 1, none⟩ = some (.int .i64 s) ∧ w'.cell? ⟨g1, 0, none⟩ = some (.int .i64 n) ∧ w'.cell? ⟨g1, 1, none⟩ = some (.int .i64 s) ∧ w'.cell? ⟨g1, M * 2 + 1, none⟩ = some (.int .i64 1))
            (first | go_keep | exact ⟨t'c, t'd, z0, z1, z2⟩)
            (first
              | (go_at_call 50; refine (quotientsOf_any _ _ _).mono ?_; rintro e w' ⟨v7, rfl, ho7, hb'⟩; obtain ⟨a7, cap7, rfl, _⟩ := ho7.reads.cells HQ.out; have t' := Two.below (b := w1.heap.size) (x := .int .i64 n) (y := .int .i64 s) (T := 24) (by repeat (first | assumption | refine Two.drew1 ?_)) hb' (by first | omega | (simp <;> omega)); have t'c := t'.cell0; have t'd := t'.cell1; have z0 := (hb'.cell (p := ⟨g1, 0, none⟩) lg1).trans p0; have z1 := (hb'.cell (p := ⟨g1, 1, none⟩) lg1).trans p1; have z2 := (hb'.cell (p := ⟨g1, M * 2 + 1, none⟩) lg1).trans o1))
          have hB9 := (below_drewN hB4 1).trans (hb'.mono (below_drewN hB4 1).size)
          go_wp2
          go_ret
          exact ⟨rfl, hB9⟩

set_option maxRecDepth 100000 in
theorem lifted (os : Os) (started : os.Started) (H : Type) (enc : TypeId × Value → H) :
    ReturnsInHanded {} Try.checked os 12 .any (Rows.fnInnerTurnsSpec.pre6 enc Try.prog Try.f12 Rows.fnInnerTurnsRow.domain false) (Rows.fnInnerTurnsSpec.post enc Try.prog Try.f12 false true false false) := by
  refine returnsInHanded_of_change (C := Try.checked) own started (by kernel_rfl) Try.func12
    (ChangeSpec.witness6 (enc := enc) (C := Try.checked) false ⟨#[], #[.slice none 0 0], []⟩ 8 (by kernel_rfl) (by kernel_rfl) (by kernel_rfl) (by kernel_rfl)) ?_
  intro W base args ds gs before hval0 hW hcnd _
  have hval : ∀ (j : Nat) t v, Try.f12.params[j]? = some t → args[j]? = some v → Value.okWide Try.prog W .any base t v := hval0
  have hW' := hW
  obtain ⟨p, q, hA0, hV, rfl, hfz, hnd⟩ := hW
  have hA : DataW.TrodAll enc Try.prog W 0 (fun _ => true) true Try.f12.params.toList args.toList ds p := hA0
  rw [Try.params12] at hA hval
  obtain ⟨v0, vs0, d0, ds0, p0, q0, hargs, rfl, rfl, h0, r0⟩ := trodAll_cons hA
  obtain ⟨rfl, rfl, rfl⟩ := trodAll_nil r0
  obtain rfl : args = #[v0] := by cases args; simp_all
  obtain ⟨rfl, rfl⟩ := trodVars_none hV
  obtain ⟨acode, lencode, capcode, rfl⟩ := okWide_slice Try.underlying22 (hval 0 22 v0 rfl rfl)
  have k0 := h0
  have lt0 : ∀ x ∈ p0, x.block < W.heap.size := by obtain ⟨m, hm⟩ := k0; exact DataW.trod_lt m _ _ _ hm
  obtain ⟨zcode, rowcode⟩ : ∃ zs, IsRow .u8 W acode lencode capcode zs := by
    obtain ⟨fuel, hf⟩ := h0
    rcases open_ints Try.underlying22 Try.underlying5 (by kernel_rfl) hf with ⟨hcs, _⟩ | ⟨x, l, c, zs, hcs, _, hl, hm, hz, _, hcell, hwz⟩
    · simp [Value.cells] at hcs
      obtain ⟨rfl, rfl, rfl⟩ := hcs
      exact ⟨[], .inl ⟨rfl, rfl, rfl, rfl⟩⟩
    · simp [Value.cells] at hcs
      obtain ⟨rfl, rfl, rfl⟩ := hcs
      exact ⟨zs, .inr ⟨_, rfl, hl, hm, by simpa using hz, hcell, hwz⟩⟩
  clear hA0 hval0
  refine (walk acode lencode capcode zcode W rowcode).mono fun e W' ⟨he, bel⟩ => ?_
  subst he
  exact ⟨_, rfl, _, _, _, [], _, [], hW', trodAll_mk1 (shut_bool Try.underlying4 _), (trodAll_cons_mk (Below.trod laidOut (by kernel_rfl) (of_decide_eq_true (by kernel_rfl)) k0 bel lt0) trodAll_mk0), rfl, bel.frame _, fun h => by cases h⟩

theorem facts : joinedFacts Try.pinned.checked.prog 12 Try.f12 Rows.fnInnerTurnsSpec Rows.fnInnerTurnsRow = true := by
  simp only [joinedFacts, Bool.and_eq_true]
  repeat' apply And.intro
  all_goals first | rw [mayEnter_eq] | (rw [liftsFinal_eq]; kernel_rfl) | (rw [make_eq]; kernel_rfl) | kernel_rfl

theorem over : Rows.fnInnerTurnsRow.holds Try.pinned (OpenSpec.ofChange Rows.fnInnerTurnsSpec) :=
  OpenClaim.holds_of_wide 12 Try.f12 rfl rfl rfl rfl rfl rfl rfl ⟨rfl, rfl, rfl, rfl, rfl⟩ rfl rfl rfl rfl rfl (by kernel_rfl) Try.func12 facts
    (of_decide_eq_true (by kernel_rfl)) (by unfold Func.isWrapper; first | (rw [if_pos (by decide +kernel)]; kernel_rfl) | (rw [if_neg (by decide +kernel)]; exact ⟨rfl, rfl⟩))
    (fun os started H enc _ => lifted os started H enc)

theorem proved : Rows.FnInnerTurnsSaid := over
#print axioms proved
end Go.Proofs.Ytppahekbgbbidac.lawInnerTurns
