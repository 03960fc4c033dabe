/- Proves that FnBackTurn returns true for every code, and leaves the code as it was. No conditions. -/
import Derived.Test.YtppahekbgbbidaaHead
import Derived.Test.YtppahekbgbbidaaGFun2
import Derived.Test.YtppahekbgbbidaaGDraw
import Derived.Test.YtppahekbgbbidaaGMath
set_option linter.unusedVariables false
namespace Go.Proofs.Ytppahekbgbbidaa.law5
open Go.ChangeShapes Go.WideShapes Go.ChangeAt Go.RowKit Go.Joins

set_option maxHeartbeats 1000000 in
theorem walk (a : Option Addr) (len cap : Nat) (z : List Int) (w : World) (row : IsRow .u8 w a len cap z) :
    Calls Try.prog 3 #[.slice a len cap] w fun e w' => e = .returned (.bool true) ∧ Below w.heap.size w w' := by
  
  have hc := CodeIn.of row
  clear row
  by_cases hl : 1048576 < len
  · have hl' : (1048576 : Int) < len := by omega
    go_enter Try.func3, Try.ntmps3
    go_wp2
    go_ret
    exact ⟨rfl, (by repeat (first | exact Below.refl _ _ | assumption | (refine Below.trans ?_ (Below.mono (by assumption) (by first | omega | (simp <;> omega)))) | (refine Below.alloc ?_ (by first | omega | (simp <;> omega)) _) | (refine below_drewN ?_ _) | (refine Below.drew ?_) | (refine Below.setCell ?_ (by first | omega | (simp <;> omega)) _)))⟩
  · have hl' : ¬ (1048576 : Int) < len := by omega
    go_enter Try.func3, Try.ntmps3
    go_wp2_with fail
    refine (drawBackTurn_any a len cap _ hc (by omega)).mono ?_; rintro e w1 ⟨n, s, rfl, n0, n1, s0, s1, hb1⟩
    have hz1 := hb1.size
    try simp at hz1
    go_wp2_with fail
    refine (backTurn_any _ _ _).mono ?_; rintro e w2 ⟨rfl, hb2⟩
    have hz2 := hb2.size
    try simp at hz2
    have t2 : Two w2 (w1.heap.size) (.int .i64 n) (.int .i64 s) 24 := Two.below (by repeat (first | assumption | exact Two.new' _ _ _ _ _ (by simp) | refine Two.alloc ?_ _ | refine Two.drewN ?_ _)) hb2 (by first | omega | (simp <;> omega))
    have hlt2 : (w1.heap.size) < w2.heap.size := t2.lt
    have hnt2 : ¬ (w1.heap.size) = w2.heap.size := Nat.ne_of_lt hlt2
    have t2c := t2.cell0
    have t2d := t2.cell1
    by_cases ht : tok n s = true
    · have hb := tok_bd ht
      have E2 := Lib.hid (backT_yes ht)
      have E5 := Lib.hid ((tok_back (n := n) (s := s)).trans ht)
      have E3 := Lib.hid (backT_yes E5.out)
      have E4 : Hid (n - (n - s) = s) := Lib.hid (by omega)
      rw [E2.out]
      go_wp2_with fail
      have u2 : Two (w2.alloc (Obj.cells #[Value.int IntKind.i64 n, Value.int IntKind.i64 (n - s)] 24)) w2.heap.size (.int .i64 n) (.int .i64 (n - s)) 24 := Two.new _ _ _ _
      have t2a := t2.alloc (Obj.cells #[Value.int IntKind.i64 n, Value.int IntKind.i64 (n - s)] 24)
      have u2c := u2.cell0
      have u2d := u2.cell1
      have t2ac := t2a.cell0
      have t2ad := t2a.cell1
      go_region_held3 (fun w' => w'.cell? ⟨w1.heap.size, 0, none⟩ = some (.int .i64 n) ∧ w'.cell? ⟨w1.heap.size, 1, none⟩ = some (.int .i64 s) ∧ w'.cell? ⟨w2.heap.size, 0, none⟩ = some (.int .i64 n) ∧ w'.cell? ⟨w2.heap.size, 1, none⟩ = some (.int .i64 (n - s))) (first | go_keep | exact ⟨t'c, t'd, u'c, u'd⟩ | exact ⟨((t'.set (b := _) (by omega) 0 _).set (b := _) (by omega) 1 _).cell0, ((t'.set (b := _) (by omega) 0 _).set (b := _) (by omega) 1 _).cell1, ((u'.set (b := _) (by omega) 0 _).set (b := _) (by omega) 1 _).cell0, ((u'.set (b := _) (by omega) 0 _).set (b := _) (by omega) 1 _).cell1⟩) (first | (go_at_call 19; refine (specBackTurn_any n s _).mono ?_; rintro e w' ⟨rfl, hb'⟩; have t' := Two.below (b := w1.heap.size) (x := .int .i64 n) (y := .int .i64 s) (T := 24) (by repeat (first | assumption | refine Two.alloc ?_ _)) hb' (by first | omega | (simp <;> omega)); have lt' := t'.lt; have t'c := t'.cell0; have t'd := t'.cell1; have u' := Two.below (b := w2.heap.size) (x := .int .i64 n) (y := .int .i64 (n - s)) (T := 24) (by repeat (first | assumption | refine Two.alloc ?_ _)) hb' (by first | omega | (simp <;> omega)); have lu' := u'.lt; have u'c := u'.cell0; have u'd := u'.cell1; rw [E2.out]))
      have lt' : w1.heap.size < w'.heap.size := t'.lt
      go_wp2_with fail
      refine (specTurnOk_any _ _ _).mono ?_; rintro e w4 ⟨rfl, hb4⟩
      have hz4 := hb4.size
      try simp at hz4
      have t4 : Two w4 (w1.heap.size) (.int .i64 n) (.int .i64 s) 24 := Two.below (by repeat (first | assumption | exact Two.new' _ _ _ _ _ (by simp) | refine Two.alloc ?_ _ | refine Two.drewN ?_ _)) hb4 (by first | omega | (simp <;> omega))
      have hlt4 : (w1.heap.size) < w4.heap.size := t4.lt
      have hnt4 : ¬ (w1.heap.size) = w4.heap.size := Nat.ne_of_lt hlt4
      have t4c := t4.cell0
      have t4d := t4.cell1
      have u4 : Two w4 (w2.heap.size) (.int .i64 n) (.int .i64 (n - s)) 24 := Two.below (by repeat (first | assumption | exact Two.new' _ _ _ _ _ (by simp) | refine Two.alloc ?_ _ | refine Two.drewN ?_ _)) hb4 (by first | omega | (simp <;> omega))
      have hlu4 : (w2.heap.size) < w4.heap.size := u4.lt
      have hnu4 : ¬ (w2.heap.size) = w4.heap.size := Nat.ne_of_lt hlu4
      have u4c := u4.cell0
      have u4d := u4.cell1
      rw [ht]
      have hB4 : Below w.heap.size w w4 := (by repeat (first | exact Below.refl _ _ | assumption | (refine Below.trans ?_ (Below.mono (by assumption) (by first | omega | (simp <;> omega)))) | (refine Below.alloc ?_ (by first | omega | (simp <;> omega)) _) | (refine below_drewN ?_ _) | (refine Below.drew ?_) | (refine Below.setCell ?_ (by first | omega | (simp <;> omega)) _)))
      have HT := Lib.hid ht
      clear ht t2 u2 t2a u2c u2d t2ac t2ad t' u' t2c t2d t'c t'd u'c u'd hb' hb2 hb4 t4c t4d u4c u4d
      go_wp2_with fail
      go_loopw [5] (fun x wr => ∃ k : Int, x = .int .i64 k ∧ 1 ≤ k ∧ k ≤ n ∧ Two wr w1.heap.size (.int .i64 n) (.int .i64 s) 24 ∧ Two wr w2.heap.size (.int .i64 n) (.int .i64 (n - s)) 24 ∧ Below w.heap.size w wr) (fun x _ => (n - intOf x).toNat)
      case atStart => exact ⟨1, rfl, by omega, by omega, t4, u4, hB4⟩
      case round =>
        obtain ⟨k, rfl, k1, k2, t5, u5, hB5⟩ := hrel
        clear t4 u4 hB4
        have lt5 := t5.lt
        have lu5 := u5.lt
        have c1 := t5.cell0
        have c2 := t5.cell1
        have c3 := u5.cell0
        have c4 := u5.cell1
        by_cases hk : k < n
        · have wr : IntKind.i64.wrap (pointF n s k + pointF n (n - s) k) = n := by
            rw [back_points HT.out k1 hk]; exact IntWalk.i64_in _ (by omega)
          have k0 : 0 ≤ k := by omega
          go_wp2_with fail
          go_region_held3 (fun w' => w'.cell? ⟨w1.heap.size, 0, none⟩ = some (.int .i64 n) ∧ w'.cell? ⟨w1.heap.size, 1, none⟩ = some (.int .i64 s) ∧ w'.cell? ⟨w2.heap.size, 0, none⟩ = some (.int .i64 n) ∧ w'.cell? ⟨w2.heap.size, 1, none⟩ = some (.int .i64 (n - s))) (first | go_keep | exact ⟨t'c, t'd, u'c, u'd⟩ | exact ⟨((t'.set (b := _) (by omega) 0 _).set (b := _) (by omega) 1 _).cell0, ((t'.set (b := _) (by omega) 0 _).set (b := _) (by omega) 1 _).cell1, ((u'.set (b := _) (by omega) 0 _).set (b := _) (by omega) 1 _).cell0, ((u'.set (b := _) (by omega) 0 _).set (b := _) (by omega) 1 _).cell1⟩) (first | (go_at_call 22; refine (pointOf_any _ _ _ _).mono ?_; rintro e w' ⟨rfl, hb'⟩; have t' := Two.below (b := w1.heap.size) (x := .int .i64 n) (y := .int .i64 s) (T := 24) (by repeat (first | assumption | refine Two.alloc ?_ _)) hb' (by first | omega | (simp <;> omega)); have lt' := t'.lt; have t'c := t'.cell0; have t'd := t'.cell1; have u' := Two.below (b := w2.heap.size) (x := .int .i64 n) (y := .int .i64 (n - s)) (T := 24) (by repeat (first | assumption | refine Two.alloc ?_ _)) hb' (by first | omega | (simp <;> omega)); have lu' := u'.lt; have u'c := u'.cell0; have u'd := u'.cell1; skip))
          go_wp2
          go_roundw
          case rel => exact ⟨k + 1, by go_num, by omega, by omega, t', u', (by repeat (first | exact Below.refl _ _ | assumption | (refine Below.trans ?_ (Below.mono (by assumption) (by first | omega | (simp <;> omega)))) | (refine Below.alloc ?_ (by first | omega | (simp <;> omega)) _) | (refine below_drewN ?_ _) | (refine Below.drew ?_) | (refine Below.setCell ?_ (by first | omega | (simp <;> omega)) _)))⟩
          case measure => simp only [intOf]; omega
        · go_wp2_with fail
          go_region_held3 (fun w' => w'.cell? ⟨w1.heap.size, 0, none⟩ = some (.int .i64 n) ∧ w'.cell? ⟨w1.heap.size, 1, none⟩ = some (.int .i64 s) ∧ w'.cell? ⟨w2.heap.size, 0, none⟩ = some (.int .i64 n) ∧ w'.cell? ⟨w2.heap.size, 1, none⟩ = some (.int .i64 (n - s))) (first | go_keep | exact ⟨t'c, t'd, u'c, u'd⟩ | exact ⟨((t'.set (b := _) (by omega) 0 _).set (b := _) (by omega) 1 _).cell0, ((t'.set (b := _) (by omega) 0 _).set (b := _) (by omega) 1 _).cell1, ((u'.set (b := _) (by omega) 0 _).set (b := _) (by omega) 1 _).cell0, ((u'.set (b := _) (by omega) 0 _).set (b := _) (by omega) 1 _).cell1⟩) (first | (go_at_call 23; refine (turnOk_any n (n - s) _).mono ?_; rintro e w' ⟨rfl, hb'⟩; have t' := Two.below (b := w1.heap.size) (x := .int .i64 n) (y := .int .i64 s) (T := 24) (by repeat (first | assumption | refine Two.alloc ?_ _)) hb' (by first | omega | (simp <;> omega)); have lt' := t'.lt; have t'c := t'.cell0; have t'd := t'.cell1; have u' := Two.below (b := w2.heap.size) (x := .int .i64 n) (y := .int .i64 (n - s)) (T := 24) (by repeat (first | assumption | refine Two.alloc ?_ _)) hb' (by first | omega | (simp <;> omega)); have lu' := u'.lt; have u'c := u'.cell0; have u'd := u'.cell1; rw [E5.out]) | (go_at_call 18; refine (backTurn_any n (n - s) _).mono ?_; rintro e w' ⟨rfl, hb'⟩; have t' := Two.below (b := w1.heap.size) (x := .int .i64 n) (y := .int .i64 s) (T := 24) (by repeat (first | assumption | refine Two.alloc ?_ _)) hb' (by first | omega | (simp <;> omega)); have lt' := t'.lt; have t'c := t'.cell0; have t'd := t'.cell1; have u' := Two.below (b := w2.heap.size) (x := .int .i64 n) (y := .int .i64 (n - s)) (T := 24) (by repeat (first | assumption | refine Two.alloc ?_ _)) hb' (by first | omega | (simp <;> omega)); have lu' := u'.lt; have u'c := u'.cell0; have u'd := u'.cell1; rw [E3.out, E4.out]))
          go_wp2
          go_ret
          exact ⟨rfl, (by repeat (first | exact Below.refl _ _ | assumption | (refine Below.trans ?_ (Below.mono (by assumption) (by first | omega | (simp <;> omega)))) | (refine Below.alloc ?_ (by first | omega | (simp <;> omega)) _) | (refine below_drewN ?_ _) | (refine Below.drew ?_) | (refine Below.setCell ?_ (by first | omega | (simp <;> omega)) _)))⟩
    · have ht' : tok n s = false := by simpa using ht
      have E2 := Lib.hid (backT_no ht)
      rw [E2.out]
      go_wp2_with fail
      have u2 : Two (w2.alloc (Obj.cells #[Value.int IntKind.i64 0, Value.int IntKind.i64 0] 24)) w2.heap.size (.int .i64 0) (.int .i64 0) 24 := Two.new _ _ _ _
      have t2a := t2.alloc (Obj.cells #[Value.int IntKind.i64 0, Value.int IntKind.i64 0] 24)
      have u2c := u2.cell0
      have u2d := u2.cell1
      have t2ac := t2a.cell0
      have t2ad := t2a.cell1
      go_region_held3 (fun w' => w'.cell? ⟨w1.heap.size, 0, none⟩ = some (.int .i64 n) ∧ w'.cell? ⟨w1.heap.size, 1, none⟩ = some (.int .i64 s) ∧ w'.cell? ⟨w2.heap.size, 0, none⟩ = some (.int .i64 0) ∧ w'.cell? ⟨w2.heap.size, 1, none⟩ = some (.int .i64 0)) (first | go_keep | exact ⟨t'c, t'd, u'c, u'd⟩ | exact ⟨((t'.set (b := _) (by omega) 0 _).set (b := _) (by omega) 1 _).cell0, ((t'.set (b := _) (by omega) 0 _).set (b := _) (by omega) 1 _).cell1, ((u'.set (b := _) (by omega) 0 _).set (b := _) (by omega) 1 _).cell0, ((u'.set (b := _) (by omega) 0 _).set (b := _) (by omega) 1 _).cell1⟩) (first | (go_at_call 19; refine (specBackTurn_any n s _).mono ?_; rintro e w' ⟨rfl, hb'⟩; have t' := Two.below (b := w1.heap.size) (x := .int .i64 n) (y := .int .i64 s) (T := 24) (by repeat (first | assumption | refine Two.alloc ?_ _)) hb' (by first | omega | (simp <;> omega)); have lt' := t'.lt; have t'c := t'.cell0; have t'd := t'.cell1; have u' := Two.below (b := w2.heap.size) (x := .int .i64 0) (y := .int .i64 0) (T := 24) (by repeat (first | assumption | refine Two.alloc ?_ _)) hb' (by first | omega | (simp <;> omega)); have lu' := u'.lt; have u'c := u'.cell0; have u'd := u'.cell1; rw [E2.out]))
      have lt' : w1.heap.size < w'.heap.size := t'.lt
      go_wp2_with fail
      refine (specTurnOk_any _ _ _).mono ?_; rintro e w4 ⟨rfl, hb4⟩
      have hz4 := hb4.size
      try simp at hz4
      have t4 : Two w4 (w1.heap.size) (.int .i64 n) (.int .i64 s) 24 := Two.below (by repeat (first | assumption | exact Two.new' _ _ _ _ _ (by simp) | refine Two.alloc ?_ _ | refine Two.drewN ?_ _)) hb4 (by first | omega | (simp <;> omega))
      have hlt4 : (w1.heap.size) < w4.heap.size := t4.lt
      have hnt4 : ¬ (w1.heap.size) = w4.heap.size := Nat.ne_of_lt hlt4
      have t4c := t4.cell0
      have t4d := t4.cell1
      have u4 : Two w4 (w2.heap.size) (.int .i64 0) (.int .i64 0) 24 := Two.below (by repeat (first | assumption | exact Two.new' _ _ _ _ _ (by simp) | refine Two.alloc ?_ _ | refine Two.drewN ?_ _)) hb4 (by first | omega | (simp <;> omega))
      have hlu4 : (w2.heap.size) < w4.heap.size := u4.lt
      have hnu4 : ¬ (w2.heap.size) = w4.heap.size := Nat.ne_of_lt hlu4
      have u4c := u4.cell0
      have u4d := u4.cell1
      rw [ht']
      go_wp2_with fail
      refine (alive_any _).mono ?_; rintro e w5 ⟨rfl, hb5⟩
      have hz5 := hb5.size
      try simp at hz5
      go_wp2
      go_ret
      exact ⟨rfl, (by repeat (first | exact Below.refl _ _ | assumption | (refine Below.trans ?_ (Below.mono (by assumption) (by first | omega | (simp <;> omega)))) | (refine Below.alloc ?_ (by first | omega | (simp <;> omega)) _) | (refine below_drewN ?_ _) | (refine Below.drew ?_) | (refine Below.setCell ?_ (by first | omega | (simp <;> omega)) _)))⟩

set_option maxRecDepth 100000 in
theorem lifted (os : Os) (started : os.Started) (H : Type) (enc : TypeId × Value → H) :
    ReturnsInHanded {} Try.checked os 3 .any (Rows.fnBackTurnSpec.pre6 enc Try.prog Try.f3 Rows.fnBackTurnRow.domain false) (Rows.fnBackTurnSpec.post enc Try.prog Try.f3 false true false false) := by
  refine returnsInHanded_of_change (C := Try.checked) own started (by kernel_rfl) Try.func3
    (ChangeSpec.witness6 (enc := enc) (C := Try.checked) false ⟨#[], #[.slice none 0 0], []⟩ 8 (by kernel_rfl) (by kernel_rfl) (by kernel_rfl) (by kernel_rfl)) ?_
  intro W base args ds gs before hval0 hW hcnd _
  have hval : ∀ (j : Nat) t v, Try.f3.params[j]? = some t → args[j]? = some v → Value.okWide Try.prog W .any base t v := hval0
  have hW' := hW
  obtain ⟨p, q, hA0, hV, rfl, hfz, hnd⟩ := hW
  have hA : DataW.TrodAll enc Try.prog W 0 (fun _ => true) true Try.f3.params.toList args.toList ds p := hA0
  rw [Try.params3] at hA hval
  obtain ⟨v0, vs0, d0, ds0, p0, q0, hargs, rfl, rfl, h0, r0⟩ := trodAll_cons hA
  obtain ⟨rfl, rfl, rfl⟩ := trodAll_nil r0
  obtain rfl : args = #[v0] := by cases args; simp_all
  obtain ⟨rfl, rfl⟩ := trodVars_none hV
  obtain ⟨acode, lencode, capcode, rfl⟩ := okWide_slice Try.underlying22 (hval 0 22 v0 rfl rfl)
  have k0 := h0
  have lt0 : ∀ x ∈ p0, x.block < W.heap.size := by obtain ⟨m, hm⟩ := k0; exact DataW.trod_lt m _ _ _ hm
  obtain ⟨zcode, rowcode⟩ : ∃ zs, IsRow .u8 W acode lencode capcode zs := by
    obtain ⟨fuel, hf⟩ := h0
    rcases open_ints Try.underlying22 Try.underlying5 (by kernel_rfl) hf with ⟨hcs, _⟩ | ⟨x, l, c, zs, hcs, _, hl, hm, hz, _, hcell, hwz⟩
    · simp [Value.cells] at hcs
      obtain ⟨rfl, rfl, rfl⟩ := hcs
      exact ⟨[], .inl ⟨rfl, rfl, rfl, rfl⟩⟩
    · simp [Value.cells] at hcs
      obtain ⟨rfl, rfl, rfl⟩ := hcs
      exact ⟨zs, .inr ⟨_, rfl, hl, hm, by simpa using hz, hcell, hwz⟩⟩
  clear hA0 hval0
  refine (walk acode lencode capcode zcode W rowcode).mono fun e W' ⟨he, bel⟩ => ?_
  subst he
  exact ⟨_, rfl, _, _, _, [], _, [], hW', trodAll_mk1 (shut_bool Try.underlying4 _), (trodAll_cons_mk (Below.trod laidOut (by kernel_rfl) (of_decide_eq_true (by kernel_rfl)) k0 bel lt0) trodAll_mk0), rfl, bel.frame _, fun h => by cases h⟩

theorem facts : joinedFacts Try.pinned.checked.prog 3 Try.f3 Rows.fnBackTurnSpec Rows.fnBackTurnRow = true := by
  simp only [joinedFacts, Bool.and_eq_true]
  repeat' apply And.intro
  all_goals first | rw [mayEnter_eq] | (rw [liftsFinal_eq]; kernel_rfl) | (rw [make_eq]; kernel_rfl) | kernel_rfl

theorem over : Rows.fnBackTurnRow.holds Try.pinned (OpenSpec.ofChange Rows.fnBackTurnSpec) :=
  OpenClaim.holds_of_wide 3 Try.f3 rfl rfl rfl rfl rfl rfl rfl ⟨rfl, rfl, rfl, rfl, rfl⟩ rfl rfl rfl rfl rfl (by kernel_rfl) Try.func3 facts
    (of_decide_eq_true (by kernel_rfl)) (by unfold Func.isWrapper; first | (rw [if_pos (by decide +kernel)]; kernel_rfl) | (rw [if_neg (by decide +kernel)]; exact ⟨rfl, rfl⟩))
    (fun os started H enc _ => lifted os started H enc)

theorem proved : Rows.FnBackTurnSaid := over
#print axioms proved
end Go.Proofs.Ytppahekbgbbidaa.law5
