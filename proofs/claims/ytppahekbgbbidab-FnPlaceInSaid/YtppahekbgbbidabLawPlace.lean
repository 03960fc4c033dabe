/- Proves that FnPlaceIn returns true for every code, and leaves the code as it was. No conditions. -/
import Derived.Test.YtppahekbgbbidabHead
import Derived.Test.YtppahekbgbbidabDrawO
import Derived.Test.YtppahekbgbbidabGOrdC
import Derived.Test.YtppahekbgbbidabGFun2
import Derived.Test.YtppahekbgbbidabGFun
set_option linter.unusedVariables false
namespace Go.Proofs.Ytppahekbgbbidab.lawPlace
open Go.ChangeShapes Go.WideShapes Go.ChangeAt Go.RowKit Go.Joins N

set_option maxHeartbeats 2000000 in
theorem walk (a : Option Addr) (len cap : Nat) (z : List Int) (w : World) (row : IsRow .u8 w a len cap z) :
    Calls Try.prog 8 #[.slice a len cap] w fun e w' => e = .returned (.bool true) ∧ Below w.heap.size w w' := by
  
  have hc := CodeIn.of row
  clear row
  by_cases hl : 1048576 < len
  · have hl' : (1048576 : Int) < len := by omega
    go_enter Try.func8, Try.ntmps8
    go_wp2
    go_ret
    exact ⟨rfl, (by repeat (first | exact Below.refl _ _ | assumption | (refine Below.trans ?_ (Below.mono (by assumption) (by first | omega | (simp <;> omega)))) | (refine Below.alloc ?_ (by first | omega | (simp <;> omega)) _) | (refine below_drewN ?_ _) | (refine Below.drew ?_) | (refine Below.setCell ?_ (by first | omega | (simp <;> omega)) _)))⟩
  · have hl' : ¬ (1048576 : Int) < len := by omega
    go_enter Try.func8, Try.ntmps8
    go_wp2_with fail
    refine (drawPlaceIn_any a len cap _ hc (by omega)).mono ?_; rintro e w1 ⟨n, s, k, i, rfl, n0, n1, s0, s1, k0, k1, i0, i1, hb1⟩
    have hz1 := hb1.size
    try simp at hz1
    go_wp2_with fail
    refine (placeIn_any _ _ _ _ _).mono ?_; rintro e w2 ⟨rfl, hb2⟩
    have hz2 := hb2.size
    try simp at hz2
    have t2 : Two w2 (w1.heap.size) (.int .i64 n) (.int .i64 s) 24 := Two.below (by repeat (first | assumption | exact Two.new' _ _ _ _ _ (by simp) | refine Two.alloc ?_ _ | refine Two.drewN ?_ _)) hb2 (by first | omega | (simp <;> omega))
    have hlt2 : (w1.heap.size) < w2.heap.size := t2.lt
    have hnt2 : ¬ (w1.heap.size) = w2.heap.size := Nat.ne_of_lt hlt2
    have t2c := t2.cell0
    have t2d := t2.cell1
    go_wp2_with fail
    refine (specPlaceIn_any _ _ _ _ _).mono ?_; rintro e w3 ⟨rfl, hb3⟩
    have hz3 := hb3.size
    try simp at hz3
    have t3 : Two w3 (w1.heap.size) (.int .i64 n) (.int .i64 s) 24 := Two.below (by repeat (first | assumption | exact Two.new' _ _ _ _ _ (by simp) | refine Two.alloc ?_ _ | refine Two.drewN ?_ _)) hb3 (by first | omega | (simp <;> omega))
    have hlt3 : (w1.heap.size) < w3.heap.size := t3.lt
    have hnt3 : ¬ (w1.heap.size) = w3.heap.size := Nat.ne_of_lt hlt3
    have t3c := t3.cell0
    have t3d := t3.cell1
    by_cases h : tok n s = true ∧ 1 ≤ k ∧ k ≤ n ∧ 0 ≤ i ∧ i < k
    · obtain ⟨ht, h1, hm, c0, c1⟩ := h
      have hb := tok_bd ht
      obtain ⟨m, rfl⟩ := Int.eq_ofNat_of_zero_le (by omega : 0 ≤ k)
      obtain ⟨i, rfl⟩ := Int.eq_ofNat_of_zero_le c0
      rw [placeF_yes ht (by omega) hm (by omega)]
      obtain ⟨p1, p2, _⟩ := place_at ht hm (by omega : i < m)
      have hall := fun e => place_all (n := n) (s := s) ht (m := m) (t := i) e (by omega)
      have h0 := place_zero ht (by omega : 1 ≤ m) hm
      have E0 := Lib.hid (placeF_yes ht (by omega : 1 ≤ m) hm (by omega : 0 < m))
      rw [h0, Int.natCast_zero] at E0
      have EP := Lib.hid (pointF_yes (n := n) (s := s) ht (by omega : (0 : Int) ≤ i) (by omega))
      have hor := orderOf_any n s m
      rw [orderF_yes ht (by omega) hm] at hor
      have hlen := ordT_length n s m
      generalize lessT n s (pt n s i) m = p at *
      have hp0 : ¬ (p : Int) < 0 := by omega
      have hpm : (p : Int) < m := by omega
      have hpp : ((p : Int) != p) = false := by simp
      clear ht h0
      go_wp2_with fail
      refine (hor _).mono ?_; rintro e w4 ⟨v4, rfl, ho4, hb4⟩
      have hz4 := hb4.size
      try simp at hz4
      have t4 : Two w4 (w1.heap.size) (.int .i64 n) (.int .i64 s) 24 := Two.below (by repeat (first | assumption | exact Two.new' _ _ _ _ _ (by simp) | refine Two.alloc ?_ _ | refine Two.drewN ?_ _)) hb4 (by first | omega | (simp <;> omega))
      have hlt4 : (w1.heap.size) < w4.heap.size := t4.lt
      have hnt4 : ¬ (w1.heap.size) = w4.heap.size := Nat.ne_of_lt hlt4
      have t4c := t4.cell0
      have t4d := t4.cell1
      obtain ⟨g, cap4, rfl, HC0⟩ := (OwnL.reads ho4).cells hlen
      obtain ⟨g, off, rfl, HC⟩ := HC0 (by omega)
      have cp := HC.out p p1
      rw [p2] at cp
      have hB4 : Below w.heap.size w w4 := (by repeat (first | exact Below.refl _ _ | assumption | (refine Below.trans ?_ (Below.mono (by assumption) (by first | omega | (simp <;> omega)))) | (refine Below.alloc ?_ (by first | omega | (simp <;> omega)) _) | (refine below_drewN ?_ _) | (refine Below.drew ?_) | (refine Below.setCell ?_ (by first | omega | (simp <;> omega)) _)))
      have hii : ((i : Int) == i) = true := by simp
      clear HC0 HC ho4 hor
      by_cases hmn : (m : Int) = n
      · have hmn' : decide ((m : Int) < n) = false := by simp; omega
        have hpi := hall hmn
        have hpq : (pointF n s i == (p : Int)) = true := by rw [EP.out, hpi]; simp [pt]
        have HPQ := Lib.hid hpq
        clear hall hpi hmn hpq
        go_wp2_with fail
        refine (pointOf_any _ _ _ _).mono ?_; rintro e w5 ⟨rfl, hb5⟩
        have hz5 := hb5.size
        try simp at hz5
        have t5 : Two w5 (w1.heap.size) (.int .i64 n) (.int .i64 s) 24 := Two.below (by repeat (first | assumption | exact Two.new' _ _ _ _ _ (by simp) | refine Two.alloc ?_ _ | refine Two.drewN ?_ _)) hb5 (by first | omega | (simp <;> omega))
        have hlt5 : (w1.heap.size) < w5.heap.size := t5.lt
        have hnt5 : ¬ (w1.heap.size) = w5.heap.size := Nat.ne_of_lt hlt5
        have t5c := t5.cell0
        have t5d := t5.cell1
        rw [show pointF n s i = p by simpa using HPQ.out]
        go_wp2_with fail
        refine (placeIn_any _ _ _ _ _).mono ?_; rintro e w6 ⟨rfl, hb6⟩
        have hz6 := hb6.size
        try simp at hz6
        have t6 : Two w6 (w1.heap.size) (.int .i64 n) (.int .i64 s) 24 := Two.below (by repeat (first | assumption | exact Two.new' _ _ _ _ _ (by simp) | refine Two.alloc ?_ _ | refine Two.drewN ?_ _)) hb6 (by first | omega | (simp <;> omega))
        have hlt6 : (w1.heap.size) < w6.heap.size := t6.lt
        have hnt6 : ¬ (w1.heap.size) = w6.heap.size := Nat.ne_of_lt hlt6
        have t6c := t6.cell0
        have t6d := t6.cell1
        rw [E0.out]
        go_wp2
        go_ret
        exact ⟨rfl, (by repeat (first | exact Below.refl _ _ | assumption | (refine Below.trans ?_ (Below.mono (by assumption) (by first | omega | (simp <;> omega)))) | (refine Below.alloc ?_ (by first | omega | (simp <;> omega)) _) | (refine below_drewN ?_ _) | (refine Below.drew ?_) | (refine Below.setCell ?_ (by first | omega | (simp <;> omega)) _)))⟩
      · have hmn' : (m : Int) < n := by omega
        clear hall
        go_wp2_with fail
        refine (placeIn_any _ _ _ _ _).mono ?_; rintro e w5 ⟨rfl, hb5⟩
        have hz5 := hb5.size
        try simp at hz5
        have t5 : Two w5 (w1.heap.size) (.int .i64 n) (.int .i64 s) 24 := Two.below (by repeat (first | assumption | exact Two.new' _ _ _ _ _ (by simp) | refine Two.alloc ?_ _ | refine Two.drewN ?_ _)) hb5 (by first | omega | (simp <;> omega))
        have hlt5 : (w1.heap.size) < w5.heap.size := t5.lt
        have hnt5 : ¬ (w1.heap.size) = w5.heap.size := Nat.ne_of_lt hlt5
        have t5c := t5.cell0
        have t5d := t5.cell1
        rw [E0.out]
        go_wp2
        go_ret
        exact ⟨rfl, (by repeat (first | exact Below.refl _ _ | assumption | (refine Below.trans ?_ (Below.mono (by assumption) (by first | omega | (simp <;> omega)))) | (refine Below.alloc ?_ (by first | omega | (simp <;> omega)) _) | (refine below_drewN ?_ _) | (refine Below.drew ?_) | (refine Below.setCell ?_ (by first | omega | (simp <;> omega)) _)))⟩
    · rw [placeF_no h]
      go_wp2_with fail
      refine (alive_any _).mono ?_; rintro e w5 ⟨rfl, hb5⟩
      go_wp2
      go_ret
      exact ⟨rfl, (by repeat (first | exact Below.refl _ _ | assumption | (refine Below.trans ?_ (Below.mono (by assumption) (by first | omega | (simp <;> omega)))) | (refine Below.alloc ?_ (by first | omega | (simp <;> omega)) _) | (refine below_drewN ?_ _) | (refine Below.drew ?_) | (refine Below.setCell ?_ (by first | omega | (simp <;> omega)) _)))⟩

set_option maxRecDepth 100000 in
theorem lifted (os : Os) (started : os.Started) (H : Type) (enc : TypeId × Value → H) :
    ReturnsInHanded {} Try.checked os 8 .any (Rows.fnPlaceInSpec.pre6 enc Try.prog Try.f8 Rows.fnPlaceInRow.domain false) (Rows.fnPlaceInSpec.post enc Try.prog Try.f8 false true false false) := by
  refine returnsInHanded_of_change (C := Try.checked) own started (by kernel_rfl) Try.func8
    (ChangeSpec.witness6 (enc := enc) (C := Try.checked) false ⟨#[], #[.slice none 0 0], []⟩ 8 (by kernel_rfl) (by kernel_rfl) (by kernel_rfl) (by kernel_rfl)) ?_
  intro W base args ds gs before hval0 hW hcnd _
  have hval : ∀ (j : Nat) t v, Try.f8.params[j]? = some t → args[j]? = some v → Value.okWide Try.prog W .any base t v := hval0
  have hW' := hW
  obtain ⟨p, q, hA0, hV, rfl, hfz, hnd⟩ := hW
  have hA : DataW.TrodAll enc Try.prog W 0 (fun _ => true) true Try.f8.params.toList args.toList ds p := hA0
  rw [Try.params8] at hA hval
  obtain ⟨v0, vs0, d0, ds0, p0, q0, hargs, rfl, rfl, h0, r0⟩ := trodAll_cons hA
  obtain ⟨rfl, rfl, rfl⟩ := trodAll_nil r0
  obtain rfl : args = #[v0] := by cases args; simp_all
  obtain ⟨rfl, rfl⟩ := trodVars_none hV
  obtain ⟨acode, lencode, capcode, rfl⟩ := okWide_slice Try.underlying22 (hval 0 22 v0 rfl rfl)
  have k0 := h0
  have lt0 : ∀ x ∈ p0, x.block < W.heap.size := by obtain ⟨m, hm⟩ := k0; exact DataW.trod_lt m _ _ _ hm
  obtain ⟨zcode, rowcode⟩ : ∃ zs, IsRow .u8 W acode lencode capcode zs := by
    obtain ⟨fuel, hf⟩ := h0
    rcases open_ints Try.underlying22 Try.underlying5 (by kernel_rfl) hf with ⟨hcs, _⟩ | ⟨x, l, c, zs, hcs, _, hl, hm, hz, _, hcell, hwz⟩
    · simp [Value.cells] at hcs
      obtain ⟨rfl, rfl, rfl⟩ := hcs
      exact ⟨[], .inl ⟨rfl, rfl, rfl, rfl⟩⟩
    · simp [Value.cells] at hcs
      obtain ⟨rfl, rfl, rfl⟩ := hcs
      exact ⟨zs, .inr ⟨_, rfl, hl, hm, by simpa using hz, hcell, hwz⟩⟩
  clear hA0 hval0
  refine (walk acode lencode capcode zcode W rowcode).mono fun e W' ⟨he, bel⟩ => ?_
  subst he
  exact ⟨_, rfl, _, _, _, [], _, [], hW', trodAll_mk1 (shut_bool Try.underlying4 _), (trodAll_cons_mk (Below.trod laidOut (by kernel_rfl) (of_decide_eq_true (by kernel_rfl)) k0 bel lt0) trodAll_mk0), rfl, bel.frame _, fun h => by cases h⟩

theorem facts : joinedFacts Try.pinned.checked.prog 8 Try.f8 Rows.fnPlaceInSpec Rows.fnPlaceInRow = true := by
  simp only [joinedFacts, Bool.and_eq_true]
  repeat' apply And.intro
  all_goals first | rw [mayEnter_eq] | (rw [liftsFinal_eq]; kernel_rfl) | (rw [make_eq]; kernel_rfl) | kernel_rfl

theorem over : Rows.fnPlaceInRow.holds Try.pinned (OpenSpec.ofChange Rows.fnPlaceInSpec) :=
  OpenClaim.holds_of_wide 8 Try.f8 rfl rfl rfl rfl rfl rfl rfl ⟨rfl, rfl, rfl, rfl, rfl⟩ rfl rfl rfl rfl rfl (by kernel_rfl) Try.func8 facts
    (of_decide_eq_true (by kernel_rfl)) (by unfold Func.isWrapper; first | (rw [if_pos (by decide +kernel)]; kernel_rfl) | (rw [if_neg (by decide +kernel)]; exact ⟨rfl, rfl⟩))
    (fun os started H enc _ => lifted os started H enc)

theorem proved : Rows.FnPlaceInSaid := over
#print axioms proved
end Go.Proofs.Ytppahekbgbbidab.lawPlace
