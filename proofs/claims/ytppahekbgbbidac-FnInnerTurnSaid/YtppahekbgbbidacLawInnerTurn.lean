/- Proves that FnInnerTurn returns true for every code, and leaves the code as it was. No conditions. -/
import Derived.Test.YtppahekbgbbidacHead
import Derived.Test.YtppahekbgbbidacInns
import Derived.Test.YtppahekbgbbidacDrawN
import Derived.Test.YtppahekbgbbidacGFun2
set_option linter.unusedVariables false
namespace Go.Proofs.Ytppahekbgbbidac.lawInnerTurn

set_option maxRecDepth 4000
open Go.ChangeShapes Go.WideShapes Go.ChangeAt Go.RowKit Go.Joins

/-- a list without its first number -/
theorem reads_tail {w : World} {g N cap : Nat} {xs : List Int} (h : Reads w (.slice (some ⟨g, 0, none⟩) N cap) xs) (hN : xs.length = N) (h1 : 1 < N) : Reads w (.slice (some ⟨g, 1, none⟩) (N - 1) (cap - 1)) (xs.drop 1) := by
  obtain ⟨a, c, e, h2⟩ := h
  injection e with e1 e2 e3
  subst e1 e3
  have hne : xs ≠ [] := fun e => by rw [e] at hN; simp at hN; omega
  obtain ⟨g', off, e4, h3⟩ := h2 hne
  injection e4 with e4
  injection e4 with e5 e6
  subst e5 e6
  refine ⟨_, _, by rw [List.length_drop, hN], fun _ => ⟨g, 1, rfl, fun i hi => ?_⟩⟩
  rw [List.length_drop] at hi
  have := h3 (1 + i) (by omega)
  rw [Nat.zero_add] at this
  rw [this, Nat.add_comm 1 i]
  simp [List.getD_eq_getElem?_getD]

set_option maxHeartbeats 4000000 in
theorem walk (a : Option Addr) (len cap : Nat) (z : List Int) (w : World) (row : IsRow .u8 w a len cap z) :
    Calls Try.prog 11 #[.slice a len cap] w fun e w' => e = .returned (.bool true) ∧ Below w.heap.size w w' := by
  have hc := CodeIn.of row
  clear row
  by_cases hl : 1048576 < len
  · have hl' : (1048576 : Int) < len := by omega
    go_enter Try.func11, Try.ntmps11
    go_wp2
    go_ret
    exact ⟨rfl, (by repeat (first | exact Below.refl _ _ | assumption | (refine Below.trans ?_ (Below.mono (by assumption) (by first | omega | (simp <;> omega)))) | (refine Below.alloc ?_ (by first | omega | (simp <;> omega)) _) | (refine below_drewN ?_ _) | (refine Below.drew ?_) | (refine Below.setCell ?_ (by first | omega | (simp <;> omega)) _)))⟩
  · have hl' : ¬ (1048576 : Int) < len := by omega
    
    go_enter Try.func11, Try.ntmps11
    go_wp2_with fail
    refine (drawInnerTurn_any a len cap _ hc (by omega)).mono ?_; rintro e w1 ⟨n, s, rfl, n0, n1, s0, s1, hb1⟩
    have hz1 := hb1.size
    try simp at hz1
    have hs := specInnerTurn_any n s
    have hi := innerTurn_any n s
    unfold InnPost at hs hi
    obtain ⟨p, hp⟩ : ∃ p, (innF n s).1 = p := ⟨_, rfl⟩
    obtain ⟨q, hq⟩ : ∃ q, (innF n s).2 = q := ⟨_, rfl⟩
    obtain ⟨ok, hok⟩ : ∃ ok, innP n s = ok := ⟨_, rfl⟩
    rw [hp, hq, hok] at hs hi
    have HS := Lib.hid hs
    have HI := Lib.hid hi
    have HP := Lib.hid hp
    have HQ := Lib.hid hq
    have HK := Lib.hid hok
    clear hs hi hp hq hok
    have x1 : Two (w1.alloc (.cells #[.int .i64 n, .int .i64 s] 24)) w1.heap.size (.int .i64 n) (.int .i64 s) 24 := Two.new _ _ _ _
    have hB1 : Below w.heap.size w (w1.alloc (.cells #[.int .i64 n, .int .i64 s] 24)) := (by repeat (first | exact Below.refl _ _ | assumption | (refine Below.trans ?_ (Below.mono (by assumption) (by first | omega | (simp <;> omega)))) | (refine Below.alloc ?_ (by first | omega | (simp <;> omega)) _) | (refine below_drewN ?_ _) | (refine Below.drew ?_) | (refine Below.setCell ?_ (by first | omega | (simp <;> omega)) _)))
    clear hb1 hc
    go_wp2_with fail
    refine (HI.out _).mono ?_; rintro e w2 ⟨rfl, hb2⟩
    have t2 := x1.below hb2 x1.lt
    have hB2 := hB1.trans (hb2.mono hB1.size)
    have u3 : Two (w2.alloc (.cells #[.int .i64 p, .int .i64 q] 24)) w2.heap.size (.int .i64 p) (.int .i64 q) 24 := Two.new _ _ _ _
    have t3 := t2.alloc (.cells #[.int .i64 p, .int .i64 q] 24)
    have hB3 := hB2.alloc hB2.size (.cells #[.int .i64 p, .int .i64 q] 24)
    have lw2 := t2.lt
    have c0 := t3.cell0
    have c1 := t3.cell1
    clear hb2 x1 hB1 t2 hB2
    go_wp2_with fail
    refine (HS.out _).mono ?_; rintro e w4 ⟨rfl, hb4⟩
    have t4 := t3.below hb4 t3.lt
    have u4 := u3.below hb4 u3.lt
    have hB4 := hB3.trans (hb4.mono hB3.size)
    have lw4 := u4.lt
    have v5 : Two (w4.alloc (.cells #[.int .i64 p, .int .i64 q] 24)) w4.heap.size (.int .i64 p) (.int .i64 q) 24 := Two.new _ _ _ _
    have t5 := t4.alloc (.cells #[.int .i64 p, .int .i64 q] 24)
    have u5 := u4.alloc (.cells #[.int .i64 p, .int .i64 q] 24)
    have hB5 := hB4.alloc hB4.size (.cells #[.int .i64 p, .int .i64 q] 24)
    clear hb4 t3 u3 hB3 t4 u4 hB4 c0 c1
    have a0 := t5.cell0
    have a1 := t5.cell1
    have b0 := u5.cell0
    have b1 := u5.cell1
    have d0 := v5.cell0
    have d1 := v5.cell1
    have hnn : (ok != ok) = false := by simp
    by_cases hc : tok n s = true ∧ 2 ≤ s
    · obtain ⟨ht, h2⟩ := hc
      obtain ⟨g1, g2⟩ := quot_inn ht h2
      have hk : ok = true := by rw [← HK.out]; exact innP_yes ht h2
      have ep : p = s := by rw [← HP.out, innF_yes ht h2]
      have eq : q = n % s := by rw [← HQ.out, innF_yes ht h2]
      subst hk
      have hpq : tok p q = true := by rw [ep, eq]; exact tok_inn ht h2
      have ht' := Lib.hid hpq
      have G2 : Hid (quotF p q = (quotF n s).drop 1) := by show _ = _; rw [ep, eq]; exact g2
      obtain ⟨N, hN⟩ : ∃ N, (quotF n s).length = N := ⟨_, rfl⟩
      have hN8 := quotF_len n s
      rw [hN] at g1 hN8
      have HN := Lib.hid hN
      have hN1 : (1 : Int) < N := by omega
      clear ep eq hpq ht g2 hN
      go_wp2_with fail
      refine (quotientsOf_any _ _ _).mono ?_; rintro e w6 ⟨v6, rfl, ho6, hb6⟩
      have t6 := t5.below hb6 t5.lt
      have u6 := u5.below hb6 u5.lt
      have hB6 := hB5.trans (hb6.mono hB5.size)
      clear a0 a1 b0 b1 d0 d1 hb6 t5 u5 v5 hB5
      obtain ⟨g, cap6, cur, rfl, hbg, hr6, hs6, hnc, hm, hcu⟩ := ho6.rowI HN.out (by omega)
      have hR6 := Lib.hid (reads_tail ho6.reads HN.out g1)
      have lg := hr6.lt
      have b0 := u6.cell0
      have b1 := u6.cell1
      have lu6 := u6.lt
      have hcapI : (1 : Int) ≤ cap6 := by omega
      have hnc' : (N : Int) ≤ cap6 := by omega
      have hc1 : ¬ cap6 = 1 := by omega
      have hc2 : (1 : Int) ≤ N := by omega
      clear hr6 hcu hs6 hm ho6 t6
      go_wp2_with fail
      go_region_held3 (fun w' => w'.cell? ⟨w2.heap.size, 0, none⟩ = some (.int .i64 p) ∧ w'.cell? ⟨w2.heap.size, 1, none⟩ = some (.int .i64 q))
        (first | go_keep | exact ⟨u'c, u'd⟩)
        (first
          | (go_at_call 51; refine (turnOk_any _ _ _).mono ?_; rintro e w' ⟨rfl, hb'⟩; rw [ht'.out]; have u' := Two.below (b := w2.heap.size) (x := .int .i64 p) (y := .int .i64 q) (T := 24) (by repeat (first | assumption | refine Two.drew1 ?_)) hb' (by first | omega | (simp <;> omega)); have lu' := u'.lt; have u'c := u'.cell0; have u'd := u'.cell1; have hR7 := Reads.below (w := w6.drew) hR6.out hb')
          | (go_at_call 50; refine (quotientsOf_any _ _ _).mono ?_; rintro e w'' ⟨v7, rfl, ho7, hb''⟩; have u' := Two.below (b := w2.heap.size) (x := .int .i64 p) (y := .int .i64 q) (T := 24) (by repeat (first | assumption | refine Two.drew1 ?_)) hb'' (by first | omega | (simp <;> omega)); have lu' := u'.lt; have u'c := u'.cell0; have u'd := u'.cell1; have hR8 := Reads.below hR7 hb'')
          | (go_at_call 33; refine (sameInts_any _ _ _ _ _ ho7.reads hR8 (by have := quotF_len p q; omega) (by rw [List.length_drop]; have := quotF_len n s; omega)).mono ?_; rintro e w''' ⟨rfl, nq, rfl⟩; rw [decide_eq_true G2.out]; have u'c := u'.cell0; have u'd := u'.cell1))
      all_goals
        have hz1 := hb'.size
        have hz2 := hb''.size
        have hB9 : Below w.heap.size w w'' := ((below_drewN hB6 1).trans (hb'.mono (below_drewN hB6 1).size)).trans (hb''.mono (Nat.le_trans (below_drewN hB6 1).size hz1))
        go_wp2
        go_ret
        exact ⟨rfl, below_drewN hB9 nq⟩
    · have hk : ok = false := by rw [← HK.out]; exact innP_no hc
      have ep : p = 0 := by rw [← HP.out, innF_no hc]
      have eq : q = 0 := by rw [← HQ.out, innF_no hc]
      subst hk ep eq
      go_wp2_with fail
      refine (alive_any _).mono ?_; rintro e w6 ⟨rfl, hb6⟩
      have hB6 := hB5.trans (hb6.mono hB5.size)
      go_wp2
      go_ret
      exact ⟨rfl, hB6⟩

set_option maxRecDepth 100000 in
theorem lifted (os : Os) (started : os.Started) (H : Type) (enc : TypeId × Value → H) :
    ReturnsInHanded {} Try.checked os 11 .any (Rows.fnInnerTurnSpec.pre6 enc Try.prog Try.f11 Rows.fnInnerTurnRow.domain false) (Rows.fnInnerTurnSpec.post enc Try.prog Try.f11 false true false false) := by
  refine returnsInHanded_of_change (C := Try.checked) own started (by kernel_rfl) Try.func11
    (ChangeSpec.witness6 (enc := enc) (C := Try.checked) false ⟨#[], #[.slice none 0 0], []⟩ 8 (by kernel_rfl) (by kernel_rfl) (by kernel_rfl) (by kernel_rfl)) ?_
  intro W base args ds gs before hval0 hW hcnd _
  have hval : ∀ (j : Nat) t v, Try.f11.params[j]? = some t → args[j]? = some v → Value.okWide Try.prog W .any base t v := hval0
  have hW' := hW
  obtain ⟨p, q, hA0, hV, rfl, hfz, hnd⟩ := hW
  have hA : DataW.TrodAll enc Try.prog W 0 (fun _ => true) true Try.f11.params.toList args.toList ds p := hA0
  rw [Try.params11] at hA hval
  obtain ⟨v0, vs0, d0, ds0, p0, q0, hargs, rfl, rfl, h0, r0⟩ := trodAll_cons hA
  obtain ⟨rfl, rfl, rfl⟩ := trodAll_nil r0
  obtain rfl : args = #[v0] := by cases args; simp_all
  obtain ⟨rfl, rfl⟩ := trodVars_none hV
  obtain ⟨acode, lencode, capcode, rfl⟩ := okWide_slice Try.underlying22 (hval 0 22 v0 rfl rfl)
  have k0 := h0
  have lt0 : ∀ x ∈ p0, x.block < W.heap.size := by obtain ⟨m, hm⟩ := k0; exact DataW.trod_lt m _ _ _ hm
  obtain ⟨zcode, rowcode⟩ : ∃ zs, IsRow .u8 W acode lencode capcode zs := by
    obtain ⟨fuel, hf⟩ := h0
    rcases open_ints Try.underlying22 Try.underlying5 (by kernel_rfl) hf with ⟨hcs, _⟩ | ⟨x, l, c, zs, hcs, _, hl, hm, hz, _, hcell, hwz⟩
    · simp [Value.cells] at hcs
      obtain ⟨rfl, rfl, rfl⟩ := hcs
      exact ⟨[], .inl ⟨rfl, rfl, rfl, rfl⟩⟩
    · simp [Value.cells] at hcs
      obtain ⟨rfl, rfl, rfl⟩ := hcs
      exact ⟨zs, .inr ⟨_, rfl, hl, hm, by simpa using hz, hcell, hwz⟩⟩
  clear hA0 hval0
  refine (walk acode lencode capcode zcode W rowcode).mono fun e W' ⟨he, bel⟩ => ?_
  subst he
  exact ⟨_, rfl, _, _, _, [], _, [], hW', trodAll_mk1 (shut_bool Try.underlying4 _), (trodAll_cons_mk (Below.trod laidOut (by kernel_rfl) (of_decide_eq_true (by kernel_rfl)) k0 bel lt0) trodAll_mk0), rfl, bel.frame _, fun h => by cases h⟩

theorem facts : joinedFacts Try.pinned.checked.prog 11 Try.f11 Rows.fnInnerTurnSpec Rows.fnInnerTurnRow = true := by
  simp only [joinedFacts, Bool.and_eq_true]
  repeat' apply And.intro
  all_goals first | rw [mayEnter_eq] | (rw [liftsFinal_eq]; kernel_rfl) | (rw [make_eq]; kernel_rfl) | kernel_rfl

theorem over : Rows.fnInnerTurnRow.holds Try.pinned (OpenSpec.ofChange Rows.fnInnerTurnSpec) :=
  OpenClaim.holds_of_wide 11 Try.f11 rfl rfl rfl rfl rfl rfl rfl ⟨rfl, rfl, rfl, rfl, rfl⟩ rfl rfl rfl rfl rfl (by kernel_rfl) Try.func11 facts
    (of_decide_eq_true (by kernel_rfl)) (by unfold Func.isWrapper; first | (rw [if_pos (by decide +kernel)]; kernel_rfl) | (rw [if_neg (by decide +kernel)]; exact ⟨rfl, rfl⟩))
    (fun os started H enc _ => lifted os started H enc)

theorem proved : Rows.FnInnerTurnSaid := over
#print axioms proved
end Go.Proofs.Ytppahekbgbbidac.lawInnerTurn
