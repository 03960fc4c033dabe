/- Proves that FnMoveTurn returns true for every code, and leaves the code as it was; the tables of package utf8 that its row lists are tied to the program's text. No conditions. -/
import Derived.Test.YtckkgjgfjnfeoaaGreatDoorHead
import Derived.Test.YtckkgjgfjnfeoaaGreatDoorMvT
import Derived.Test.YtckkgjgfjnfeoaaGreatDoorMvF
import Derived.Test.YtckkgjgfjnfeoaaGreatDoorMvB
import Derived.Test.YtckkgjgfjnfeoaaGreatDoorMvO
import Derived.Test.YtckkgjgfjnfeoaaGreatDoorReadT
import Derived.Test.YtckkgjgfjnfeoaaGreatDoorDrawM
import Derived.Test.YtckkgjgfjnfeoaaGreatDoorGFun2
import Derived.Deep.Cut
import Derived.Deep.RegionHeld3
import Derived.Test.YtckkgjgfjnfeoaaGreatDoorCards
import Derived.Test.YtckkgjgfjnfeoaaGreatDoorTie
import Derived.LaidMore
import Derived.Lay
import Derived.SevenTiedAt
import Derived.Stop.Joined
set_option linter.unusedVariables false
namespace Go.Proofs.YtckkgjgfjnfeoaaGreatDoor.lawMoveTurn
set_option maxRecDepth 4000

set_option maxRecDepth 4000
open Go.ChangeShapes Go.WideShapes Go.ChangeAt Go.RowKit Go.Joins

theorem mv_facts {v : List Bool} (hn : mvN v ≤ 60) : tok (mvN v) (mvS v) = true ∧ oppT (mvN v) (mvS v) = ((mvN v : Int), (mvS v.reverse : Int)) ∧ backT (mvN v) (mvS v) = ((mvN v : Int), (mvS (v.map (!·)) : Int)) ∧ mfF (mvN v) (mvS v) = txtM v := by
  have hN : tokN (mvN v) (mvS v) = true := by rw [mv_tok]; simp [hn]
  have ht := tok_of_tokN hN
  have hb := mvS_le v
  have hbr := mvS_le v.reverse
  refine ⟨ht, ?_, ?_, ?_⟩
  · rw [oppT_yes ht]
    congr 1
    obtain ⟨e1, e2⟩ := mv_back v
    rw [e1] at hbr
    symm
    refine inv_unique ht (by omega) (by omega) ?_
    rw [Nat.mod_eq_of_lt (by omega : 1 < mvN v)] at e2
    rw [show (mvS v.reverse : Int) * (mvS v : Int) = ((mvS v * mvS v.reverse : Nat) : Int) by push_cast; exact Int.mul_comm _ _]
    have := congrArg (Int.ofNat) e2
    simpa using this
  · rw [backT_yes ht]
    congr 1
    rw [(mv_other v).2]
    omega
  · rw [mfF_yes hN, moves_of]

set_option maxHeartbeats 4000000 in
theorem walk (a : Option Addr) (len cap : Nat) (z : List Int) (w : World) (row : IsRow .u8 w a len cap z) :
    Calls Tryz.prog 3 #[.slice a len cap] w fun e w' => e = .returned (.bool true) ∧ Below w.heap.size w w' := by
  have hc := CodeIn.of row
  clear row
  by_cases hl : 1048576 < len
  · have hl' : (1048576 : Int) < len := by omega
    go_enter Tryz.func3, Tryz.ntmps3
    go_wp2
    go_ret
    exact ⟨rfl, (by repeat (first | exact Below.refl _ _ | assumption | (refine Below.trans ?_ (Below.mono (by assumption) (by first | omega | (simp <;> omega)))) | (refine Below.alloc ?_ (by first | omega | (simp <;> omega)) _) | (refine below_drewN ?_ _) | (refine Below.drew ?_) | (refine Below.setCell ?_ (by first | omega | (simp <;> omega)) _)))⟩
  · have hl' : ¬ (1048576 : Int) < len := by omega
    go_enter Tryz.func3, Tryz.ntmps3
    go_wp2_with fail
    refine (drawMoveTurn_any a len cap _ hc (by omega)).mono ?_; rintro e w1 ⟨u, rfl, hu1, hB1⟩
    have hu : u.size ≤ 2000000 := by omega
    clear hc
    have h1 := Lib.hid (fun w => moveTurn_any u w hu)
    have h2 := Lib.hid (fun w => specMoveTurn_any u w hu)
    by_cases hm : mtP u = true
    · have hP : mvP u := by
        rcases mvOk_cases u with ⟨v, hv, rfl, hok⟩ | ⟨hno, hok⟩
        · exact mvP_txt hv
        · rw [mtP_no hno] at hm; cases hm
      obtain ⟨v, hv, rfl⟩ := mvP_iff.1 hP
      have hn : mvN v ≤ 60 := by
        by_cases q : mvN v ≤ 60
        · exact q
        · rw [mtP_big q] at hm; cases hm
      obtain ⟨f1, f2, f3, f4⟩ := mv_facts hn
      have hvr : v.reverse.length ≤ 58 := by rw [List.length_reverse]; exact hv
      have hvm : (v.map (!·)).length ≤ 58 := by rw [List.length_map]; exact hv
      have h3 := Lib.hid (fun w => movesFor_any (mvN v) (mvS v) w)
      have h4 := Lib.hid (fun w => backMoves_any (txtM v) w hu)
      have h5 := Lib.hid (fun w => otherMoves_any (txtM v) w hu)
      have h6 := Lib.hid (fun w => moveTurn_any (txtM v.reverse) w (by rw [txtM_size]; omega))
      have h7 := Lib.hid (fun w => moveTurn_any (txtM (v.map (!·))) w (by rw [txtM_size]; omega))
      rw [hm, mtF_yes hv hn] at h1 h2
      rw [f4, f1] at h3
      rw [show backM (txtM v) = txtM v.reverse from onM_yes hv] at h4
      rw [show otherM (txtM v) = txtM (v.map (!·)) from onM_yes hv] at h5
      rw [mtP_yes hvr (by rw [(mv_back v).1]; exact hn), mtF_yes hvr (by rw [(mv_back v).1]; exact hn), (mv_back v).1] at h6
      rw [mtP_yes hvm (by rw [(mv_other v).1]; exact hn), mtF_yes hvm (by rw [(mv_other v).1]; exact hn), (mv_other v).1] at h7
      have F1 := Lib.hid f1
      have F2 := Lib.hid f2
      have F3 := Lib.hid f3
      dsimp only at h1 h2 h6 h7
      generalize ((mvN v : Nat) : Int) = n at *
      generalize ((mvS v : Nat) : Int) = s at *
      generalize ((mvS v.reverse : Nat) : Int) = x at *
      generalize ((mvS (v.map (!·)) : Nat) : Int) = y at *
      generalize txtM v.reverse = X at *
      generalize txtM (v.map (!·)) = Y at *
      generalize txtM v = u at *
      clear f1 f2 f3 f4 hm hP hn hv hvr hvm
      have hxa : (u.toList == u.toList) = true := by simp
      go_wp2_with fail
      refine (h1.out _).mono ?_; rintro e w2 ⟨rfl, hb2⟩
      have hB2 := hB1.trans (hb2.mono hB1.size)
      clear hb2 hB1
      have t2 : Two (w2.alloc (.cells #[.int .i64 n, .int .i64 s] 25)) w2.heap.size (.int .i64 n) (.int .i64 s) 25 := Two.new _ _ _ _
      have hB2a := hB2.alloc hB2.size (.cells #[.int .i64 n, .int .i64 s] 25)
      clear hB2
      go_wp2_with fail
      generalize w2.alloc (.cells #[.int .i64 n, .int .i64 s] 25) = w2a at *
      generalize w2.heap.size = T at *
      refine (h2.out _).mono ?_; rintro e w3 ⟨rfl, hb3⟩
      have t3 := t2.below hb3 t2.lt
      have hB3 := hB2a.trans (hb3.mono hB2a.size)
      clear hb3 t2 hB2a
      have g3 : Two (w3.alloc (.cells #[.int .i64 n, .int .i64 s] 25)) w3.heap.size (.int .i64 n) (.int .i64 s) 25 := Two.new _ _ _ _
      have t4 := t3.alloc (.cells #[.int .i64 n, .int .i64 s] 25)
      have hB4 := hB3.alloc hB3.size (.cells #[.int .i64 n, .int .i64 s] 25)
      have c0 := g3.cell0
      have c1 := g3.cell1
      have d0 := t4.cell0
      have d1 := t4.cell1
      have hlt3 := t3.lt
      clear t3 hB3
      go_wp2_with fail
      generalize w3.alloc (.cells #[.int .i64 n, .int .i64 s] 25) = w4 at *
      clear g3 c0 c1
      refine (h3.out _).mono ?_; rintro e w5 ⟨rfl, hb5⟩
      have t5 := t4.below hb5 t4.lt
      have hB5 := hB4.trans (hb5.mono hB4.size)
      clear hb5 t4 hB4 d0 d1 hlt3
      go_wp2_with fail
      refine (h4.out _).mono ?_; rintro e w6 ⟨rfl, hb6⟩
      have t6 := t5.below hb6 t5.lt
      have hB6 := hB5.trans (hb6.mono hB5.size)
      clear hb6 t5 hB5
      go_wp2_with fail
      refine (h6.out _).mono ?_; rintro e w7 ⟨rfl, hb7⟩
      have t7 := t6.below hb7 t6.lt
      have hB7 := hB6.trans (hb7.mono hB6.size)
      clear hb7 t6 hB6
      have p8 : Two (w7.alloc (.cells #[.int .i64 n, .int .i64 x] 25)) w7.heap.size (.int .i64 n) (.int .i64 x) 25 := Two.new _ _ _ _
      have t8 := t7.alloc (.cells #[.int .i64 n, .int .i64 x] 25)
      have hB8 := hB7.alloc hB7.size (.cells #[.int .i64 n, .int .i64 x] 25)
      have ltp : T < w7.heap.size := t7.lt
      clear t7 hB7
      go_wp2_with fail
      generalize w7.alloc (.cells #[.int .i64 n, .int .i64 x] 25) = w8 at *
      generalize w7.heap.size = P at *
      refine (h5.out _).mono ?_; rintro e w9 ⟨rfl, hb9⟩
      have t9 := t8.below hb9 t8.lt
      have p9 := p8.below hb9 p8.lt
      have hB9 := hB8.trans (hb9.mono hB8.size)
      clear hb9 t8 p8 hB8
      go_wp2_with fail
      refine (h7.out _).mono ?_; rintro e wa ⟨rfl, hba⟩
      have ta := t9.below hba t9.lt
      have pa := p9.below hba p9.lt
      have hBa := hB9.trans (hba.mono hB9.size)
      clear hba t9 p9 hB9
      have qb : Two (wa.alloc (.cells #[.int .i64 n, .int .i64 y] 25)) wa.heap.size (.int .i64 n) (.int .i64 y) 25 := Two.new _ _ _ _
      have tb := ta.alloc (.cells #[.int .i64 n, .int .i64 y] 25)
      have pb := pa.alloc (.cells #[.int .i64 n, .int .i64 y] 25)
      have hBb := hBa.alloc hBa.size (.cells #[.int .i64 n, .int .i64 y] 25)
      have ltq : P < wa.heap.size := pa.lt
      clear ta pa hBa
      go_upto_region 13 with fail
      generalize wa.alloc (.cells #[.int .i64 n, .int .i64 y] 25) = wb at *
      generalize wa.heap.size = Q at *
      have tbl := tb.lt
      have pbl := pb.lt
      have qbl := qb.lt
      have hbs := hBb.size
      have tbc := tb.cell0
      have tbd := tb.cell1
      have pbc := pb.cell0
      have pbd := pb.cell1
      have qbc := qb.cell0
      have qbd := qb.cell1
      clear h1 h2 h3 h4 h5 h6 h7
      
      go_region_held3 (fun w' => w'.cell? ⟨T, 0, none⟩ = some (.int .i64 n) ∧ w'.cell? ⟨T, 1, none⟩ = some (.int .i64 s) ∧ w'.cell? ⟨P, 0, none⟩ = some (.int .i64 n) ∧ w'.cell? ⟨P, 1, none⟩ = some (.int .i64 x) ∧ w'.cell? ⟨Q, 0, none⟩ = some (.int .i64 n) ∧ w'.cell? ⟨Q, 1, none⟩ = some (.int .i64 y)) (first | go_keep | exact ⟨t'c, t'd, p'c, p'd, q'c, q'd⟩ | exact ⟨((t'.set (b := _) (by omega) 0 _).set (b := _) (by omega) 1 _).cell0, ((t'.set (b := _) (by omega) 0 _).set (b := _) (by omega) 1 _).cell1, ((p'.set (b := _) (by omega) 0 _).set (b := _) (by omega) 1 _).cell0, ((p'.set (b := _) (by omega) 0 _).set (b := _) (by omega) 1 _).cell1, ((q'.set (b := _) (by omega) 0 _).set (b := _) (by omega) 1 _).cell0, ((q'.set (b := _) (by omega) 0 _).set (b := _) (by omega) 1 _).cell1⟩) (first | (go_at_call 13; refine (turnOk_any n s _).mono ?_; rintro e w' ⟨rfl, hb'⟩; have t' := Two.below (b := T) (x := .int .i64 n) (y := .int .i64 s) (T := 25) (by repeat (first | assumption | refine Two.alloc ?_ _)) hb' (by first | omega | (simp <;> omega)); have lt' := t'.lt; have t'c := t'.cell0; have t'd := t'.cell1; have p' := Two.below (b := P) (x := .int .i64 n) (y := .int .i64 x) (T := 25) (by repeat (first | assumption | refine Two.alloc ?_ _)) hb' (by first | omega | (simp <;> omega)); have lp' := p'.lt; have p'c := p'.cell0; have p'd := p'.cell1; have q' := Two.below (b := Q) (x := .int .i64 n) (y := .int .i64 y) (T := 25) (by repeat (first | assumption | refine Two.alloc ?_ _)) hb' (by first | omega | (simp <;> omega)); have lq' := q'.lt; have q'c := q'.cell0; have q'd := q'.cell1; rw [F1.out]) | (go_at_call 14; refine (oppositeOf_any n s _).mono ?_; rintro e w' ⟨rfl, hb'⟩; have t' := Two.below (b := T) (x := .int .i64 n) (y := .int .i64 s) (T := 25) (by repeat (first | assumption | refine Two.alloc ?_ _)) hb' (by first | omega | (simp <;> omega)); have lt' := t'.lt; have t'c := t'.cell0; have t'd := t'.cell1; have p' := Two.below (b := P) (x := .int .i64 n) (y := .int .i64 x) (T := 25) (by repeat (first | assumption | refine Two.alloc ?_ _)) hb' (by first | omega | (simp <;> omega)); have lp' := p'.lt; have p'c := p'.cell0; have p'd := p'.cell1; have q' := Two.below (b := Q) (x := .int .i64 n) (y := .int .i64 y) (T := 25) (by repeat (first | assumption | refine Two.alloc ?_ _)) hb' (by first | omega | (simp <;> omega)); have lq' := q'.lt; have q'c := q'.cell0; have q'd := q'.cell1; rw [F2.out]) | (go_at_call 15; refine (backTurn_any n s _).mono ?_; rintro e w' ⟨rfl, hb'⟩; have t' := Two.below (b := T) (x := .int .i64 n) (y := .int .i64 s) (T := 25) (by repeat (first | assumption | refine Two.alloc ?_ _)) hb' (by first | omega | (simp <;> omega)); have lt' := t'.lt; have t'c := t'.cell0; have t'd := t'.cell1; have p' := Two.below (b := P) (x := .int .i64 n) (y := .int .i64 x) (T := 25) (by repeat (first | assumption | refine Two.alloc ?_ _)) hb' (by first | omega | (simp <;> omega)); have lp' := p'.lt; have p'c := p'.cell0; have p'd := p'.cell1; have q' := Two.below (b := Q) (x := .int .i64 n) (y := .int .i64 y) (T := 25) (by repeat (first | assumption | refine Two.alloc ?_ _)) hb' (by first | omega | (simp <;> omega)); have lq' := q'.lt; have q'c := q'.cell0; have q'd := q'.cell1; rw [F3.out]))
      all_goals
        go_wp2
        go_ret
        have k0 := below_drewN hBb 1
        have k1 := k0.trans (Below.mono ‹Below wb.drew.heap.size wb.drew _› k0.size)
        have k2 := k1.trans (Below.mono (by assumption) k1.size)
        exact ⟨rfl, k2.trans (Below.mono (by assumption) k2.size)⟩
    · have hm' : mtP u = false := by simpa using hm
      rw [mtF_no hm', hm'] at h1 h2
      dsimp only at h1 h2
      clear hm hm'
      go_wp2_with fail
      refine (h1.out _).mono ?_; rintro e w2 ⟨rfl, hb2⟩
      have hB2 := hB1.trans (hb2.mono hB1.size)
      have t2 : Two (w2.alloc (.cells #[.int .i64 0, .int .i64 0] 25)) w2.heap.size (.int .i64 0) (.int .i64 0) 25 := Two.new _ _ _ _
      have hB2a := hB2.alloc hB2.size (.cells #[.int .i64 0, .int .i64 0] 25)
      clear hB2 hb2 hB1
      go_wp2_with fail
      refine (h2.out _).mono ?_; rintro e w3 ⟨rfl, hb3⟩
      have t3 := t2.below hb3 t2.lt
      have hB3 := hB2a.trans (hb3.mono hB2a.size)
      have g3 : Two (w3.alloc (.cells #[.int .i64 0, .int .i64 0] 25)) w3.heap.size (.int .i64 0) (.int .i64 0) 25 := Two.new _ _ _ _
      have t4 := t3.alloc (.cells #[.int .i64 0, .int .i64 0] 25)
      have hB4 := hB3.alloc hB3.size (.cells #[.int .i64 0, .int .i64 0] 25)
      have c0 := g3.cell0
      have c1 := g3.cell1
      have d0 := t4.cell0
      have d1 := t4.cell1
      clear t3 hB3 hb3 t2 hB2a
      go_wp2_with fail
      refine (alive_any _).mono ?_; rintro e w5 ⟨rfl, hb5⟩
      have hB5 := hB4.trans (hb5.mono hB4.size)
      go_wp2
      go_ret
      exact ⟨rfl, hB5⟩

set_option maxRecDepth 100000 in
theorem lifted (os : Os) (started : os.Started) (H : Type) (enc : TypeId × Value → H) :
    ReturnsInHanded {} Tryz.checked os 3 .any (fun w args => (Rows.fnMoveTurnSpec.pre enc Tryz.prog Tryz.f3 Rows.fnMoveTurnRow.domain false w args ∧ laidMetH Tryz.prog Rows.fnMoveTurnRow.laid w) ∧ sizedMet enc Tryz.prog Tryz.f3 (OpenSpec.ofChange Rows.fnMoveTurnSpec) false w args) (Rows.fnMoveTurnSpec.post enc Tryz.prog Tryz.f3 false true false false) := by
  refine returnsInHanded_of_change_and (C := Tryz.checked) (X := fun w _ => laidMetH Tryz.prog Rows.fnMoveTurnRow.laid w) (fun _ _ _ hh h => h.of_heap hh) own started (by kernel_rfl) Tryz.func3
    (ChangeSpec.witness_shaped (enc := enc) (C := Tryz.checked) (os := os) (X := fun w _ => laidMetH Tryz.prog Rows.fnMoveTurnRow.laid w) false (World.laidAll Tryz.prog os Rows.fnMoveTurnRow.laid) #[.slice none 0 0] 8 (World.laidAll_os _ _ _)
      (World.shaped_of_ZipB (by kernel_rfl) (by kernel_rfl)) (by kernel_rfl) (by kernel_rfl) (by kernel_rfl)
      (by rw [MakeChecks.laidMetH_plain _ _ _ (by kernel_rfl)]; exact laidMet_laidAll _ (by kernel_rfl) (by kernel_rfl))) ?_
  intro W base args ds gs before hval0 hW hcnd _ hL _
  have hval : ∀ (j : Nat) t v, Tryz.f3.params[j]? = some t → args[j]? = some v → Value.okWide Tryz.prog W .any base t v := hval0
  have hW' := hW
  obtain ⟨p, q, hA0, hV, rfl, hfz, hnd⟩ := hW
  have hA : DataW.TrodAll enc Tryz.prog W 0 (fun _ => true) true Tryz.f3.params.toList args.toList ds p := hA0
  rw [Tryz.params3] at hA hval
  obtain ⟨v0, vs0, d0, ds0, p0, q0, hargs, rfl, rfl, h0, r0⟩ := trodAll_cons hA
  obtain ⟨rfl, rfl, rfl⟩ := trodAll_nil r0
  obtain rfl : args = #[v0] := by cases args; simp_all
  obtain ⟨rfl, rfl⟩ := trodVars_none hV
  obtain ⟨acode, lencode, capcode, rfl⟩ := okWide_slice Tryz.underlying22 (hval 0 22 v0 rfl rfl)
  have k0 := h0
  have lt0 : ∀ x ∈ p0, x.block < W.heap.size := by obtain ⟨m, hm⟩ := k0; exact DataW.trod_lt m _ _ _ hm
  obtain ⟨zcode, rowcode⟩ : ∃ zs, IsRow .u8 W acode lencode capcode zs := by
    obtain ⟨fuel, hf⟩ := h0
    rcases open_ints Tryz.underlying22 Tryz.underlying5 (by kernel_rfl) hf with ⟨hcs, _⟩ | ⟨x, l, c, zs, hcs, _, hl, hm, hz, _, hcell, hwz⟩
    · simp [Value.cells] at hcs
      obtain ⟨rfl, rfl, rfl⟩ := hcs
      exact ⟨[], .inl ⟨rfl, rfl, rfl, rfl⟩⟩
    · simp [Value.cells] at hcs
      obtain ⟨rfl, rfl, rfl⟩ := hcs
      exact ⟨zs, .inr ⟨_, rfl, hl, hm, by simpa using hz, hcell, hwz⟩⟩
  clear hA0 hval0
  refine (walk acode lencode capcode zcode W rowcode).mono fun e W' ⟨he, bel⟩ => ?_
  subst he
  exact ⟨_, rfl, _, _, _, [], _, [], hW', trodAll_mk1 (shut_bool Tryz.underlying4 _), (trodAll_cons_mk (Below.trod laidOut (by kernel_rfl) (of_decide_eq_true (by kernel_rfl)) k0 bel lt0) trodAll_mk0), rfl, bel.frame _, fun h => by cases h⟩

theorem facts : joinedFacts Tryz.pinned.checked.prog 3 Tryz.f3 Rows.fnMoveTurnSpec Rows.fnMoveTurnRow = true := by
  simp only [joinedFacts, Bool.and_eq_true]
  repeat' apply And.intro
  all_goals first | rw [mayEnter_eq] | (rw [liftsFinal_eq]; kernel_rfl) | (rw [make_eq]; kernel_rfl) | kernel_rfl

theorem over : Rows.fnMoveTurnRow.holds Tryz.pinned (OpenSpec.ofChange Rows.fnMoveTurnSpec) :=
  OpenClaim.holds_of_wide 3 Tryz.f3 rfl rfl rfl rfl rfl rfl rfl ⟨rfl, rfl, rfl, rfl, rfl⟩ rfl rfl rfl rfl rfl (by kernel_rfl) Tryz.func3 facts
    (of_decide_eq_true (by kernel_rfl)) (by unfold Func.isWrapper; first | (rw [if_pos (by decide +kernel)]; kernel_rfl) | (rw [if_neg (by decide +kernel)]; exact ⟨rfl, rfl⟩))
    (fun os started H enc _ => lifted os started H enc)

theorem proved : Rows.FnMoveTurnCardSaid :=
  Claim7.holds_tied_plain_at .later [] [.data, .pinned] true (true, "618184c2f6b32f4978d21d90842c72e9cfc4789da74b6babc96d28e94e10dc4b") true over (fun _ h => by cases h) (by kernel_rfl) (fun _ h => by cases h) fnMoveTurn_row_tie rfl ⟨rfl, rfl⟩ (by kernel_rfl) rfl
    (fun f fn hf hfn => by
      obtain rfl : f = 3 := Option.some.inj ((show Tryz.prog.funcNamed Rows.fnMoveTurnRow.func = some 3 by kernel_rfl).symm.trans hf) |>.symm
      obtain rfl : fn = Tryz.f3 := (Option.some.inj (Tryz.func3.symm.trans hfn)).symm
      exact ⟨by kernel_rfl, fun j t ht => by
        rw [Tryz.params3] at ht
        have hm : t ∈ [22] := by simpa using Array.mem_of_getElem? ht
        have hall : ([22].all fun u => !Tryz.prog.wantsStandIn u) = true := by kernel_rfl
        exact (show Tryz.prog.wantsStandIn t = false by simpa using List.all_eq_true.1 hall t hm)⟩)
    (by kernel_rfl)
#print axioms proved
end Go.Proofs.YtckkgjgfjnfeoaaGreatDoor.lawMoveTurn
