/- Proves that FnMovesScales returns true for every code, and leaves the code as it was; the tables of package utf8 that its row lists are tied to the program's text. No conditions. -/
import Derived.Test.YtckkgjgfjnfeoaaDoorHead
import Derived.Test.YtckkgjgfjnfeoaaDoorMvT
import Derived.Test.YtckkgjgfjnfeoaaDoorMvF
import Derived.Test.YtckkgjgfjnfeoaaDoorReadT
import Derived.Test.YtckkgjgfjnfeoaaDoorSclI
import Derived.Test.YtckkgjgfjnfeoaaDoorGScl
import Derived.Test.YtckkgjgfjnfeoaaDoorDrawM
import Derived.Test.YtckkgjgfjnfeoaaDoorDrawSc
import Derived.Test.YtckkgjgfjnfeoaaDoorGFun2
import Derived.Deep.Cut
import Derived.Test.YtckkgjgfjnfeoaaDoorCards
import Derived.Test.YtckkgjgfjnfeoaaDoorTie
import Derived.LaidMore
import Derived.Lay
import Derived.SevenTiedAt
import Derived.Stop.Joined
set_option linter.unusedVariables false
namespace Go.Proofs.YtckkgjgfjnfeoaaDoor.lawMovesScales
set_option maxRecDepth 4000

set_option maxRecDepth 4000
open Go.ChangeShapes Go.WideShapes Go.ChangeAt Go.RowKit Go.Joins

theorem moves_scale {N S : Nat} (h : tokN N S = true) {k : Nat} (hk : k ≤ (movesN N S).length) : ((mvN ((movesN N S).take k) : Nat) : Int) = (scalesF N S).getD k 0 ∧ mvN ((movesN N S).take k) ≤ 60 := by
  obtain ⟨r, h1, h2⟩ := moves_rows N S hk
  have a := scales_at h h1
  have b := scales_len h
  have hr := rowsN_moves N S
  have c := (scalesF_bd N S).2 k (by omega)
  omega

set_option maxHeartbeats 4000000 in
theorem walk (a : Option Addr) (len cap : Nat) (z : List Int) (w : World) (row : IsRow .u8 w a len cap z) :
    Calls Tryd.prog 7 #[.slice a len cap] w fun e w' => e = .returned (.bool true) ∧ Below w.heap.size w w' := by
  
  have hc := CodeIn.of row
  clear row
  by_cases hl : 1048576 < len
  · have hl' : (1048576 : Int) < len := by omega
    go_enter Tryd.func7, Tryd.ntmps7
    go_wp2
    go_ret
    exact ⟨rfl, (by repeat (first | exact Below.refl _ _ | assumption | (refine Below.trans ?_ (Below.mono (by assumption) (by first | omega | (simp <;> omega)))) | (refine Below.alloc ?_ (by first | omega | (simp <;> omega)) _) | (refine below_drewN ?_ _) | (refine Below.drew ?_) | (refine Below.setCell ?_ (by first | omega | (simp <;> omega)) _)))⟩
  · have hl' : ¬ (1048576 : Int) < len := by omega
    go_enter Tryd.func7, Tryd.ntmps7
    go_wp2_with fail
    refine (drawMovesFor_any a len cap _ hc (by omega)).mono ?_; rintro e w1 ⟨n, s, rfl, n0, n1, s0, s1, hb1⟩
    have hz1 := hb1.size
    try simp at hz1
    go_wp2_with fail
    refine (movesFor_any _ _ _).mono ?_; rintro e w2 ⟨rfl, hb2⟩
    have hz2 := hb2.size
    try simp at hz2
    have t2 : Two w2 (w1.heap.size) (.int .i64 n) (.int .i64 s) 28 := Two.below (by repeat (first | assumption | exact Two.new' _ _ _ _ _ (by simp) | refine Two.alloc ?_ _ | refine Two.drewN ?_ _)) hb2 (by first | omega | (simp <;> omega))
    have hlt2 : (w1.heap.size) < w2.heap.size := t2.lt
    have hnt2 : ¬ (w1.heap.size) = w2.heap.size := Nat.ne_of_lt hlt2
    have t2c := t2.cell0
    have t2d := t2.cell1
    go_wp2_with fail
    refine (scaleSizes_any _ _ _).mono ?_; rintro e w3 ⟨v3, rfl, hp3, hb3⟩
    have hz3 := hb3.size
    try simp at hz3
    have t3 : Two w3 (w1.heap.size) (.int .i64 n) (.int .i64 s) 28 := Two.below (by repeat (first | assumption | exact Two.new' _ _ _ _ _ (by simp) | refine Two.alloc ?_ _ | refine Two.drewN ?_ _)) hb3 (by first | omega | (simp <;> omega))
    have hlt3 : (w1.heap.size) < w3.heap.size := t3.lt
    have hnt3 : ¬ (w1.heap.size) = w3.heap.size := Nat.ne_of_lt hlt3
    have t3c := t3.cell0
    have t3d := t3.cell1
    have hB3 : Below w.heap.size w w3 := (by repeat (first | exact Below.refl _ _ | assumption | (refine Below.trans ?_ (Below.mono (by assumption) (by first | omega | (simp <;> omega)))) | (refine Below.alloc ?_ (by first | omega | (simp <;> omega)) _) | (refine below_drewN ?_ _) | (refine Below.drew ?_) | (refine Below.setCell ?_ (by first | omega | (simp <;> omega)) _)))
    clear hb1 hb2 hb3 hc t2 t2c t2d
    by_cases ht : tok n s = true
    · obtain ⟨N, S, rfl, rfl, hN⟩ := tokN_of ht
      obtain ⟨b1, b2, b3, b4, _⟩ := tokN_bd hN
      rw [ht, mfF_yes hN]
      have hml := moves_le hN
      have hsl := scales_len hN
      rw [rowsN_moves] at hsl
      have HS := Lib.hid (fun k hk => moves_scale hN (k := k) hk)
      generalize scalesF (N : Int) S = L at *
      generalize hV : movesN N S = V at *
      obtain ⟨K, hK⟩ : ∃ K, V.length = K := ⟨_, rfl⟩
      rw [hK] at hml hsl HS
      have hsz : ((txtM V).size : Int) = (K : Nat) := by rw [txtM_size, hK]
      have HM : Hid (∀ k, k ≤ K → ∀ w, Calls Tryd.prog 21 #[.string ((txtM V).extract 0 k)] w fun e w' => e = .returned (.tuple #[(.agg #[.int .i64 ((L.getD k 0)), .int .i64 (((mvS (V.take k) : Nat) : Int))]), .bool true]) ∧ Below w.heap.size w w') := fun k hk w => by
        have hl2 : (V.take k).length ≤ 58 := by rw [List.length_take]; omega
        obtain ⟨e1, e2⟩ := HS.out k hk
        have h := moveTurn_any (txtM (V.take k)) w (by rw [txtM_size]; omega)
        rw [mtP_yes hl2 e2, mtF_yes hl2 e2, e1] at h
        rw [show (txtM V).extract 0 k = txtM (V.take k) by rw [txtM_extract]; rfl]
        exact h
      obtain ⟨a1, cap1, rfl, HC0⟩ := hp3.reads.cells hsl
      obtain ⟨g, off, rfl, HC⟩ := HC0 (by omega)
      obtain ⟨U, hU⟩ : ∃ U, txtM V = U := ⟨_, rfl⟩
      rw [hU] at hsz HM ⊢
      clear hV hK hN hU HS hsl HC0 hp3 t3 t3c t3d ht
      have hw1 : IntKind.i64.wrap ((K : Int) + 1) = (K : Int) + 1 := IntWalk.i64_in _ (by omega)
      go_wp2_with fail
      go_loopw [7] (fun x wr => ∃ k : Nat, x = .int .i64 k ∧ k ≤ K + 1 ∧ Below w3.heap.size w3 wr) (fun x _ => K + 1 - (intOf x).toNat)
      case atStart => exact ⟨0, rfl, by omega, Below.refl _ _⟩
      case round =>
        obtain ⟨k, rfl, hk, hBr⟩ := hrel
        by_cases hkm : k ≤ K
        · have hkm' : (k : Int) ≤ K := by omega
          have hcall := HM.out k hkm
          have ck := (hBr.cell (p := ⟨g, off + k, none⟩) (World.block_lt_of_cell? w3 _ (HC.out k (by omega)))).trans (HC.out k (by omega))
          have hw2 : IntKind.i64.wrap ((k : Int) + 1) = (k : Int) + 1 := IntWalk.i64_in _ (by omega)
          have k0 : (0 : Int) ≤ k := by omega
          have k1 : (k : Int) < (K : Int) + 1 := by omega
          generalize L.getD k 0 = X at *
          generalize ((mvS (V.take k) : Nat) : Int) = Y at *
          go_wp2_with fail
          refine (hcall _).mono ?_; rintro e w4 ⟨rfl, hb4⟩
          have p5 : Two (w4.alloc (.cells #[.int .i64 X, .int .i64 Y] 28)) w4.heap.size (.int .i64 X) (.int .i64 Y) 28 := Two.new _ _ _ _
          have hB4 := hBr.trans (hb4.mono hBr.size)
          have hB5 := hB4.alloc hB4.size (.cells #[.int .i64 X, .int .i64 Y] 28)
          have cl := World.block_lt_of_cell? wr _ ck
          have ck4 : w4.cell? ⟨g, off + k, none⟩ = some (.int .i64 X) := (hb4.cell (p := ⟨g, off + k, none⟩) cl).trans ck
          have cl4 := World.block_lt_of_cell? w4 _ ck4
          have ck5 : (w4.alloc (.cells #[.int .i64 X, .int .i64 Y] 28)).cell? ⟨g, off + k, none⟩ = some (.int .i64 X) := (((Below.refl w4.heap.size w4).alloc (Nat.le_refl _) (.cells #[.int .i64 X, .int .i64 Y] 28)).cell (p := ⟨g, off + k, none⟩) cl4).trans ck4
          have p5c := p5.cell0
          clear hcall hBr hb4 ck ck4 hB4 p5
          have hxx : (X != X) = false := by simp
          go_wp2_with fail
          go_quiet (fail)
          go_wp2_with fail
          go_roundw
          case rel => exact ⟨k + 1, by go_num, by omega, below_drewN hB5 nq⟩
          case measure => simp only [intOf]; omega
        · have hkm' : ¬ (k : Int) ≤ K := by omega
          have hB6 := hB3.trans (hBr.mono hB3.size)
          go_wp2
          go_ret
          exact ⟨rfl, hB6⟩
    · have ht' : tok n s = false := by simpa using ht
      rw [ht', mfF_no ht]
      clear hp3
      go_wp2_with fail
      refine (specTurnOk_any _ _ _).mono ?_; rintro e w4 ⟨rfl, hb4⟩
      rw [ht']
      have hB4 := hB3.trans (hb4.mono hB3.size)
      go_wp2_with fail
      refine (alive_any _).mono ?_; rintro e w5 ⟨rfl, hb5⟩
      have hB5 := hB4.trans (hb5.mono hB4.size)
      go_wp2
      go_ret
      exact ⟨rfl, hB5⟩

set_option maxRecDepth 100000 in
theorem lifted (os : Os) (started : os.Started) (H : Type) (enc : TypeId × Value → H) :
    ReturnsInHanded {} Tryd.checked os 7 .any (fun w args => (Rows.fnMovesScalesSpec.pre enc Tryd.prog Tryd.f7 Rows.fnMovesScalesRow.domain false w args ∧ laidMetH Tryd.prog Rows.fnMovesScalesRow.laid w) ∧ sizedMet enc Tryd.prog Tryd.f7 (OpenSpec.ofChange Rows.fnMovesScalesSpec) false w args) (Rows.fnMovesScalesSpec.post enc Tryd.prog Tryd.f7 false true false false) := by
  refine returnsInHanded_of_change_and (C := Tryd.checked) (X := fun w _ => laidMetH Tryd.prog Rows.fnMovesScalesRow.laid w) (fun _ _ _ hh h => h.of_heap hh) own started (by kernel_rfl) Tryd.func7
    (ChangeSpec.witness_shaped (enc := enc) (C := Tryd.checked) (os := os) (X := fun w _ => laidMetH Tryd.prog Rows.fnMovesScalesRow.laid w) false (World.laidAll Tryd.prog os Rows.fnMovesScalesRow.laid) #[.slice none 0 0] 8 (World.laidAll_os _ _ _)
      (World.shaped_of_ZipB (by kernel_rfl) (by kernel_rfl)) (by kernel_rfl) (by kernel_rfl) (by kernel_rfl)
      (by rw [MakeChecks.laidMetH_plain _ _ _ (by kernel_rfl)]; exact laidMet_laidAll _ (by kernel_rfl) (by kernel_rfl))) ?_
  intro W base args ds gs before hval0 hW hcnd _ hL _
  have hval : ∀ (j : Nat) t v, Tryd.f7.params[j]? = some t → args[j]? = some v → Value.okWide Tryd.prog W .any base t v := hval0
  have hW' := hW
  obtain ⟨p, q, hA0, hV, rfl, hfz, hnd⟩ := hW
  have hA : DataW.TrodAll enc Tryd.prog W 0 (fun _ => true) true Tryd.f7.params.toList args.toList ds p := hA0
  rw [Tryd.params7] at hA hval
  obtain ⟨v0, vs0, d0, ds0, p0, q0, hargs, rfl, rfl, h0, r0⟩ := trodAll_cons hA
  obtain ⟨rfl, rfl, rfl⟩ := trodAll_nil r0
  obtain rfl : args = #[v0] := by cases args; simp_all
  obtain ⟨rfl, rfl⟩ := trodVars_none hV
  obtain ⟨acode, lencode, capcode, rfl⟩ := okWide_slice Tryd.underlying22 (hval 0 22 v0 rfl rfl)
  have k0 := h0
  have lt0 : ∀ x ∈ p0, x.block < W.heap.size := by obtain ⟨m, hm⟩ := k0; exact DataW.trod_lt m _ _ _ hm
  obtain ⟨zcode, rowcode⟩ : ∃ zs, IsRow .u8 W acode lencode capcode zs := by
    obtain ⟨fuel, hf⟩ := h0
    rcases open_ints Tryd.underlying22 Tryd.underlying5 (by kernel_rfl) hf with ⟨hcs, _⟩ | ⟨x, l, c, zs, hcs, _, hl, hm, hz, _, hcell, hwz⟩
    · simp [Value.cells] at hcs
      obtain ⟨rfl, rfl, rfl⟩ := hcs
      exact ⟨[], .inl ⟨rfl, rfl, rfl, rfl⟩⟩
    · simp [Value.cells] at hcs
      obtain ⟨rfl, rfl, rfl⟩ := hcs
      exact ⟨zs, .inr ⟨_, rfl, hl, hm, by simpa using hz, hcell, hwz⟩⟩
  clear hA0 hval0
  refine (walk acode lencode capcode zcode W rowcode).mono fun e W' ⟨he, bel⟩ => ?_
  subst he
  exact ⟨_, rfl, _, _, _, [], _, [], hW', trodAll_mk1 (shut_bool Tryd.underlying4 _), (trodAll_cons_mk (Below.trod laidOut (by kernel_rfl) (of_decide_eq_true (by kernel_rfl)) k0 bel lt0) trodAll_mk0), rfl, bel.frame _, fun h => by cases h⟩

theorem facts : joinedFacts Tryd.pinned.checked.prog 7 Tryd.f7 Rows.fnMovesScalesSpec Rows.fnMovesScalesRow = true := by
  simp only [joinedFacts, Bool.and_eq_true]
  repeat' apply And.intro
  all_goals first | rw [mayEnter_eq] | (rw [liftsFinal_eq]; kernel_rfl) | (rw [make_eq]; kernel_rfl) | kernel_rfl

theorem over : Rows.fnMovesScalesRow.holds Tryd.pinned (OpenSpec.ofChange Rows.fnMovesScalesSpec) :=
  OpenClaim.holds_of_wide 7 Tryd.f7 rfl rfl rfl rfl rfl rfl rfl ⟨rfl, rfl, rfl, rfl, rfl⟩ rfl rfl rfl rfl rfl (by kernel_rfl) Tryd.func7 facts
    (of_decide_eq_true (by kernel_rfl)) (by unfold Func.isWrapper; first | (rw [if_pos (by decide +kernel)]; kernel_rfl) | (rw [if_neg (by decide +kernel)]; exact ⟨rfl, rfl⟩))
    (fun os started H enc _ => lifted os started H enc)

theorem proved : Rows.FnMovesScalesCardSaid :=
  Claim7.holds_tied_plain_at .later [] [.data, .pinned] true (true, "97dcc2f3217bf827ca5d7d49b76339c1e85332b440dfcb587d19ecd10f4bdf07") true over (fun _ h => by cases h) (by kernel_rfl) (fun _ h => by cases h) fnMovesScales_row_tie rfl ⟨rfl, rfl⟩ (by kernel_rfl) rfl
    (fun f fn hf hfn => by
      obtain rfl : f = 7 := Option.some.inj ((show Tryd.prog.funcNamed Rows.fnMovesScalesRow.func = some 7 by kernel_rfl).symm.trans hf) |>.symm
      obtain rfl : fn = Tryd.f7 := (Option.some.inj (Tryd.func7.symm.trans hfn)).symm
      exact ⟨by kernel_rfl, fun j t ht => by
        rw [Tryd.params7] at ht
        have hm : t ∈ [22] := by simpa using Array.mem_of_getElem? ht
        have hall : ([22].all fun u => !Tryd.prog.wantsStandIn u) = true := by kernel_rfl
        exact (show Tryd.prog.wantsStandIn t = false by simpa using List.all_eq_true.1 hall t hm)⟩)
    (by kernel_rfl)
#print axioms proved
end Go.Proofs.YtckkgjgfjnfeoaaDoor.lawMovesScales
