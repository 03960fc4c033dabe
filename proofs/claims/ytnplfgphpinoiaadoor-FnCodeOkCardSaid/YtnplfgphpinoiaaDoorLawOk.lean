/- Proves that FnCodeOk returns true for every code, and leaves the code as it was; the tables of package utf8 that its row lists are tied to the program's text. No conditions. -/
import Derived.Test.YtnplfgphpinoiaaDoorTrim2
import Derived.Test.YtnplfgphpinoiaaDoorDrawB
import Derived.Test.YtnplfgphpinoiaaDoorFun3
import Derived.Test.YtnplfgphpinoiaaDoorCards
import Derived.Test.YtnplfgphpinoiaaDoorTie
import Derived.LaidMore
import Derived.Lay
import Derived.SevenTiedAt
import Derived.Stop.Joined
set_option linter.unusedVariables false
namespace Go.Proofs.YtnplfgphpinoiaaDoor.lawCodeOk
open Go.ChangeShapes Go.WideShapes Go.ChangeAt Go.RowKit Go.Joins

theorem code_empty : CodeP ⟨#[]⟩ := ⟨by decide, fun i hi => absurd hi (Nat.not_lt_zero _)⟩

theorem code_both : CodeP ⟨#[48, 49]⟩ := by
  have h : txtB [false, true] = ⟨#[48, 49]⟩ := rfl
  rw [← h]
  exact codeP_txt (by decide)

theorem code_init {u : ByteArray} (h : CodeP u) (k : Nat) : CodeP (u.extract 0 k) := by
  obtain ⟨v, hv, rfl⟩ := codeP_bits h
  rw [txtB_extract]
  exact codeP_txt (by rw [List.length_take, List.length_drop]; omega)

theorem codeOk_yes {u : ByteArray} (h : CodeP u) (w : World) : Calls Tryd.prog 15 #[.string u] w fun e w' => e = .returned (.bool true) ∧ Below w.heap.size w w' :=
  (codeOk_any u w (by have := h.1; omega)).mono fun e w' ⟨⟨c, h1, h2⟩, h3⟩ => ⟨by rw [h1, h2.2 h], h3⟩

set_option maxHeartbeats 1000000 in
theorem walk (a : Option Addr) (len cap : Nat) (z : List Int) (w : World) (row : IsRow .u8 w a len cap z) :
    Calls Tryd.prog 4 #[.slice a len cap] w fun e w' => e = .returned (.bool true) ∧ Below w.heap.size w w' := by
  have hc := CodeIn.of row
  clear row
  by_cases hl : 1048576 < len
  · have hl' : (1048576 : Int) < len := by omega
    go_enter Tryd.func4, Tryd.ntmps4
    go_wp2
    go_ret
    exact ⟨rfl, (by repeat (first | exact Below.refl _ _ | assumption | (refine Below.trans ?_ (Below.mono (by assumption) (by first | omega | (simp <;> omega)))) | (refine Below.alloc ?_ (by first | omega | (simp <;> omega)) _) | (refine below_drewN ?_ _) | (refine Below.drew ?_) | (refine Below.setCell ?_ (by first | omega | (simp <;> omega)) _)))⟩
  · have hl' : ¬ (1048576 : Int) < len := by omega
    go_enter Tryd.func4, Tryd.ntmps4
    go_wp2_with fail
    refine (drawCodeOk_any a len cap _ hc (by omega)).mono ?_; rintro e w1 ⟨u, rfl, hu1, hb1⟩
    have hu : u.size ≤ 2000000 := by omega
    clear hc
    go_wp2_with fail
    refine (codeOk_any u _ hu).mono ?_; rintro e w2 ⟨⟨c, rfl, hcP⟩, hb2⟩
    have hB2 := hb1.trans (hb2.mono hb1.size)
    clear hb2 hb1
    go_wp2_with fail
    refine (specCodeOk_any u _ hu).mono ?_; rintro e w3 ⟨⟨d, rfl, hdP⟩, rfl⟩
    have e : d = c := by rw [Bool.eq_iff_iff]; exact hdP.trans hcP.symm
    subst e
    have HP := Lib.hid hcP
    have hnn : (d != d) = false := by simp
    clear hcP hdP
    go_wp2_with fail
    refine (codeOk_yes code_empty _).mono ?_; rintro e w4 ⟨rfl, hb4⟩
    have hB4 := hB2.trans (hb4.mono hB2.size)
    clear hb4 hB2
    go_wp2_with fail
    refine (codeOk_yes code_both _).mono ?_; rintro e w5 ⟨rfl, hb5⟩
    have hB5 := hB4.trans (hb5.mono hB4.size)
    clear hb5 hB4 hnn
    cases d with
    | false =>
      go_wp2_with fail
      refine (alive_any _).mono ?_; rintro e w7 ⟨rfl, hb7⟩
      have hB7 := hB5.trans (hb7.mono hB5.size)
      go_wp2
      go_ret
      exact ⟨rfl, hB7⟩
    | true =>
      by_cases h0 : u.size = 0
      · have h0' : (u.size : Int) = 0 := by omega
        go_wp2_with fail
        refine (alive_any _).mono ?_; rintro e w7 ⟨rfl, hb7⟩
        have hB7 := hB5.trans (hb7.mono hB5.size)
        go_wp2
        go_ret
        exact ⟨rfl, hB7⟩
      · have h0' : ((u.size : Int) == 0) = false := by simpa using h0
        have hw1 : IntKind.i64.wrap ((u.size : Int) - 1) = (u.size : Int) - 1 := IntWalk.i64_in _ (by omega)
        have k0 : (0 : Int) ≤ (u.size : Int) - 1 := by omega
        have k1 : (u.size : Int) - 1 ≤ u.size := by omega
        have k2 : ((u.size : Int) - 1).toNat = u.size - 1 := by omega
        have hc := codeOk_yes (code_init (HP.out.1 rfl) (u.size - 1)) w5
        go_wp2_with fail
        refine hc.mono ?_; rintro e w6 ⟨rfl, hb6⟩
        have hB6 := hB5.trans (hb6.mono hB5.size)
        clear hb6 hB5 hc
        go_wp2_with fail
        refine (alive_any _).mono ?_; rintro e w7 ⟨rfl, hb7⟩
        have hB7 := hB6.trans (hb7.mono hB6.size)
        go_wp2
        go_ret
        exact ⟨rfl, hB7⟩

set_option maxRecDepth 100000 in
theorem lifted (os : Os) (started : os.Started) (H : Type) (enc : TypeId × Value → H) :
    ReturnsInHanded {} Tryd.checked os 4 .any (fun w args => (Rows.fnCodeOkSpec.pre enc Tryd.prog Tryd.f4 Rows.fnCodeOkRow.domain false w args ∧ laidMetH Tryd.prog Rows.fnCodeOkRow.laid w) ∧ sizedMet enc Tryd.prog Tryd.f4 (OpenSpec.ofChange Rows.fnCodeOkSpec) false w args) (Rows.fnCodeOkSpec.post enc Tryd.prog Tryd.f4 false true false false) := by
  refine returnsInHanded_of_change_and (C := Tryd.checked) (X := fun w _ => laidMetH Tryd.prog Rows.fnCodeOkRow.laid w) (fun _ _ _ hh h => h.of_heap hh) own started (by kernel_rfl) Tryd.func4
    (ChangeSpec.witness_shaped (enc := enc) (C := Tryd.checked) (os := os) (X := fun w _ => laidMetH Tryd.prog Rows.fnCodeOkRow.laid w) false (World.laidAll Tryd.prog os Rows.fnCodeOkRow.laid) #[.slice none 0 0] 8 (World.laidAll_os _ _ _)
      (World.shaped_of_ZipB (by kernel_rfl) (by kernel_rfl)) (by kernel_rfl) (by kernel_rfl) (by kernel_rfl)
      (by rw [MakeChecks.laidMetH_plain _ _ _ (by kernel_rfl)]; exact laidMet_laidAll _ (by kernel_rfl) (by kernel_rfl))) ?_
  intro W base args ds gs before hval0 hW hcnd _ hL _
  have hval : ∀ (j : Nat) t v, Tryd.f4.params[j]? = some t → args[j]? = some v → Value.okWide Tryd.prog W .any base t v := hval0
  have hW' := hW
  obtain ⟨p, q, hA0, hV, rfl, hfz, hnd⟩ := hW
  have hA : DataW.TrodAll enc Tryd.prog W 0 (fun _ => true) true Tryd.f4.params.toList args.toList ds p := hA0
  rw [Tryd.params4] at hA hval
  obtain ⟨v0, vs0, d0, ds0, p0, q0, hargs, rfl, rfl, h0, r0⟩ := trodAll_cons hA
  obtain ⟨rfl, rfl, rfl⟩ := trodAll_nil r0
  obtain rfl : args = #[v0] := by cases args; simp_all
  obtain ⟨rfl, rfl⟩ := trodVars_none hV
  obtain ⟨acode, lencode, capcode, rfl⟩ := okWide_slice Tryd.underlying22 (hval 0 22 v0 rfl rfl)
  have k0 := h0
  have lt0 : ∀ x ∈ p0, x.block < W.heap.size := by obtain ⟨m, hm⟩ := k0; exact DataW.trod_lt m _ _ _ hm
  obtain ⟨zcode, rowcode⟩ : ∃ zs, IsRow .u8 W acode lencode capcode zs := by
    obtain ⟨fuel, hf⟩ := h0
    rcases open_ints Tryd.underlying22 Tryd.underlying5 (by kernel_rfl) hf with ⟨hcs, _⟩ | ⟨x, l, c, zs, hcs, _, hl, hm, hz, _, hcell, hwz⟩
    · simp [Value.cells] at hcs
      obtain ⟨rfl, rfl, rfl⟩ := hcs
      exact ⟨[], .inl ⟨rfl, rfl, rfl, rfl⟩⟩
    · simp [Value.cells] at hcs
      obtain ⟨rfl, rfl, rfl⟩ := hcs
      exact ⟨zs, .inr ⟨_, rfl, hl, hm, by simpa using hz, hcell, hwz⟩⟩
  clear hA0 hval0
  refine (walk acode lencode capcode zcode W rowcode).mono fun e W' ⟨he, bel⟩ => ?_
  subst he
  exact ⟨_, rfl, _, _, _, [], _, [], hW', trodAll_mk1 (shut_bool Tryd.underlying4 _), (trodAll_cons_mk (Below.trod laidOut (by kernel_rfl) (of_decide_eq_true (by kernel_rfl)) k0 bel lt0) trodAll_mk0), rfl, bel.frame _, fun h => by cases h⟩

theorem facts : joinedFacts Tryd.pinned.checked.prog 4 Tryd.f4 Rows.fnCodeOkSpec Rows.fnCodeOkRow = true := by
  simp only [joinedFacts, Bool.and_eq_true]
  repeat' apply And.intro
  all_goals first | rw [mayEnter_eq] | (rw [liftsFinal_eq]; kernel_rfl) | (rw [make_eq]; kernel_rfl) | kernel_rfl

theorem over : Rows.fnCodeOkRow.holds Tryd.pinned (OpenSpec.ofChange Rows.fnCodeOkSpec) :=
  OpenClaim.holds_of_wide 4 Tryd.f4 rfl rfl rfl rfl rfl rfl rfl ⟨rfl, rfl, rfl, rfl, rfl⟩ rfl rfl rfl rfl rfl (by kernel_rfl) Tryd.func4 facts
    (of_decide_eq_true (by kernel_rfl)) (by unfold Func.isWrapper; first | (rw [if_pos (by decide +kernel)]; kernel_rfl) | (rw [if_neg (by decide +kernel)]; exact ⟨rfl, rfl⟩))
    (fun os started H enc _ => lifted os started H enc)

theorem proved : Rows.FnCodeOkCardSaid :=
  Claim7.holds_tied_plain_at .later [] [.data, .pinned] true (true, "17f2b6a40881aed9fea7733fb851286d994f7eb5e2eb1f442f4824ffd9f7c74b") false over (fun _ h => by cases h) (by kernel_rfl) (fun _ h => by cases h) fnCodeOk_row_tie rfl ⟨rfl, rfl⟩ (by kernel_rfl) rfl
    (fun f fn hf hfn => by
      obtain rfl : f = 4 := Option.some.inj ((show Tryd.prog.funcNamed Rows.fnCodeOkRow.func = some 4 by kernel_rfl).symm.trans hf) |>.symm
      obtain rfl : fn = Tryd.f4 := (Option.some.inj (Tryd.func4.symm.trans hfn)).symm
      exact ⟨by kernel_rfl, fun j t ht => by
        rw [Tryd.params4] at ht
        have hm : t ∈ [22] := by simpa using Array.mem_of_getElem? ht
        have hall : ([22].all fun u => !Tryd.prog.wantsStandIn u) = true := by kernel_rfl
        exact (show Tryd.prog.wantsStandIn t = false by simpa using List.all_eq_true.1 hall t hm)⟩)
    (by kernel_rfl)
#print axioms proved
end Go.Proofs.YtnplfgphpinoiaaDoor.lawCodeOk
