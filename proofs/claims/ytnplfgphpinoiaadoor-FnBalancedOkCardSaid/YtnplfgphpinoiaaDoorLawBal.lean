/- Proves that FnBalancedOk returns true for every code, and leaves the code as it was; the tables of package utf8 that its row lists are tied to the program's text. No conditions. -/
import Derived.Test.YtnplfgphpinoiaaDoorBalI
import Derived.Test.YtnplfgphpinoiaaDoorDrawB
import Derived.Test.YtnplfgphpinoiaaDoorFun3
import Derived.Test.YtnplfgphpinoiaaDoorCards
import Derived.Test.YtnplfgphpinoiaaDoorTie
import Derived.LaidMore
import Derived.Lay
import Derived.SevenTiedAt
import Derived.Stop.Joined
set_option linter.unusedVariables false
namespace Go.Proofs.YtnplfgphpinoiaaDoor.lawBalancedOk

set_option maxRecDepth 4000
open Go.ChangeShapes Go.WideShapes Go.ChangeAt Go.RowKit Go.Joins

theorem balancedOk_is {v : List Bool} {c : Bool} (hv : v.length ≤ 60) (h : c = true ↔ Bal v) (w : World) : Calls Tryd.prog 13 #[.string (txtB v)] w fun e w' => e = .returned (.bool c) ∧ Below w.heap.size w w' :=
  (balancedOk_any (txtB v) w (by rw [txtB_size]; omega)).mono fun e w' ⟨⟨d, h1, h2⟩, h3⟩ => ⟨by
    have e : d = c := by rw [Bool.eq_iff_iff]; exact h2.trans ((balP_txt hv).trans h.symm)
    rw [h1, e], h3⟩

theorem one_letter {v : List Bool} {k : Nat} (h : k < v.length) : (txtB v).extract k (k + 1) = txtB [v.getD k false] := by
  rw [txtB_extract, show k + 1 - k = 1 by omega, List.take_one, List.head?_drop, List.getElem?_eq_getElem h, List.getD_eq_getElem?_getD, List.getElem?_eq_getElem h]
  rfl

theorem take_more {v : List Bool} {k : Nat} (h : k < v.length) : v.take (k + 1) = v.take k ++ [v.getD k false] := by
  rw [List.take_add_one, List.getElem?_eq_getElem h, List.getD_eq_getElem?_getD, List.getElem?_eq_getElem h]
  rfl

set_option maxHeartbeats 4000000 in
theorem walk (a : Option Addr) (len cap : Nat) (z : List Int) (w : World) (row : IsRow .u8 w a len cap z) :
    Calls Tryd.prog 5 #[.slice a len cap] w fun e w' => e = .returned (.bool true) ∧ Below w.heap.size w w' := by
  have hc := CodeIn.of row
  clear row
  by_cases hl : 1048576 < len
  · have hl' : (1048576 : Int) < len := by omega
    go_enter Tryd.func5, Tryd.ntmps5
    go_wp2
    go_ret
    exact ⟨rfl, (by repeat (first | exact Below.refl _ _ | assumption | (refine Below.trans ?_ (Below.mono (by assumption) (by first | omega | (simp <;> omega)))) | (refine Below.alloc ?_ (by first | omega | (simp <;> omega)) _) | (refine below_drewN ?_ _) | (refine Below.drew ?_) | (refine Below.setCell ?_ (by first | omega | (simp <;> omega)) _)))⟩
  · have hl' : ¬ (1048576 : Int) < len := by omega
    go_enter Tryd.func5, Tryd.ntmps5
    go_wp2_with fail
    refine (drawBalancedOk_any a len cap _ hc (by omega)).mono ?_; rintro e w1 ⟨u, rfl, hu1, hb1⟩
    have hu : u.size ≤ 2000000 := by omega
    clear hc
    go_wp2_with fail
    refine (balancedOk_any u _ hu).mono ?_; rintro e w2 ⟨⟨c, rfl, hcP⟩, hb2⟩
    have hB2 := hb1.trans (hb2.mono hb1.size)
    clear hb2 hb1
    go_wp2_with fail
    refine (specBalancedOk_any u _ hu).mono ?_; rintro e w3 ⟨⟨d, rfl, hdP⟩, rfl⟩
    have e : d = c := by rw [Bool.eq_iff_iff]; exact hdP.trans hcP.symm
    subst e
    have HP := Lib.hid hcP
    have hnn : (d != d) = false := by simp
    clear hcP hdP
    go_wp2_with fail
    refine (specCodeOk_any u _ hu).mono ?_; rintro e w4 ⟨⟨f, rfl, hf⟩, rfl⟩
    cases f with
    | false =>
      have hd : d = false := by
        cases d with
        | false => rfl
        | true =>
          have := hf.2 (balP_code (HP.out.1 rfl))
          cases this
      subst hd
      clear hf hnn
      go_wp2_with fail
      refine (alive_any _).mono ?_; rintro e w7 ⟨rfl, hb7⟩
      have hB7 := hB2.trans (hb7.mono hB2.size)
      go_wp2
      go_ret
      exact ⟨rfl, hB7⟩
    | true =>
      obtain ⟨v, hv, rfl⟩ := codeP_bits (hf.1 rfl)
      clear hf hnn
      have HD := Lib.hid (HP.out.trans (balP_txt hv))
      have hz : (txtB v).size = v.length := txtB_size v
      obtain ⟨n, hn⟩ : ∃ n, v.length = n := ⟨_, rfl⟩
      have hzn : ((txtB v).size : Int) = n := by rw [hz, hn]
      have HN := Lib.hid hn
      have hget : ∀ k, k < n → ∃ h : k < (txtB v).size, ((txtB v)[k].toNat : Int) = bI (v.getD k false) := fun k hk => by
        have h : k < (txtB v).size := by omega
        refine ⟨h, ?_⟩
        rw [txtB_get h]
        cases v.getD k false <;> rfl
      have HG := Lib.hid hget
      have HU := Lib.hid (show ∀ k, k < n → (txtB v).extract k (k + 1) = txtB [v.getD k false] from fun k hk => one_letter (by omega))
      have HT := Lib.hid (show (txtB v).extract 1 (txtB v).size = txtB (v.drop 1) by rw [txtB_extract, txtB_size, List.take_of_length_le (by rw [List.length_drop]; omega)])
      have HI := Lib.hid (show (txtB v).extract 0 (n - 1) = txtB (v.take (n - 1)) by rw [txtB_extract, List.drop_zero, Nat.sub_zero])
      rw [hn] at hv
      clear hget hn hz hu hu1 HP
      obtain ⟨U, hU⟩ : ∃ U, txtB v = U := ⟨_, rfl⟩
      rw [hU] at hzn HG HU HT HI ⊢
      clear hU
      go_wp2_with fail
      go_loop [5, 6, 7] (fun a b c => ∃ (k : Nat) (A B : ByteArray), a = .string A ∧ b = .string B ∧ c = .int .i64 k ∧ k ≤ n ∧ A.size ≤ 60 ∧ B.size ≤ 60 ∧ Hid (A = txtB (v.take k).reverse) ∧ Hid (B = txtB ((v.take k).map (!·)))) (fun _ _ c => n - (intOf c).toNat)
      case atStart => exact ⟨0, ⟨#[]⟩, ⟨#[]⟩, rfl, rfl, rfl, by omega, by decide, by decide, rfl, rfl⟩
      case round =>
        obtain ⟨k, A, B, rfl, rfl, rfl, hk, hA, hB, HA, HB⟩ := hrel
        by_cases hkn : k < n
        · have hkn' : (k : Int) < n := by omega
          obtain ⟨hI, hval⟩ := HG.out k hkn
          have hT := take_more (v := v) (k := k) (by rw [HN.out]; exact hkn)
          have hE := HU.out k hkn
          have hs1 : (U.extract k (k + 1)).size = 1 := by rw [hE]; exact txtB_size _
          have hlt : (v.take (k + 1)).length ≤ 60 := by rw [List.length_take]; omega
          have hA2 : Hid (U.extract k (k + 1) ++ A = txtB (v.take (k + 1)).reverse) := by
            show _ = _
            rw [HA.out, hE, txtB_append, hT, List.reverse_append]; rfl
          have hA3 : (U.extract k (k + 1) ++ A).size ≤ 60 := by rw [hA2.out, txtB_size, List.length_reverse]; exact hlt
          have hw1 : IntKind.i64.wrap ((k : Int) + 1) = (k : Int) + 1 := IntWalk.i64_in _ (by omega)
          have q0 : (0 : Int) ≤ k := by omega
          have q1 : (k : Int) ≤ (k : Int) + 1 := by omega
          have q2 : (k : Int) + 1 ≤ n := by omega
          have q3 : ((k : Int) + 1).toNat = k + 1 := by omega
          have q4 : (0 : Int) ≤ (k : Int) + 1 := by omega
          cases hb : v.getD k false with
          | true =>
            rw [hb] at hval hT
            have c49 : (U[k].toNat : Int) = 49 := hval
            have hB2' : Hid (B ++ ⟨#[48]⟩ = txtB ((v.take (k + 1)).map (!·))) := by
              show _ = _
              rw [HB.out, hT, List.map_append, ← txtB_append]; rfl
            have hB3 : (B ++ ⟨#[48]⟩).size ≤ 60 := by rw [hB2'.out, txtB_size, List.length_map]; exact hlt
            clear hval hb hT hE hlt
            go_wp2_with fail
            go_round
            case rel => exact ⟨k + 1, _, _, rfl, rfl, by go_num, by omega, hA3, hB3, hA2.out, hB2'.out⟩
            case measure => simp only [intOf]; omega
          | false =>
            rw [hb] at hval hT
            have c48 : (U[k].toNat : Int) = 48 := hval
            have hB2' : Hid (B ++ ⟨#[49]⟩ = txtB ((v.take (k + 1)).map (!·))) := by
              show _ = _
              rw [HB.out, hT, List.map_append, ← txtB_append]; rfl
            have hB3 : (B ++ ⟨#[49]⟩).size ≤ 60 := by rw [hB2'.out, txtB_size, List.length_map]; exact hlt
            clear hval hb hT hE hlt
            go_wp2_with fail
            go_round
            case rel => exact ⟨k + 1, _, _, rfl, rfl, by go_num, by omega, hA3, hB3, hA2.out, hB2'.out⟩
            case measure => simp only [intOf]; omega
        · have hkn' : ¬ (k : Int) < n := by omega
          have hkN : k = n := by omega
          have hall : v.take k = v := List.take_of_length_le (by rw [HN.out]; omega)
          have eA : A = txtB v.reverse := by rw [HA.out, hall]
          have eB : B = txtB (v.map (!·)) := by rw [HB.out, hall]
          subst eA eB
          clear HA HB hall
          have h1 := balancedOk_is (v := v.reverse) (c := d) (by rw [List.length_reverse, HN.out]; exact hv) (HD.out.trans bal_rev_iff.symm)
          have h2 := balancedOk_is (v := v.map (!·)) (c := d) (by rw [List.length_map, HN.out]; exact hv) (HD.out.trans bal_not_iff.symm)
          go_wp2_with fail
          refine (h1 _).mono ?_; rintro e w5 ⟨rfl, hb5⟩
          have hB5 := hB2.trans (hb5.mono hB2.size)
          clear h1 hb5 hB2
          have hdd : (d == d) = true := by simp
          go_wp2_with fail
          refine (h2 _).mono ?_; rintro e w6 ⟨rfl, hb6⟩
          have hB6 := hB5.trans (hb6.mono hB5.size)
          clear h2 hb6 hB5 hA hB
          cases d with
          | false =>
            go_wp2_with fail
            refine (alive_any _).mono ?_; rintro e w7 ⟨rfl, hb7⟩
            have hB7 := hB6.trans (hb7.mono hB6.size)
            go_wp2
            go_ret
            exact ⟨rfl, hB7⟩
          | true =>
            have hbal := HD.out.1 rfl
            by_cases h0 : n = 0
            · have h0' : (n : Int) = 0 := by omega
              clear hbal
              go_wp2_with fail
              refine (alive_any _).mono ?_; rintro e w7 ⟨rfl, hb7⟩
              have hB7 := hB6.trans (hb7.mono hB6.size)
              go_wp2
              go_ret
              exact ⟨rfl, hB7⟩
            · have h0' : ((n : Int) == 0) = false := by simp; omega
              have hw1 : IntKind.i64.wrap ((n : Int) - 1) = (n : Int) - 1 := IntWalk.i64_in _ (by omega)
              have k0 : (0 : Int) ≤ (n : Int) - 1 := by omega
              have k1 : (n : Int) - 1 ≤ n := by omega
              have k2 : ((n : Int) - 1).toNat = n - 1 := by omega
              have k3 : (1 : Int) ≤ n := by omega
              have h3 := balancedOk_is (v := v.drop 1) (c := true) (by rw [List.length_drop, HN.out]; omega) ⟨fun _ => hbal.tail (by rw [HN.out]; omega), fun _ => rfl⟩
              have h4 := balancedOk_is (v := v.take (n - 1)) (c := true) (by rw [List.length_take, HN.out]; omega) ⟨fun _ => hbal.init (by rw [HN.out]; omega), fun _ => rfl⟩
              clear hbal
              rw [← HT.out] at h3
              rw [← HI.out] at h4
              go_wp2_with fail
              refine (h3 _).mono ?_; rintro e w7 ⟨rfl, hb7⟩
              have hB7 := hB6.trans (hb7.mono hB6.size)
              clear h3 hb7 hB6
              go_wp2_with fail
              refine (h4 _).mono ?_; rintro e w8 ⟨rfl, hb8⟩
              have hB8 := hB7.trans (hb8.mono hB7.size)
              clear h4 hb8 hB7
              go_wp2_with fail
              refine (alive_any _).mono ?_; rintro e w9 ⟨rfl, hb9⟩
              have hB9 := hB8.trans (hb9.mono hB8.size)
              go_wp2
              go_ret
              exact ⟨rfl, hB9⟩

set_option maxRecDepth 100000 in
theorem lifted (os : Os) (started : os.Started) (H : Type) (enc : TypeId × Value → H) :
    ReturnsInHanded {} Tryd.checked os 5 .any (fun w args => (Rows.fnBalancedOkSpec.pre enc Tryd.prog Tryd.f5 Rows.fnBalancedOkRow.domain false w args ∧ laidMetH Tryd.prog Rows.fnBalancedOkRow.laid w) ∧ sizedMet enc Tryd.prog Tryd.f5 (OpenSpec.ofChange Rows.fnBalancedOkSpec) false w args) (Rows.fnBalancedOkSpec.post enc Tryd.prog Tryd.f5 false true false false) := by
  refine returnsInHanded_of_change_and (C := Tryd.checked) (X := fun w _ => laidMetH Tryd.prog Rows.fnBalancedOkRow.laid w) (fun _ _ _ hh h => h.of_heap hh) own started (by kernel_rfl) Tryd.func5
    (ChangeSpec.witness_shaped (enc := enc) (C := Tryd.checked) (os := os) (X := fun w _ => laidMetH Tryd.prog Rows.fnBalancedOkRow.laid w) false (World.laidAll Tryd.prog os Rows.fnBalancedOkRow.laid) #[.slice none 0 0] 8 (World.laidAll_os _ _ _)
      (World.shaped_of_ZipB (by kernel_rfl) (by kernel_rfl)) (by kernel_rfl) (by kernel_rfl) (by kernel_rfl)
      (by rw [MakeChecks.laidMetH_plain _ _ _ (by kernel_rfl)]; exact laidMet_laidAll _ (by kernel_rfl) (by kernel_rfl))) ?_
  intro W base args ds gs before hval0 hW hcnd _ hL _
  have hval : ∀ (j : Nat) t v, Tryd.f5.params[j]? = some t → args[j]? = some v → Value.okWide Tryd.prog W .any base t v := hval0
  have hW' := hW
  obtain ⟨p, q, hA0, hV, rfl, hfz, hnd⟩ := hW
  have hA : DataW.TrodAll enc Tryd.prog W 0 (fun _ => true) true Tryd.f5.params.toList args.toList ds p := hA0
  rw [Tryd.params5] at hA hval
  obtain ⟨v0, vs0, d0, ds0, p0, q0, hargs, rfl, rfl, h0, r0⟩ := trodAll_cons hA
  obtain ⟨rfl, rfl, rfl⟩ := trodAll_nil r0
  obtain rfl : args = #[v0] := by cases args; simp_all
  obtain ⟨rfl, rfl⟩ := trodVars_none hV
  obtain ⟨acode, lencode, capcode, rfl⟩ := okWide_slice Tryd.underlying22 (hval 0 22 v0 rfl rfl)
  have k0 := h0
  have lt0 : ∀ x ∈ p0, x.block < W.heap.size := by obtain ⟨m, hm⟩ := k0; exact DataW.trod_lt m _ _ _ hm
  obtain ⟨zcode, rowcode⟩ : ∃ zs, IsRow .u8 W acode lencode capcode zs := by
    obtain ⟨fuel, hf⟩ := h0
    rcases open_ints Tryd.underlying22 Tryd.underlying5 (by kernel_rfl) hf with ⟨hcs, _⟩ | ⟨x, l, c, zs, hcs, _, hl, hm, hz, _, hcell, hwz⟩
    · simp [Value.cells] at hcs
      obtain ⟨rfl, rfl, rfl⟩ := hcs
      exact ⟨[], .inl ⟨rfl, rfl, rfl, rfl⟩⟩
    · simp [Value.cells] at hcs
      obtain ⟨rfl, rfl, rfl⟩ := hcs
      exact ⟨zs, .inr ⟨_, rfl, hl, hm, by simpa using hz, hcell, hwz⟩⟩
  clear hA0 hval0
  refine (walk acode lencode capcode zcode W rowcode).mono fun e W' ⟨he, bel⟩ => ?_
  subst he
  exact ⟨_, rfl, _, _, _, [], _, [], hW', trodAll_mk1 (shut_bool Tryd.underlying4 _), (trodAll_cons_mk (Below.trod laidOut (by kernel_rfl) (of_decide_eq_true (by kernel_rfl)) k0 bel lt0) trodAll_mk0), rfl, bel.frame _, fun h => by cases h⟩

theorem facts : joinedFacts Tryd.pinned.checked.prog 5 Tryd.f5 Rows.fnBalancedOkSpec Rows.fnBalancedOkRow = true := by
  simp only [joinedFacts, Bool.and_eq_true]
  repeat' apply And.intro
  all_goals first | rw [mayEnter_eq] | (rw [liftsFinal_eq]; kernel_rfl) | (rw [make_eq]; kernel_rfl) | kernel_rfl

theorem over : Rows.fnBalancedOkRow.holds Tryd.pinned (OpenSpec.ofChange Rows.fnBalancedOkSpec) :=
  OpenClaim.holds_of_wide 5 Tryd.f5 rfl rfl rfl rfl rfl rfl rfl ⟨rfl, rfl, rfl, rfl, rfl⟩ rfl rfl rfl rfl rfl (by kernel_rfl) Tryd.func5 facts
    (of_decide_eq_true (by kernel_rfl)) (by unfold Func.isWrapper; first | (rw [if_pos (by decide +kernel)]; kernel_rfl) | (rw [if_neg (by decide +kernel)]; exact ⟨rfl, rfl⟩))
    (fun os started H enc _ => lifted os started H enc)

theorem proved : Rows.FnBalancedOkCardSaid :=
  Claim7.holds_tied_plain_at .later [] [.data, .pinned] true (true, "17f2b6a40881aed9fea7733fb851286d994f7eb5e2eb1f442f4824ffd9f7c74b") false over (fun _ h => by cases h) (by kernel_rfl) (fun _ h => by cases h) fnBalancedOk_row_tie rfl ⟨rfl, rfl⟩ (by kernel_rfl) rfl
    (fun f fn hf hfn => by
      obtain rfl : f = 5 := Option.some.inj ((show Tryd.prog.funcNamed Rows.fnBalancedOkRow.func = some 5 by kernel_rfl).symm.trans hf) |>.symm
      obtain rfl : fn = Tryd.f5 := (Option.some.inj (Tryd.func5.symm.trans hfn)).symm
      exact ⟨by kernel_rfl, fun j t ht => by
        rw [Tryd.params5] at ht
        have hm : t ∈ [22] := by simpa using Array.mem_of_getElem? ht
        have hall : ([22].all fun u => !Tryd.prog.wantsStandIn u) = true := by kernel_rfl
        exact (show Tryd.prog.wantsStandIn t = false by simpa using List.all_eq_true.1 hall t hm)⟩)
    (by kernel_rfl)
#print axioms proved
end Go.Proofs.YtnplfgphpinoiaaDoor.lawBalancedOk
