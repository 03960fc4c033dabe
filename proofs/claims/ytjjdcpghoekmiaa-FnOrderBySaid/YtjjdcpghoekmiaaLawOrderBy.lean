/- Proves that FnOrderBy returns true for every code, and leaves the code as it was. No conditions. -/
import Derived.Test.YtjjdcpghoekmiaaDrawO
import Derived.Test.YtjjdcpghoekmiaaOrdC
import Derived.Test.YtjjdcpghoekmiaaHas
import Derived.Test.YtjjdcpghoekmiaaFun3
set_option linter.unusedVariables false
namespace Go.Proofs.Ytjjdcpghoekmiaa.lawOrderBy
open Go.ChangeShapes Go.WideShapes Go.ChangeAt Go.RowKit Go.Joins N

set_option maxHeartbeats 4000000 in

set_option maxRecDepth 4000 in
theorem walk (a : Option Addr) (len cap : Nat) (z : List Int) (w : World) (row : IsRow .u8 w a len cap z) :
    Calls Try.prog 4 #[.slice a len cap] w fun e w' => e = .returned (.bool true) ∧ Below w.heap.size w w' := by
  have hc := CodeIn.of row
  clear row
  by_cases hl : 1048576 < len
  · have hl' : (1048576 : Int) < len := by omega
    go_enter Try.func4, Try.ntmps4
    go_wp2
    go_ret
    exact ⟨rfl, (by repeat (first | exact Below.refl _ _ | assumption | (refine Below.trans ?_ (Below.mono (by assumption) (by first | omega | (simp <;> omega)))) | (refine Below.alloc ?_ (by first | omega | (simp <;> omega)) _) | (refine below_drewN ?_ _) | (refine Below.drew ?_) | (refine Below.setCell ?_ (by first | omega | (simp <;> omega)) _)))⟩
  · have hl' : ¬ (1048576 : Int) < len := by omega
    go_enter Try.func4, Try.ntmps4
    go_wp2_with fail
    refine (drawOrderBy_any a len cap _ hc (by omega)).mono ?_; rintro e w1 ⟨m, u, d, rfl, hb1⟩
    have hs := specOrderBy_any m u d
    have hi := orderBy_any m u d
    have hnn : ∀ b : Bool, (b != b) = false := fun b => by simp
    by_cases hok : okBy m u d
    · obtain ⟨hbk, hbn⟩ := by_back hok
      have hall := by_all hok
      have hi2 := orderBy_any m d u
      rw [orderByF_yes hok] at hs hi
      rw [orderByF_yes hbk] at hi2
      unfold PairPost at hs hi hi2
      dsimp only at hs hi hi2
      obtain ⟨ma, mz, _⟩ := hok
      obtain ⟨M, rfl⟩ := Int.eq_ofNat_of_zero_le (by omega : 0 ≤ m)
      rw [Int.toNat_natCast] at hs hi hi2 hbn hall
      have HIn : Hid (∀ k : Nat, k < M → (k : Int) ∈ listBy M u d M) := fun k hk => by
        obtain ⟨j, hj, e⟩ := hall k (by omega) (by omega)
        exact List.mem_map.2 ⟨j, by simpa using hj, e⟩
      have HBk := Lib.hid hbn
      have hlen := listBy_len M u d M
      have hlen2 := listBy_len M d u M
      clear hbk hall hbn
      go_wp2_with fail
      refine (hi _).mono ?_; rintro e w2 ⟨v1, rfl, hp2, hb2⟩
      go_wp2_with fail
      refine (hs _).mono ?_; rintro e w3 ⟨v2, rfl, hq3, hb3⟩
      have hp3 := hp2.below hb3
      have hB2 := hb1.trans (hb2.mono hb1.size)
      have hB3 := hB2.trans (hb3.mono hB2.size)
      clear hp2 hb1 hb2 hb3 hs hi hB2
      have hnt := hnn true
      go_wp2_with fail
      refine (sameInts_any v1 v2 _ _ _ (OwnL.reads hp3) (OwnL.reads hq3) (by omega) (by omega)).mono ?_; rintro e w4 ⟨rfl, nq, rfl⟩
      rw [decide_eq_true rfl]
      have hp4 : OwnL (w3.drewN nq) _ v1 (listBy M u d M) := hp3
      have hB4 := below_drewN hB3 nq
      clear hq3 hp3 hB3
      generalize w3.drewN nq = w4 at *
      go_wp2_with fail
      go_loop [10] (fun x => ∃ k : Nat, x = .int .i64 k ∧ k ≤ M) (fun x => M - (intOf x).toNat)
      case atStart => exact ⟨0, rfl, by omega⟩
      case round =>
        obtain ⟨k, rfl, hk⟩ := hrel
        by_cases hkm : k < M
        · have hkm' : (k : Int) < M := by omega
          have hin := HIn.out k hkm
          go_wp2_with fail
          refine (hasInt_any v1 _ (k : Int) _ (OwnL.reads hp4) (by omega)).mono ?_; rintro e w5 ⟨rfl, rfl⟩
          rw [decide_eq_true hin]
          clear hin
          go_wp2_with fail
          go_round
          case rel => exact ⟨k + 1, by go_num, by omega⟩
          case measure => simp only [intOf]; omega
        · obtain rfl : k = M := by omega
          have hkm' : decide ((k : Int) < k) = false := by simp
          go_wp2_with fail
          refine (hi2 _).mono ?_; rintro e w5 ⟨v5, rfl, hp5, hb5⟩
          have hq5 := hp4.below hb5
          have hB5 := hB4.trans (hb5.mono hB4.size)
          obtain ⟨ga, cap1, rfl, HC0⟩ := (OwnL.reads hq5).cells hlen
          obtain ⟨g, off, rfl, HC⟩ := HC0 (by omega)
          obtain ⟨gb, cap2, rfl, HD0⟩ := (OwnL.reads hp5).cells hlen2
          obtain ⟨g2, off2, rfl, HD⟩ := HD0 (by omega)
          have HC2 : Hid (∀ j, j < k → w5.cell? ⟨g, off + j, none⟩ = some (.int .i64 (nowBy k u d j))) := fun j hj => by rw [HC.out j hj, listBy_getD _ _ _ hj]
          have HD2 : Hid (∀ j, j < k → w5.cell? ⟨g2, off2 + j, none⟩ = some (.int .i64 (nowBy k d u j))) := fun j hj => by rw [HD.out j hj, listBy_getD _ _ _ hj]
          have hd0 := HD2.out 0 (by omega)
          rw [Nat.add_zero, show nowBy (k : Int) d u 0 = 0 from rfl] at hd0
          have hkk : ((k : Int) != k) = false := by simp
          have hk0 : (0 : Int) < k := by omega
          clear HC0 HD0 HC HD hq5 hp5 hb5 hp4 hB4 hi2 hlen hlen2 HIn hkm
          go_wp2_with fail
          go_loopw [13] (fun x wr => ∃ j q : Nat, x = .int .i64 j ∧ 1 ≤ j ∧ j ≤ k ∧ wr = w5.drewN q) (fun x _ => k - (intOf x).toNat)
          case atStart => exact ⟨1, 0, rfl, by omega, by omega, rfl⟩
          case round =>
            obtain ⟨j, q, rfl, hj1, hj, rfl⟩ := hrel
            by_cases hjk : j < k
            · have hjk' : (j : Int) < k := by omega
              have c1 := HD2.out j hjk
              have c2 := HC2.out (k - j) (by omega)
              rw [HBk.out j hj1 (by omega)] at c1
              generalize nowBy (k : Int) u d (k - j) = X at *
              have i0 : (0 : Int) ≤ (k : Int) - j := by omega
              have i1 : (k : Int) - j < k := by omega
              have i2 : ((k : Int) - j).toNat = k - j := by omega
              have i3 : IntKind.i64.wrap ((k : Int) - j) = (k : Int) - j := IntWalk.i64_in _ (by omega)
              have i4 : (j : Int) ≤ k := by omega
              have xx : (X != X) = false := by simp
              clear HD2 HC2 HBk
              go_wp2_with fail
              go_quiet (fail)
              go_wp2_with fail
              go_roundw
              case rel => exact ⟨j + 1, q + nq, by go_num, by omega, by omega, by simp⟩
              case measure => simp only [intOf]; omega
            · obtain rfl : j = k := by omega
              have hjk' : decide ((j : Int) < j) = false := by simp
              clear HD2 HC2 HBk
              go_wp2
              go_ret
              exact ⟨rfl, below_drewN hB5 q⟩
    · rw [orderByF_no hok] at hs hi
      unfold PairPost at hs hi
      dsimp only at hs hi
      clear hok
      go_wp2_with fail
      refine (hi _).mono ?_; rintro e w2 ⟨v1, rfl, hp2, hb2⟩
      go_wp2_with fail
      refine (hs _).mono ?_; rintro e w3 ⟨v2, rfl, hq3, hb3⟩
      have hp3 := hp2.below hb3
      have hB2 := hb1.trans (hb2.mono hb1.size)
      have hB3 := hB2.trans (hb3.mono hB2.size)
      clear hp2 hb1 hb2 hb3 hs hi hB2
      have hnt := hnn false
      go_wp2_with fail
      refine (sameInts_any v1 v2 [] [] _ (OwnL.reads hp3) (OwnL.reads hq3) (by simp) (by simp)).mono ?_; rintro e w4 ⟨rfl, nq, rfl⟩
      rw [decide_eq_true rfl]
      have hp4 : OwnL (w3.drewN nq) _ v1 [] := hp3
      have hB4 := below_drewN hB3 nq
      clear hq3 hp3 hB3
      generalize w3.drewN nq = w4 at *
      obtain ⟨ga, cap1, rfl⟩ := nil_cells (OwnL.reads hp4)
      clear hp4
      go_wp2_with fail
      refine (alive_any _).mono ?_; rintro e w5 ⟨rfl, hb5⟩
      go_wp2
      go_ret
      exact ⟨rfl, hB4.trans (hb5.mono hB4.size)⟩

set_option maxRecDepth 100000 in
theorem lifted (os : Os) (started : os.Started) (H : Type) (enc : TypeId × Value → H) :
    ReturnsInHanded {} Try.checked os 4 .any (Rows.fnOrderBySpec.pre6 enc Try.prog Try.f4 Rows.fnOrderByRow.domain false) (Rows.fnOrderBySpec.post enc Try.prog Try.f4 false true false false) := by
  refine returnsInHanded_of_change (C := Try.checked) own started (by kernel_rfl) Try.func4
    (ChangeSpec.witness6 (enc := enc) (C := Try.checked) false ⟨#[], #[.slice none 0 0], []⟩ 8 (by kernel_rfl) (by kernel_rfl) (by kernel_rfl) (by kernel_rfl)) ?_
  intro W base args ds gs before hval0 hW hcnd _
  have hval : ∀ (j : Nat) t v, Try.f4.params[j]? = some t → args[j]? = some v → Value.okWide Try.prog W .any base t v := hval0
  have hW' := hW
  obtain ⟨p, q, hA0, hV, rfl, hfz, hnd⟩ := hW
  have hA : DataW.TrodAll enc Try.prog W 0 (fun _ => true) true Try.f4.params.toList args.toList ds p := hA0
  rw [Try.params4] at hA hval
  obtain ⟨v0, vs0, d0, ds0, p0, q0, hargs, rfl, rfl, h0, r0⟩ := trodAll_cons hA
  obtain ⟨rfl, rfl, rfl⟩ := trodAll_nil r0
  obtain rfl : args = #[v0] := by cases args; simp_all
  obtain ⟨rfl, rfl⟩ := trodVars_none hV
  obtain ⟨acode, lencode, capcode, rfl⟩ := okWide_slice Try.underlying22 (hval 0 22 v0 rfl rfl)
  have k0 := h0
  have lt0 : ∀ x ∈ p0, x.block < W.heap.size := by obtain ⟨m, hm⟩ := k0; exact DataW.trod_lt m _ _ _ hm
  obtain ⟨zcode, rowcode⟩ : ∃ zs, IsRow .u8 W acode lencode capcode zs := by
    obtain ⟨fuel, hf⟩ := h0
    rcases open_ints Try.underlying22 Try.underlying5 (by kernel_rfl) hf with ⟨hcs, _⟩ | ⟨x, l, c, zs, hcs, _, hl, hm, hz, _, hcell, hwz⟩
    · simp [Value.cells] at hcs
      obtain ⟨rfl, rfl, rfl⟩ := hcs
      exact ⟨[], .inl ⟨rfl, rfl, rfl, rfl⟩⟩
    · simp [Value.cells] at hcs
      obtain ⟨rfl, rfl, rfl⟩ := hcs
      exact ⟨zs, .inr ⟨_, rfl, hl, hm, by simpa using hz, hcell, hwz⟩⟩
  clear hA0 hval0
  refine (walk acode lencode capcode zcode W rowcode).mono fun e W' ⟨he, bel⟩ => ?_
  subst he
  exact ⟨_, rfl, _, _, _, [], _, [], hW', trodAll_mk1 (shut_bool Try.underlying4 _), (trodAll_cons_mk (Below.trod laidOut (by kernel_rfl) (of_decide_eq_true (by kernel_rfl)) k0 bel lt0) trodAll_mk0), rfl, bel.frame _, fun h => by cases h⟩

theorem facts : joinedFacts Try.pinned.checked.prog 4 Try.f4 Rows.fnOrderBySpec Rows.fnOrderByRow = true := by
  simp only [joinedFacts, Bool.and_eq_true]
  repeat' apply And.intro
  all_goals first | rw [mayEnter_eq] | (rw [liftsFinal_eq]; kernel_rfl) | (rw [make_eq]; kernel_rfl) | kernel_rfl

theorem over : Rows.fnOrderByRow.holds Try.pinned (OpenSpec.ofChange Rows.fnOrderBySpec) :=
  OpenClaim.holds_of_wide 4 Try.f4 rfl rfl rfl rfl rfl rfl rfl ⟨rfl, rfl, rfl, rfl, rfl⟩ rfl rfl rfl rfl rfl (by kernel_rfl) Try.func4 facts
    (of_decide_eq_true (by kernel_rfl)) (by unfold Func.isWrapper; first | (rw [if_pos (by decide +kernel)]; kernel_rfl) | (rw [if_neg (by decide +kernel)]; exact ⟨rfl, rfl⟩))
    (fun os started H enc _ => lifted os started H enc)

theorem proved : Rows.FnOrderBySaid := over
#print axioms proved
end Go.Proofs.Ytjjdcpghoekmiaa.lawOrderBy
