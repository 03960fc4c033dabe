/- Proves that FnFirstPoints returns true for every code, and leaves the code as it was. No conditions. -/
import Derived.Test.YthplcfnpjkhaeaaFirst2
import Derived.Test.YthplcfnpjkhaeaaDraw4
import Derived.Test.YthplcfnpjkhaeaaFun3
import Derived.Test.YthplcfnpjkhaeaaHas
set_option linter.unusedVariables false
namespace Go.Proofs.Ythplcfnpjkhaeaa.law6
open Go.ChangeShapes Go.WideShapes Go.ChangeAt Go.RowKit Go.Joins

theorem pts_ne {n s : Int} (h : tok n s = true) (j k : Nat) (hjk : j < k) (hk : (k : Int) < n) : (j : Int) * s % n ≠ (k : Int) * s % n := by
  intro e
  have h1 := from_point h (j : Int) (by omega) (by omega)
  have h2 := from_point h (k : Int) (by omega) (by omega)
  rw [e, h2] at h1
  omega

theorem pts_next {n s : Int} (h : tok n s = true) (k : Nat) : (((k : Int)) * s % n + s) % n = ((k + 1 : Nat) : Int) * s % n := by
  rw [Int.emod_add_emod]
  congr 1
  rw [Int.natCast_add, Int.add_mul]
  simp

theorem pts_last {n s : Int} (h : tok n s = true) (m : Nat) (hm : ¬ (m : Int) < n) : n - 1 ∈ ptsL n s m := by
  have hb := tok_bd h
  obtain ⟨a, b⟩ := timeF_bd h (by omega : 0 ≤ n - 1) (by omega)
  have e := pointF_timeF h (by omega : 0 ≤ n - 1) (by omega)
  rw [pointF_yes h a b] at e
  unfold ptsL
  rw [List.mem_map]
  refine ⟨(timeF n s (n - 1)).toNat, by simp; omega, ?_⟩
  rw [Int.toNat_of_nonneg a]
  exact e

set_option maxHeartbeats 1000000 in
theorem walk (a : Option Addr) (len cap : Nat) (z : List Int) (w : World) (row : IsRow .u8 w a len cap z) :
    Calls Try.prog 8 #[.slice a len cap] w fun e w' => e = .returned (.bool true) ∧ Below w.heap.size w w' := by
  
  have hc := CodeIn.of row
  clear row
  by_cases hl : 1048576 < len
  · have hl' : (1048576 : Int) < len := by omega
    go_enter Try.func8, Try.ntmps8
    go_wp2
    go_ret
    exact ⟨rfl, (by repeat (first | exact Below.refl _ _ | assumption | (refine Below.trans ?_ (Below.mono (by assumption) (by first | omega | (simp <;> omega)))) | (refine Below.alloc ?_ (by first | omega | (simp <;> omega)) _) | (refine below_drewN ?_ _) | (refine Below.drew ?_) | (refine Below.setCell ?_ (by first | omega | (simp <;> omega)) _)))⟩
  · have hl' : ¬ (1048576 : Int) < len := by omega
    go_enter Try.func8, Try.ntmps8
    go_wp2_with fail
    refine (drawFirstPoints_any a len cap _ hc (by omega)).mono ?_; rintro e w1 ⟨n, s, k, rfl, n0, n1, s0, s1, k0, k1, hb1⟩
    have hz1 := hb1.size
    try simp at hz1
    go_wp2_with fail
    refine (firstPoints_any _ _ _ _).mono ?_; rintro e w2 ⟨v1, rfl, hp2, hb2⟩
    have hz2 := hb2.size
    try simp at hz2
    have t2 : Two w2 (w1.heap.size) (.int .i64 n) (.int .i64 s) 24 := Two.below (by repeat (first | assumption | exact Two.new' _ _ _ _ _ (by simp) | refine Two.alloc ?_ _ | refine Two.drewN ?_ _)) hb2 (by first | omega | (simp <;> omega))
    have hlt2 : (w1.heap.size) < w2.heap.size := t2.lt
    have hnt2 : ¬ (w1.heap.size) = w2.heap.size := Nat.ne_of_lt hlt2
    have t2c := t2.cell0
    have t2d := t2.cell1
    go_wp2_with fail
    refine (specFirstPoints_any _ _ _ _).mono ?_; rintro e w3 ⟨v2, rfl, hq3, hb3⟩
    have hz3 := hb3.size
    try simp at hz3
    have t3 : Two w3 (w1.heap.size) (.int .i64 n) (.int .i64 s) 24 := Two.below (by repeat (first | assumption | exact Two.new' _ _ _ _ _ (by simp) | refine Two.alloc ?_ _ | refine Two.drewN ?_ _)) hb3 (by first | omega | (simp <;> omega))
    have hlt3 : (w1.heap.size) < w3.heap.size := t3.lt
    have hnt3 : ¬ (w1.heap.size) = w3.heap.size := Nat.ne_of_lt hlt3
    have t3c := t3.cell0
    have t3d := t3.cell1
    have hp3 := hp2.below hb3
    have hB3 : Below w.heap.size w w3 := (by repeat (first | exact Below.refl _ _ | assumption | (refine Below.trans ?_ (Below.mono (by assumption) (by first | omega | (simp <;> omega)))) | (refine Below.alloc ?_ (by first | omega | (simp <;> omega)) _) | (refine below_drewN ?_ _) | (refine Below.drew ?_) | (refine Below.setCell ?_ (by first | omega | (simp <;> omega)) _)))
    clear hp2 hb1 hb2 hb3
    by_cases h : tok n s = true ∧ 1 ≤ k ∧ k ≤ n
    · obtain ⟨ht, h0, h1⟩ := h
      have hb := tok_bd ht
      rw [firstF_yes ht h0 h1] at *
      obtain ⟨m, rfl⟩ := Int.eq_ofNat_of_zero_le (by omega : 0 ≤ k)
      rw [Int.toNat_natCast] at *
      have hlen := ptsL_length n s m
      go_wp2_with fail
      refine (sameInts_any v1 v2 _ _ _ hp3.reads hq3.reads (by omega) (by omega)).mono ?_; rintro e w4 ⟨rfl, nq, rfl⟩
      rw [decide_eq_true (rfl : ptsL n s m = ptsL n s m)]
      have hr : Reads (w3.drewN nq) v1 (ptsL n s m) := hp3.reads
      obtain ⟨a1, cap1, rfl, hr1⟩ := hr
      obtain ⟨g, off, rfl, hcell⟩ := hr1 (fun e => by rw [e] at hlen; simp at hlen; omega)
      clear hr1
      rw [hlen] at *
      have HC : Hid (∀ i, i < m → w3.cell? ⟨g, off + i, none⟩ = some (.int .i64 ((i : Int) * s % n))) := fun i hi => by
        have h2 := hcell i hi
        rw [ptsL_getD _ _ _ _ hi] at h2
        exact h2
      have hm0 : ((m : Int) == 0) = false := by simp; omega
      have HT := Lib.hid ht
      clear hcell ht hlen hp3 hq3
      go_wp2_with fail
      go_loopw [6] (fun x wr => ∃ k q : Nat, x = .int .i64 k ∧ k ≤ m ∧ wr = w3.drewN q) (fun x _ => m - (intOf x).toNat)
      case atStart => exact ⟨0, nq, rfl, by omega, rfl⟩
      case round =>
        obtain ⟨k, q, rfl, hk, rfl⟩ := hrel
        by_cases hkm : k < m
        · have hkm' : (k : Int) < m := by omega
          have ck := HC.out k hkm
          go_wp2_with fail
          go_loopw [7] (fun y wr => ∃ j p : Nat, y = .int .i64 j ∧ j ≤ k ∧ wr = w3.drewN p) (fun y _ => k - (intOf y).toNat)
          case atStart => exact ⟨0, q, rfl, by omega, rfl⟩
          case round =>
            obtain ⟨j, p, rfl, hj, rfl⟩ := hrel
            by_cases hjk : j < k
            · have hjk' : (j : Int) < k := by omega
              have hjm' : (j : Int) < m := by omega
              have cj := HC.out j (by omega)
              have hne : ((j : Int) * s % n == (k : Int) * s % n) = false := by simpa using pts_ne HT.out j k hjk (by omega)
              go_wp2_with fail
              go_quiet (fail)
              go_wp2_with fail
              go_roundw
              case rel => exact ⟨j + 1, p + nq, by go_num, by omega, by simp⟩
              case measure => simp only [intOf]; omega
            · have hjk' : decide ((j : Int) < k) = false := by simp; omega
              obtain rfl : j = k := by omega
              by_cases hj0 : j = 0
              · subst hj0
                go_wp2_with fail
                go_quiet (fail)
                go_wp2_with fail
                go_roundw
                case rel => exact ⟨0 + 1, p + nq, by go_num, by omega, by simp⟩
                case measure => simp only [intOf]; omega
              · obtain ⟨i, rfl⟩ : ∃ i, j = i + 1 := ⟨j - 1, by omega⟩
                have hb := tok_bd HT.out
                have ci := HC.out i (by omega)
                have ck' : w3.cell? ⟨g, off + (i + 1), none⟩ = some (.int .i64 (((i : Int) + 1) * s % n)) := by
                  have e : (((i + 1 : Nat) : Int)) * s % n = ((i : Int) + 1) * s % n := by rw [Int.natCast_add]; rfl
                  rw [← e]; exact ck
                have b0 : 0 ≤ (i : Int) * s % n := Int.emod_nonneg _ (by omega)
                have b1 : (i : Int) * s % n < n := Int.emod_lt_of_pos _ (by omega)
                have wr : IntKind.i64.wrap ((i : Int) * s % n + s) = (i : Int) * s % n + s := IntWalk.i64_in _ (by omega)
                have nz : ¬ n = 0 := by omega
                have tm : ((i : Int) * s % n + s).tmod n = ((i : Int) + 1) * s % n := by
                  rw [Int.tmod_eq_emod_of_nonneg (by omega), pts_next HT.out i, Int.natCast_add]; rfl
                have i0 : (0 : Int) ≤ i := by omega
                have i1 : (i : Int) < m := by omega
                have i2 : (i : Int) + 1 < m := by omega
                have t4c : w3.cell? ⟨w1.heap.size, 0, none⟩ = some (.int .i64 n) := t3c
                clear b0 b1 ck
                go_wp2_with fail
                go_quiet (fail)
                go_wp2_with fail
                go_roundw
                case rel => exact ⟨i + 1 + 1, p + nq, by go_num, by omega, by simp⟩
                case measure => simp only [intOf]; omega
        · obtain rfl : k = m := by omega
          have hkm' : decide ((k : Int) < k) = false := by simp
          have hb := tok_bd HT.out
          have c0 := HC.out 0 (by omega)
          have hz : ((0 : Nat) : Int) * s % n = 0 := by simp
          rw [hz] at c0
          clear hz
          simp only [Nat.add_zero] at c0
          have hk0 : (0 : Int) < k := by omega
          have t4c : w3.cell? ⟨w1.heap.size, 0, none⟩ = some (.int .i64 n) := t3c
          by_cases hkn : (k : Int) < n
          · go_wp2_with fail
            go_ret
            exact ⟨rfl, below_drewN hB3 q⟩
          · have hrd : Reads (w3.drewN q) (.slice (some ⟨g, off, none⟩) k cap1) (ptsL n s k) := by
              refine ⟨some ⟨g, off, none⟩, cap1, by rw [ptsL_length], fun _ => ⟨g, off, rfl, fun i hi => ?_⟩⟩
              rw [ptsL_length] at hi
              rw [ptsL_getD _ _ _ _ hi]
              exact HC.out i hi
            have hin := Lib.hid (decide_eq_true (pts_last HT.out k hkn))
            go_wp2_with fail
            refine (hasInt_any _ _ _ _ hrd (by rw [ptsL_length]; omega)).mono ?_; rintro e w9 ⟨rfl, rfl⟩
            rw [hin.out]
            go_wp2
            go_ret
            exact ⟨rfl, below_drewN hB3 q⟩
    · rw [firstF_no h] at *
      go_wp2_with fail
      refine (sameInts_any v1 v2 _ _ _ hp3.reads hq3.reads (by simp) (by simp)).mono ?_; rintro e w4 ⟨rfl, nq, rfl⟩
      rw [decide_eq_true (rfl : ([] : List Int) = [])]
      have hr : Reads (w3.drewN nq) v1 [] := hp3.reads
      obtain ⟨a1, cap1, rfl, hr1⟩ := hr
      clear hr1 hp3 hq3
      go_wp2_with fail
      refine (alive_any _).mono ?_; rintro e w5 ⟨rfl, hb5⟩
      go_wp2
      go_ret
      exact ⟨rfl, (by repeat (first | exact Below.refl _ _ | assumption | (refine Below.trans ?_ (Below.mono (by assumption) (by first | omega | (simp <;> omega)))) | (refine Below.alloc ?_ (by first | omega | (simp <;> omega)) _) | (refine below_drewN ?_ _) | (refine Below.drew ?_) | (refine Below.setCell ?_ (by first | omega | (simp <;> omega)) _)))⟩

set_option maxRecDepth 100000 in
theorem lifted (os : Os) (started : os.Started) (H : Type) (enc : TypeId × Value → H) :
    ReturnsInHanded {} Try.checked os 8 .any (Rows.fnFirstPointsSpec.pre6 enc Try.prog Try.f8 Rows.fnFirstPointsRow.domain false) (Rows.fnFirstPointsSpec.post enc Try.prog Try.f8 false true false false) := by
  refine returnsInHanded_of_change (C := Try.checked) own started (by kernel_rfl) Try.func8
    (ChangeSpec.witness6 (enc := enc) (C := Try.checked) false ⟨#[], #[.slice none 0 0], []⟩ 8 (by kernel_rfl) (by kernel_rfl) (by kernel_rfl) (by kernel_rfl)) ?_
  intro W base args ds gs before hval0 hW hcnd _
  have hval : ∀ (j : Nat) t v, Try.f8.params[j]? = some t → args[j]? = some v → Value.okWide Try.prog W .any base t v := hval0
  have hW' := hW
  obtain ⟨p, q, hA0, hV, rfl, hfz, hnd⟩ := hW
  have hA : DataW.TrodAll enc Try.prog W 0 (fun _ => true) true Try.f8.params.toList args.toList ds p := hA0
  rw [Try.params8] at hA hval
  obtain ⟨v0, vs0, d0, ds0, p0, q0, hargs, rfl, rfl, h0, r0⟩ := trodAll_cons hA
  obtain ⟨rfl, rfl, rfl⟩ := trodAll_nil r0
  obtain rfl : args = #[v0] := by cases args; simp_all
  obtain ⟨rfl, rfl⟩ := trodVars_none hV
  obtain ⟨acode, lencode, capcode, rfl⟩ := okWide_slice Try.underlying22 (hval 0 22 v0 rfl rfl)
  have k0 := h0
  have lt0 : ∀ x ∈ p0, x.block < W.heap.size := by obtain ⟨m, hm⟩ := k0; exact DataW.trod_lt m _ _ _ hm
  obtain ⟨zcode, rowcode⟩ : ∃ zs, IsRow .u8 W acode lencode capcode zs := by
    obtain ⟨fuel, hf⟩ := h0
    rcases open_ints Try.underlying22 Try.underlying5 (by kernel_rfl) hf with ⟨hcs, _⟩ | ⟨x, l, c, zs, hcs, _, hl, hm, hz, _, hcell, hwz⟩
    · simp [Value.cells] at hcs
      obtain ⟨rfl, rfl, rfl⟩ := hcs
      exact ⟨[], .inl ⟨rfl, rfl, rfl, rfl⟩⟩
    · simp [Value.cells] at hcs
      obtain ⟨rfl, rfl, rfl⟩ := hcs
      exact ⟨zs, .inr ⟨_, rfl, hl, hm, by simpa using hz, hcell, hwz⟩⟩
  clear hA0 hval0
  refine (walk acode lencode capcode zcode W rowcode).mono fun e W' ⟨he, bel⟩ => ?_
  subst he
  exact ⟨_, rfl, _, _, _, [], _, [], hW', trodAll_mk1 (shut_bool Try.underlying4 _), (trodAll_cons_mk (Below.trod laidOut (by kernel_rfl) (of_decide_eq_true (by kernel_rfl)) k0 bel lt0) trodAll_mk0), rfl, bel.frame _, fun h => by cases h⟩

theorem facts : joinedFacts Try.pinned.checked.prog 8 Try.f8 Rows.fnFirstPointsSpec Rows.fnFirstPointsRow = true := by
  simp only [joinedFacts, Bool.and_eq_true]
  repeat' apply And.intro
  all_goals first | rw [mayEnter_eq] | (rw [liftsFinal_eq]; kernel_rfl) | (rw [make_eq]; kernel_rfl) | kernel_rfl

theorem over : Rows.fnFirstPointsRow.holds Try.pinned (OpenSpec.ofChange Rows.fnFirstPointsSpec) :=
  OpenClaim.holds_of_wide 8 Try.f8 rfl rfl rfl rfl rfl rfl rfl ⟨rfl, rfl, rfl, rfl, rfl⟩ rfl rfl rfl rfl rfl (by kernel_rfl) Try.func8 facts
    (of_decide_eq_true (by kernel_rfl)) (by unfold Func.isWrapper; first | (rw [if_pos (by decide +kernel)]; kernel_rfl) | (rw [if_neg (by decide +kernel)]; exact ⟨rfl, rfl⟩))
    (fun os started H enc _ => lifted os started H enc)

theorem proved : Rows.FnFirstPointsSaid := over
#print axioms proved
end Go.Proofs.Ythplcfnpjkhaeaa.law6
