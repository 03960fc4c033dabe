/- Proves that FnReturnsBy returns true for every code, and leaves the code as it was. No conditions. -/
import Derived.Test.YtppahekbgbbidacHead
import Derived.Test.YtppahekbgbbidacGRetI
import Derived.Test.YtppahekbgbbidacRetG
import Derived.Test.YtppahekbgbbidacDrawR
import Derived.Test.YtppahekbgbbidacGFun2
set_option linter.unusedVariables false
namespace Go.Proofs.Ytppahekbgbbidac.lawReturnsBy

set_option maxRecDepth 4000
open Go.ChangeShapes Go.WideShapes Go.ChangeAt Go.RowKit Go.Joins N

theorem total (a b p q m n : Int) (h : a * q + b * p = n) : a * (m - p) + b * (m - q) + (a + b) * (p + q - m) = n := by
  rw [Int.mul_sub, Int.mul_sub, Int.add_mul, Int.mul_sub, Int.mul_sub, Int.mul_add, Int.mul_add]
  omega

theorem bd {a b : Int} (a0 : 0 ≤ a) (a1 : a ≤ 120) (b0 : 0 ≤ b) (b1 : b ≤ 120) : 0 ≤ a * b ∧ a * b ≤ 14400 :=
  ⟨Int.mul_nonneg a0 b0, Int.le_trans (Int.mul_le_mul a1 b1 b0 (by omega)) (by omega)⟩

set_option maxHeartbeats 4000000 in
theorem walk (a : Option Addr) (len cap : Nat) (z : List Int) (w : World) (row : IsRow .u8 w a len cap z) :
    Calls Try.prog 7 #[.slice a len cap] w fun e w' => e = .returned (.bool true) ∧ Below w.heap.size w w' := by
  
  have hc := CodeIn.of row
  clear row
  by_cases hl : 1048576 < len
  · have hl' : (1048576 : Int) < len := by omega
    go_enter Try.func7, Try.ntmps7
    go_wp2
    go_ret
    exact ⟨rfl, (by repeat (first | exact Below.refl _ _ | assumption | (refine Below.trans ?_ (Below.mono (by assumption) (by first | omega | (simp <;> omega)))) | (refine Below.alloc ?_ (by first | omega | (simp <;> omega)) _) | (refine below_drewN ?_ _) | (refine Below.drew ?_) | (refine Below.setCell ?_ (by first | omega | (simp <;> omega)) _)))⟩
  · have hl' : ¬ (1048576 : Int) < len := by omega
    go_enter Try.func7, Try.ntmps7
    go_wp2_with fail
    refine (drawReturnsBy_any a len cap _ hc (by omega)).mono ?_; rintro e w1 ⟨n, s, k, rfl, k0, k1, hb1⟩
    have hz1 := hb1.size
    try simp at hz1
    go_wp2_with fail
    refine (returnsBy_any _ _ _ _).mono ?_; rintro e w2 ⟨v1, rfl, hp2, hb2⟩
    have hz2 := hb2.size
    try simp at hz2
    have t2 : Two w2 (w1.heap.size) (.int .i64 n) (.int .i64 s) 24 := Two.below (by repeat (first | assumption | exact Two.new' _ _ _ _ _ (by simp) | refine Two.alloc ?_ _ | refine Two.drewN ?_ _)) hb2 (by first | omega | (simp <;> omega))
    have hlt2 : (w1.heap.size) < w2.heap.size := t2.lt
    have hnt2 : ¬ (w1.heap.size) = w2.heap.size := Nat.ne_of_lt hlt2
    have t2c := t2.cell0
    have t2d := t2.cell1
    go_wp2_with fail
    refine (specReturnsBy_any _ _ _ _).mono ?_; rintro e w3 ⟨v2, rfl, hq3, hb3⟩
    have hz3 := hb3.size
    try simp at hz3
    have t3 : Two w3 (w1.heap.size) (.int .i64 n) (.int .i64 s) 24 := Two.below (by repeat (first | assumption | exact Two.new' _ _ _ _ _ (by simp) | refine Two.alloc ?_ _ | refine Two.drewN ?_ _)) hb3 (by first | omega | (simp <;> omega))
    have hlt3 : (w1.heap.size) < w3.heap.size := t3.lt
    have hnt3 : ¬ (w1.heap.size) = w3.heap.size := Nat.ne_of_lt hlt3
    have t3c := t3.cell0
    have t3d := t3.cell1
    have hp3 := hp2.below hb3
    have hB3 : Below w.heap.size w w3 := (by repeat (first | exact Below.refl _ _ | assumption | (refine Below.trans ?_ (Below.mono (by assumption) (by first | omega | (simp <;> omega)))) | (refine Below.alloc ?_ (by first | omega | (simp <;> omega)) _) | (refine below_drewN ?_ _) | (refine Below.drew ?_) | (refine Below.setCell ?_ (by first | omega | (simp <;> omega)) _)))
    clear hp2 hb1 hb2 hb3
    by_cases h : tok n s = true ∧ 2 ≤ k ∧ k ≤ n
    · obtain ⟨ht, h2, hm⟩ := h
      have hb := tok_bd ht
      have hu := tok_inv ht
      have H1 := Lib.hid (fun w => oppositeOf_any n s w)
      have H2 := Lib.hid (fun w => kindsOf_any n (invF n s) k w)
      have H3 := Lib.hid (fun w => returnTimes_any n s k w)
      rw [oppT_yes ht] at H1
      rw [rtimes_gaps ht (by omega) hm] at H3
      have hKL := kindsF_len n (invF n s) k
      generalize kindsF n (invF n s) k = KL at *
      obtain ⟨p1, p2, _⟩ := nearA_is hu h2 hm
      obtain ⟨q1, q2, _⟩ := nearB_is hu h2 hm
      have hs := near_sum (turns_of hu) hm (nearA_is hu h2 hm) (nearB_is hu h2 hm)
      have tot := near_total hu h2 hm
      obtain ⟨p, hP⟩ : ∃ p, nearA n (invF n s) k = p := ⟨_, rfl⟩
      obtain ⟨q, hQ⟩ : ∃ q, nearB n (invF n s) k = q := ⟨_, rfl⟩
      rw [rby_gaps ht h2 hm, gapsByF_yes hu h2 hm hP hQ] at hp3 hq3
      rw [hP] at p1 p2 hs tot
      rw [hQ] at q1 q2 hs tot
      have b1 := (turns_of hu).pos (k := p) (by omega) (by omega)
      have b2 := pt_hi (n := n) (invF n s) p (by omega)
      have b3 := pt_lo (n := n) (invF n s) q (by omega)
      have b4 := pt_hi (n := n) (invF n s) q (by omega)
      go_wp2_with fail
      refine (sameInts_any v1 v2 _ _ _ hp3.reads hq3.reads (by simp) (by simp)).mono ?_; rintro e w4 ⟨rfl, nq, rfl⟩
      rw [decide_eq_true rfl]
      obtain ⟨a1, cap1, rfl, hr1⟩ := (show Reads (w3.drewN nq) v1 _ from hp3.reads)
      obtain ⟨g, off, rfl, hcell⟩ := hr1 (by simp)
      generalize hA : pt n (invF n s) p = A at *
      generalize hBq : n - pt n (invF n s) q = B at *
      have c0 : w3.cell? ⟨g, off + 0, none⟩ = some (.int .i64 A) := hcell 0 (by simp)
      have c1 : w3.cell? ⟨g, off + 1, none⟩ = some (.int .i64 (k - p)) := hcell 1 (by simp)
      have c2 : w3.cell? ⟨g, off + 2, none⟩ = some (.int .i64 B) := hcell 2 (by simp)
      have c3 : w3.cell? ⟨g, off + 3, none⟩ = some (.int .i64 (k - q)) := hcell 3 (by simp)
      have c4 : w3.cell? ⟨g, off + 4, none⟩ = some (.int .i64 (A + B)) := hcell 4 (by simp)
      have c5 : w3.cell? ⟨g, off + 5, none⟩ = some (.int .i64 (p + q - k)) := hcell 5 (by simp)
      have B1 : 1 ≤ B := by omega
      have B2 : B ≤ 60 := by omega
      have A1 : 1 ≤ A := by omega
      have A2 : A ≤ 60 := by omega
      have hT := total A B p q k n tot
      have m1 := bd (a := A) (b := k - p) (by omega) (by omega) (by omega) (by omega)
      have m2 := bd (a := B) (b := k - q) (by omega) (by omega) (by omega) (by omega)
      have m3 := bd (a := A + B) (b := p + q - k) (by omega) (by omega) (by omega) (by omega)
      have wr1 : IntKind.i64.wrap (A * (k - p)) = A * (k - p) := IntWalk.i64_in _ (by omega)
      have wr2 : IntKind.i64.wrap (B * (k - q)) = B * (k - q) := IntWalk.i64_in _ (by omega)
      have wr3 : IntKind.i64.wrap ((A + B) * (p + q - k)) = (A + B) * (p + q - k) := IntWalk.i64_in _ (by omega)
      have wr4 : IntKind.i64.wrap (A * (k - p) + B * (k - q)) = A * (k - p) + B * (k - q) := IntWalk.i64_in _ (by omega)
      have wr5 : IntKind.i64.wrap (A * (k - p) + B * (k - q) + (A + B) * (p + q - k)) = n := by rw [hT]; exact IntWalk.i64_in _ (by omega)
      simp only [Nat.add_zero] at c0
      clear hcell hr1 hp3 hq3 ht hu hP hQ hA hBq tot hT m1 m2 m3
      generalize hX1 : A * (k - p) = X1 at *
      generalize hX2 : B * (k - q) = X2 at *
      generalize hX3 : (A + B) * (p + q - k) = X3 at *
      have t4c : w3.cell? ⟨w1.heap.size, 0, none⟩ = some (.int .i64 n) := t3c
      go_wp2_with fail
      go_loopw [6, 7, 8] (fun y u x wr => ∃ r : Nat, wr = w3.drewN r ∧ ((x = .int .i64 0 ∧ y = .int .i64 0 ∧ u = .int .i64 0) ∨ (x = .int .i64 2 ∧ y = .int .i64 (k - p) ∧ u = .int .i64 X1) ∨ (x = .int .i64 4 ∧ y = .int .i64 (k - p + (k - q)) ∧ u = .int .i64 (X1 + X2)) ∨ (x = .int .i64 6 ∧ y = .int .i64 k ∧ u = .int .i64 n))) (fun _ _ x _ => 6 - (intOf x).toNat)
      case atStart => exact ⟨nq, rfl, .inl ⟨rfl, rfl, rfl⟩⟩
      case round =>
        obtain ⟨r, rfl, ⟨rfl, rfl, rfl⟩ | ⟨rfl, rfl, rfl⟩ | ⟨rfl, rfl, rfl⟩ | ⟨rfl, rfl, rfl⟩⟩ := hrel
        · go_wp2_with fail
          go_quiet (fail)
          go_wp2_with fail
          go_roundw
          case rel => exact ⟨r + nq, by simp, .inr (.inl ⟨by go_num, by trivial, by trivial⟩)⟩
          case measure => simp only [intOf]; omega
        · go_wp2_with fail
          go_quiet (fail)
          go_wp2_with fail
          go_roundw
          case rel => exact ⟨r + nq, by simp, .inr (.inr (.inl ⟨by go_num, by trivial, by trivial⟩))⟩
          case measure => simp only [intOf]; omega
        · go_wp2_with fail
          go_quiet (fail)
          go_wp2_with fail
          go_roundw
          case rel => exact ⟨r + nq, by simp, .inr (.inr (.inr ⟨by go_num, by first | trivial | (congr 1; omega), by trivial⟩))⟩
          case measure => simp only [intOf]; omega
        · have tx : Two (w3.drewN r) w1.heap.size (.int .i64 n) (.int .i64 s) 24 := t3
          have hBx := below_drewN hB3 r
          clear c0 c1 c2 c3 c4 c5 t4c t3 t3c t3d hB3
          generalize w3.drewN r = wx at *
          have hzx := hBx.size
          have txc := tx.cell0
          have txd := tx.cell1
          go_wp2_with fail
          go_region_held3 (fun w' => w'.cell? ⟨w1.heap.size, 0, none⟩ = some (.int .i64 n) ∧ w'.cell? ⟨w1.heap.size, 1, none⟩ = some (.int .i64 s))
            (first | go_keep | exact ⟨t'c, t'd⟩)
            (first | (go_at_call 35; (with_reducible refine (H1.out _).mono ?_); rintro e w' ⟨rfl, hb'⟩; have t'' : Two w' w1.heap.size (.int .i64 n) (.int .i64 s) 24 := (by first | exact Two.below t' hb' t'.lt | exact Two.below (Two.drewS tx) hb' tx.lt); have B'' : Below w.heap.size w w' := (by first | exact B'.trans (Below.mono hb' B'.size) | exact (below_drewN hBx 1).trans (hb'.mono hzx)); have t' := t''; have B' := B''; have t'c := t'.cell0; have t'd := t'.cell1; (try have hor := hor.below hb')) | (go_at_call 34; (with_reducible refine (H2.out _).mono ?_); rintro e w' ⟨vk, rfl, hok, hb'⟩; have t'' : Two w' w1.heap.size (.int .i64 n) (.int .i64 s) 24 := (by first | exact Two.below t' hb' t'.lt | exact Two.below (Two.drewS tx) hb' tx.lt); have B'' : Below w.heap.size w w' := (by first | exact B'.trans (Below.mono hb' B'.size) | exact (below_drewN hBx 1).trans (hb'.mono hzx)); have t' := t''; have B' := B''; have t'c := t'.cell0; have t'd := t'.cell1; (try have hor := hor.below hb')) | (go_at_call 36; (with_reducible refine (H3.out _).mono ?_); rintro e w' ⟨vr, rfl, hor, hb'⟩; have t'' : Two w' w1.heap.size (.int .i64 n) (.int .i64 s) 24 := (by first | exact Two.below t' hb' t'.lt | exact Two.below (Two.drewS tx) hb' tx.lt); have B'' : Below w.heap.size w w' := (by first | exact B'.trans (Below.mono hb' B'.size) | exact (below_drewN hBx 1).trans (hb'.mono hzx)); have t' := t''; have B' := B''; have t'c := t'.cell0; have t'd := t'.cell1; (try have hok := hok.below hb')) | (go_at_call 33; (with_reducible refine (sameInts_any vk vr KL KL _ hok.reads hor.reads (by omega) (by omega)).mono ?_); rintro e w' ⟨rfl, nq', rfl⟩; rw [decide_eq_true (rfl : KL = KL)]; have B'' := below_drewN B' nq'; have t'' := Two.drewN t' nq'; have t' := t''; have B' := B''; have t'c := t'.cell0; have t'd := t'.cell1))
          all_goals
            go_wp2
            go_ret
            exact ⟨rfl, B'⟩
    · rw [rbyF_no h] at *
      go_wp2_with fail
      refine (sameInts_any v1 v2 _ _ _ hp3.reads hq3.reads (by simp) (by simp)).mono ?_; rintro e w4 ⟨rfl, nq, rfl⟩
      rw [decide_eq_true (rfl : ([] : List Int) = [])]
      have hr : Reads (w3.drewN nq) v1 [] := hp3.reads
      obtain ⟨a1, cap1, rfl, hr1⟩ := hr
      clear hr1 hp3 hq3
      go_wp2_with fail
      refine (alive_any _).mono ?_; rintro e w5 ⟨rfl, hb5⟩
      go_wp2
      go_ret
      exact ⟨rfl, (by repeat (first | exact Below.refl _ _ | assumption | (refine Below.trans ?_ (Below.mono (by assumption) (by first | omega | (simp <;> omega)))) | (refine Below.alloc ?_ (by first | omega | (simp <;> omega)) _) | (refine below_drewN ?_ _) | (refine Below.drew ?_) | (refine Below.setCell ?_ (by first | omega | (simp <;> omega)) _)))⟩

set_option maxRecDepth 100000 in
theorem lifted (os : Os) (started : os.Started) (H : Type) (enc : TypeId × Value → H) :
    ReturnsInHanded {} Try.checked os 7 .any (Rows.fnReturnsBySpec.pre6 enc Try.prog Try.f7 Rows.fnReturnsByRow.domain false) (Rows.fnReturnsBySpec.post enc Try.prog Try.f7 false true false false) := by
  refine returnsInHanded_of_change (C := Try.checked) own started (by kernel_rfl) Try.func7
    (ChangeSpec.witness6 (enc := enc) (C := Try.checked) false ⟨#[], #[.slice none 0 0], []⟩ 8 (by kernel_rfl) (by kernel_rfl) (by kernel_rfl) (by kernel_rfl)) ?_
  intro W base args ds gs before hval0 hW hcnd _
  have hval : ∀ (j : Nat) t v, Try.f7.params[j]? = some t → args[j]? = some v → Value.okWide Try.prog W .any base t v := hval0
  have hW' := hW
  obtain ⟨p, q, hA0, hV, rfl, hfz, hnd⟩ := hW
  have hA : DataW.TrodAll enc Try.prog W 0 (fun _ => true) true Try.f7.params.toList args.toList ds p := hA0
  rw [Try.params7] at hA hval
  obtain ⟨v0, vs0, d0, ds0, p0, q0, hargs, rfl, rfl, h0, r0⟩ := trodAll_cons hA
  obtain ⟨rfl, rfl, rfl⟩ := trodAll_nil r0
  obtain rfl : args = #[v0] := by cases args; simp_all
  obtain ⟨rfl, rfl⟩ := trodVars_none hV
  obtain ⟨acode, lencode, capcode, rfl⟩ := okWide_slice Try.underlying22 (hval 0 22 v0 rfl rfl)
  have k0 := h0
  have lt0 : ∀ x ∈ p0, x.block < W.heap.size := by obtain ⟨m, hm⟩ := k0; exact DataW.trod_lt m _ _ _ hm
  obtain ⟨zcode, rowcode⟩ : ∃ zs, IsRow .u8 W acode lencode capcode zs := by
    obtain ⟨fuel, hf⟩ := h0
    rcases open_ints Try.underlying22 Try.underlying5 (by kernel_rfl) hf with ⟨hcs, _⟩ | ⟨x, l, c, zs, hcs, _, hl, hm, hz, _, hcell, hwz⟩
    · simp [Value.cells] at hcs
      obtain ⟨rfl, rfl, rfl⟩ := hcs
      exact ⟨[], .inl ⟨rfl, rfl, rfl, rfl⟩⟩
    · simp [Value.cells] at hcs
      obtain ⟨rfl, rfl, rfl⟩ := hcs
      exact ⟨zs, .inr ⟨_, rfl, hl, hm, by simpa using hz, hcell, hwz⟩⟩
  clear hA0 hval0
  refine (walk acode lencode capcode zcode W rowcode).mono fun e W' ⟨he, bel⟩ => ?_
  subst he
  exact ⟨_, rfl, _, _, _, [], _, [], hW', trodAll_mk1 (shut_bool Try.underlying4 _), (trodAll_cons_mk (Below.trod laidOut (by kernel_rfl) (of_decide_eq_true (by kernel_rfl)) k0 bel lt0) trodAll_mk0), rfl, bel.frame _, fun h => by cases h⟩

theorem facts : joinedFacts Try.pinned.checked.prog 7 Try.f7 Rows.fnReturnsBySpec Rows.fnReturnsByRow = true := by
  simp only [joinedFacts, Bool.and_eq_true]
  repeat' apply And.intro
  all_goals first | rw [mayEnter_eq] | (rw [liftsFinal_eq]; kernel_rfl) | (rw [make_eq]; kernel_rfl) | kernel_rfl

theorem over : Rows.fnReturnsByRow.holds Try.pinned (OpenSpec.ofChange Rows.fnReturnsBySpec) :=
  OpenClaim.holds_of_wide 7 Try.f7 rfl rfl rfl rfl rfl rfl rfl ⟨rfl, rfl, rfl, rfl, rfl⟩ rfl rfl rfl rfl rfl (by kernel_rfl) Try.func7 facts
    (of_decide_eq_true (by kernel_rfl)) (by unfold Func.isWrapper; first | (rw [if_pos (by decide +kernel)]; kernel_rfl) | (rw [if_neg (by decide +kernel)]; exact ⟨rfl, rfl⟩))
    (fun os started H enc _ => lifted os started H enc)

theorem proved : Rows.FnReturnsBySaid := over
#print axioms proved
end Go.Proofs.Ytppahekbgbbidac.lawReturnsBy
