/- Proves that FnReturnsLong returns true for every code, and leaves the code as it was. No conditions. -/
import Derived.Test.YtppahekbgbbidacHead
import Derived.Test.YtppahekbgbbidacGRetI
import Derived.Test.YtppahekbgbbidacRetG
import Derived.Test.YtppahekbgbbidacDrawRL
import Derived.Test.YtppahekbgbbidacHas
import Derived.Test.YtppahekbgbbidacGFun2
set_option linter.unusedVariables false
namespace Go.Proofs.Ytppahekbgbbidac.lawReturnsLong

set_option maxRecDepth 4000
open Go.ChangeShapes Go.WideShapes Go.ChangeAt Go.RowKit Go.Joins N

set_option maxHeartbeats 4000000 in
theorem walk (a : Option Addr) (len cap : Nat) (z : List Int) (w : World) (row : IsRow .u8 w a len cap z) :
    Calls Try.prog 8 #[.slice a len cap] w fun e w' => e = .returned (.bool true) ∧ Below w.heap.size w w' := by
  
  have hc := CodeIn.of row
  clear row
  by_cases hl : 1048576 < len
  · have hl' : (1048576 : Int) < len := by omega
    go_enter Try.func8, Try.ntmps8
    go_wp2
    go_ret
    exact ⟨rfl, (by repeat (first | exact Below.refl _ _ | assumption | (refine Below.trans ?_ (Below.mono (by assumption) (by first | omega | (simp <;> omega)))) | (refine Below.alloc ?_ (by first | omega | (simp <;> omega)) _) | (refine below_drewN ?_ _) | (refine Below.drew ?_) | (refine Below.setCell ?_ (by first | omega | (simp <;> omega)) _)))⟩
  · have hl' : ¬ (1048576 : Int) < len := by omega
    go_enter Try.func8, Try.ntmps8
    go_wp2_with fail
    refine (drawReturnsLong_any a len cap _ hc (by omega)).mono ?_; rintro e w1 ⟨n, s, m, x, rfl, n0, n1, s0, s1, k0, k1, x0, x1, hb1⟩
    have hz1 := hb1.size
    try simp at hz1
    go_wp2_with fail
    refine (returnsLong_any _ _ _ _ _).mono ?_; rintro e w2 ⟨rfl, hb2⟩
    have hz2 := hb2.size
    try simp at hz2
    have t2 : Two w2 (w1.heap.size) (.int .i64 n) (.int .i64 s) 24 := Two.below (by repeat (first | assumption | exact Two.new' _ _ _ _ _ (by simp) | refine Two.alloc ?_ _ | refine Two.drewN ?_ _)) hb2 (by first | omega | (simp <;> omega))
    have hlt2 : (w1.heap.size) < w2.heap.size := t2.lt
    have hnt2 : ¬ (w1.heap.size) = w2.heap.size := Nat.ne_of_lt hlt2
    have t2c := t2.cell0
    have t2d := t2.cell1
    go_wp2_with fail
    refine (specReturnsLong_any _ _ _ _ _).mono ?_; rintro e w3 ⟨rfl, hb3⟩
    have hz3 := hb3.size
    try simp at hz3
    have t3 : Two w3 (w1.heap.size) (.int .i64 n) (.int .i64 s) 24 := Two.below (by repeat (first | assumption | exact Two.new' _ _ _ _ _ (by simp) | refine Two.alloc ?_ _ | refine Two.drewN ?_ _)) hb3 (by first | omega | (simp <;> omega))
    have hlt3 : (w1.heap.size) < w3.heap.size := t3.lt
    have hnt3 : ¬ (w1.heap.size) = w3.heap.size := Nat.ne_of_lt hlt3
    have t3c := t3.cell0
    have t3d := t3.cell1
    have hB3 : Below w.heap.size w w3 := (by repeat (first | exact Below.refl _ _ | assumption | (refine Below.trans ?_ (Below.mono (by assumption) (by first | omega | (simp <;> omega)))) | (refine Below.alloc ?_ (by first | omega | (simp <;> omega)) _) | (refine below_drewN ?_ _) | (refine Below.drew ?_) | (refine Below.setCell ?_ (by first | omega | (simp <;> omega)) _)))
    clear hb1 hb2 hb3
    by_cases h : tok n s = true ∧ 1 ≤ m ∧ m ≤ n
    · have hu := tok_inv h.1
      obtain ⟨C, hC, hCI, hC60, hCc⟩ := long_of (n := n) (s := invF n s) (m := m) ⟨hu, h.2.1, h.2.2⟩ x
      rw [← rlong_gaps h.1 h.2.1 h.2.2] at hC
      rw [← rtimes_gaps h.1 h.2.1 h.2.2] at hCI
      have HI : Hid (decide (x ∈ rtimesF n s m) = decide (0 < C)) := decide_eq_decide.2 hCI.symm
      rw [hC]
      obtain ⟨ht, h1, hm⟩ := h
      have hb := tok_bd ht
      have hC0 : ¬ (C : Int) < 0 := by omega
      clear hC hCI
      go_wp2_with fail
      refine (returnsBy_any _ _ _ _).mono ?_; rintro e w5 ⟨v5, rfl, hp5, hb5⟩
      have t5 := t3.below hb5 t3.lt
      have hB5 := hB3.trans (hb5.mono hB3.size)
      have t5c := t5.cell0
      have t5d := t5.cell1
      have t5l := t5.lt
      clear hb5 t3 t3c t3d hB3
      by_cases h2 : m < 2
      · rw [rbyF_no (fun h => by omega)] at hp5
        obtain ⟨ga, cap1, rfl⟩ := nil_cells hp5.reads
        clear hp5
        go_wp2_with fail
        go_loopw [8, 9] (fun y k wr => y = .int .i64 0 ∧ k = .int .i64 0 ∧ wr = w5) (fun _ _ _ => 0)
        case atStart => exact ⟨rfl, rfl, rfl⟩
        case round =>
          obtain ⟨rfl, rfl, rfl⟩ := hrel
          go_wp2_with fail
          refine (returnTimes_any _ _ _ _).mono ?_; rintro e w6 ⟨v6, rfl, hp6, hb6⟩
          go_wp2_with fail
          refine (hasInt_any v6 (rtimesF n s m) x _ hp6.reads (by have := rtimesF_len n s m; omega)).mono ?_; rintro e w7 ⟨rfl, rfl⟩
          rw [HI.out]
          go_wp2
          go_ret
          exact ⟨rfl, hB5.trans (hb6.mono hB5.size)⟩
      · obtain ⟨p1, p2, _⟩ := nearA_is hu (by omega) hm
        obtain ⟨q1, q2, _⟩ := nearB_is hu (by omega) hm
        have hcc := hCc (by omega)
        have hs := near_sum (turns_of hu) hm (nearA_is hu (by omega) hm) (nearB_is hu (by omega) hm)
        obtain ⟨p, hP⟩ : ∃ p, nearA n (invF n s) m = p := ⟨_, rfl⟩
        obtain ⟨q, hQ⟩ : ∃ q, nearB n (invF n s) m = q := ⟨_, rfl⟩
        rw [rby_gaps ht (by omega) hm, gapsByF_yes hu (by omega) hm hP hQ] at hp5
        rw [hP, hQ] at hcc
        rw [hP] at p1 p2 hs
        rw [hQ] at q1 q2 hs
        obtain ⟨a1, cap1, rfl, hr1⟩ := hp5.reads
        obtain ⟨g, off, rfl, hcell⟩ := hr1 (by simp)
        generalize pt n (invF n s) p = A at *
        generalize n - pt n (invF n s) q = B at *
        have c0 : w5.cell? ⟨g, off + 0, none⟩ = some (.int .i64 A) := hcell 0 (by simp)
        have c1 : w5.cell? ⟨g, off + 1, none⟩ = some (.int .i64 (m - p)) := hcell 1 (by simp)
        have c2 : w5.cell? ⟨g, off + 2, none⟩ = some (.int .i64 B) := hcell 2 (by simp)
        have c3 : w5.cell? ⟨g, off + 3, none⟩ = some (.int .i64 (m - q)) := hcell 3 (by simp)
        have c4 : w5.cell? ⟨g, off + 4, none⟩ = some (.int .i64 (A + B)) := hcell 4 (by simp)
        have c5 : w5.cell? ⟨g, off + 5, none⟩ = some (.int .i64 (p + q - m)) := hcell 5 (by simp)
        simp only [Nat.add_zero] at c0
        skip
        clear hcell hr1 hp5 hP hQ hu ht hCc
        obtain ⟨S1, hS1⟩ : ∃ S1, (if A = x then m - p else 0) = S1 := ⟨_, rfl⟩
        obtain ⟨S2, hS2⟩ : ∃ S2, (if B = x then m - q else 0) = S2 := ⟨_, rfl⟩
        obtain ⟨S3, hS3⟩ : ∃ S3, (if A + B = x then p + q - m else 0) = S3 := ⟨_, rfl⟩
        rw [hS1, hS2, hS3] at hcc
        have HS1 := Lib.hid hS1
        have HS2 := Lib.hid hS2
        have HS3 := Lib.hid hS3
        have hAx : (A = x → S1 = m - p) ∧ (¬ A = x → S1 = 0) := ⟨fun e => by rw [← hS1, if_pos e], fun e => by rw [← hS1, if_neg e]⟩
        have hBx : (B = x → S2 = m - q) ∧ (¬ B = x → S2 = 0) := ⟨fun e => by rw [← hS2, if_pos e], fun e => by rw [← hS2, if_neg e]⟩
        have hCx : (A + B = x → S3 = p + q - m) ∧ (¬ A + B = x → S3 = 0) := ⟨fun e => by rw [← hS3, if_pos e], fun e => by rw [← hS3, if_neg e]⟩
        have bS1 : 0 ≤ S1 ∧ S1 ≤ 60 := (Decidable.em (A = x)).elim (fun e => by have := hAx.1 e; omega) (fun e => by have := hAx.2 e; omega)
        have bS2 : 0 ≤ S2 ∧ S2 ≤ 60 := (Decidable.em (B = x)).elim (fun e => by have := hBx.1 e; omega) (fun e => by have := hBx.2 e; omega)
        have HAx := Lib.hid hAx
        have HBx := Lib.hid hBx
        have HCx := Lib.hid hCx
        have HCC := Lib.hid hcc
        clear hS1 hS2 hS3 hAx hBx hCx hcc
        go_wp2_with fail
        go_loopw [8, 9] (fun y k wr => wr = w5 ∧ ((k = .int .i64 0 ∧ y = .int .i64 0) ∨ (k = .int .i64 2 ∧ y = .int .i64 S1) ∨ (k = .int .i64 4 ∧ y = .int .i64 (S1 + S2)) ∨ (k = .int .i64 6 ∧ y = .int .i64 (S1 + S2 + S3)))) (fun _ k _ => 6 - (intOf k).toNat)
        case atStart => exact ⟨rfl, .inl ⟨rfl, rfl⟩⟩
        case round =>
          obtain ⟨rfl, ⟨rfl, rfl⟩ | ⟨rfl, rfl⟩ | ⟨rfl, rfl⟩ | ⟨rfl, rfl⟩⟩ := hrel
          · by_cases e : A = x
            · have E := HAx.out.1 e
              have e' : (A == x) = true := by simpa using e
              have wr0 : IntKind.i64.wrap (0 + (m - p)) = m - p := by rw [Int.zero_add]; exact IntWalk.i64_in _ (by omega)
              go_wp2_with fail
              go_roundw
              case rel => exact ⟨by trivial, .inr (.inl ⟨by go_num, by rw [E]⟩)⟩
              case measure => simp only [intOf]; omega
            · have E := HAx.out.2 e
              have e' : (A == x) = false := by simpa using e
              go_wp2_with fail
              go_roundw
              case rel => exact ⟨by trivial, .inr (.inl ⟨by go_num, by rw [E]⟩)⟩
              case measure => simp only [intOf]; omega
          · by_cases e : B = x
            · have E := HBx.out.1 e
              have e' : (B == x) = true := by simpa using e
              go_wp2_with fail
              go_roundw
              case rel => exact ⟨by trivial, .inr (.inr (.inl ⟨by go_num, by rw [E]⟩))⟩
              case measure => simp only [intOf]; omega
            · have E := HBx.out.2 e
              have e' : (B == x) = false := by simpa using e
              go_wp2_with fail
              go_roundw
              case rel => exact ⟨by trivial, .inr (.inr (.inl ⟨by go_num, by rw [E]; simp⟩))⟩
              case measure => simp only [intOf]; omega
          · by_cases e : A + B = x
            · have E := HCx.out.1 e
              have e' : (A + B == x) = true := by simpa using e
              go_wp2_with fail
              go_roundw
              case rel => exact ⟨by trivial, .inr (.inr (.inr ⟨by go_num, by rw [E]⟩))⟩
              case measure => simp only [intOf]; omega
            · have E := HCx.out.2 e
              have e' : (A + B == x) = false := by simpa using e
              go_wp2_with fail
              go_roundw
              case rel => exact ⟨by trivial, .inr (.inr (.inr ⟨by go_num, by rw [E]; simp⟩))⟩
              case measure => simp only [intOf]; omega
          · rw [← HCC.out]
            go_wp2_with fail
            refine (returnTimes_any _ _ _ _).mono ?_; rintro e w6 ⟨v6, rfl, hp6, hb6⟩
            go_wp2_with fail
            refine (hasInt_any v6 (rtimesF n s m) x _ hp6.reads (by have := rtimesF_len n s m; omega)).mono ?_; rintro e w7 ⟨rfl, rfl⟩
            rw [HI.out]
            go_wp2
            go_ret
            exact ⟨rfl, hB5.trans (hb6.mono hB5.size)⟩
    · rw [rlong_no h]
      go_wp2_with fail
      refine (alive_any _).mono ?_; rintro e w5 ⟨rfl, hb5⟩
      go_wp2
      go_ret
      exact ⟨rfl, hB3.trans (hb5.mono hB3.size)⟩

set_option maxRecDepth 100000 in
theorem lifted (os : Os) (started : os.Started) (H : Type) (enc : TypeId × Value → H) :
    ReturnsInHanded {} Try.checked os 8 .any (Rows.fnReturnsLongSpec.pre6 enc Try.prog Try.f8 Rows.fnReturnsLongRow.domain false) (Rows.fnReturnsLongSpec.post enc Try.prog Try.f8 false true false false) := by
  refine returnsInHanded_of_change (C := Try.checked) own started (by kernel_rfl) Try.func8
    (ChangeSpec.witness6 (enc := enc) (C := Try.checked) false ⟨#[], #[.slice none 0 0], []⟩ 8 (by kernel_rfl) (by kernel_rfl) (by kernel_rfl) (by kernel_rfl)) ?_
  intro W base args ds gs before hval0 hW hcnd _
  have hval : ∀ (j : Nat) t v, Try.f8.params[j]? = some t → args[j]? = some v → Value.okWide Try.prog W .any base t v := hval0
  have hW' := hW
  obtain ⟨p, q, hA0, hV, rfl, hfz, hnd⟩ := hW
  have hA : DataW.TrodAll enc Try.prog W 0 (fun _ => true) true Try.f8.params.toList args.toList ds p := hA0
  rw [Try.params8] at hA hval
  obtain ⟨v0, vs0, d0, ds0, p0, q0, hargs, rfl, rfl, h0, r0⟩ := trodAll_cons hA
  obtain ⟨rfl, rfl, rfl⟩ := trodAll_nil r0
  obtain rfl : args = #[v0] := by cases args; simp_all
  obtain ⟨rfl, rfl⟩ := trodVars_none hV
  obtain ⟨acode, lencode, capcode, rfl⟩ := okWide_slice Try.underlying22 (hval 0 22 v0 rfl rfl)
  have k0 := h0
  have lt0 : ∀ x ∈ p0, x.block < W.heap.size := by obtain ⟨m, hm⟩ := k0; exact DataW.trod_lt m _ _ _ hm
  obtain ⟨zcode, rowcode⟩ : ∃ zs, IsRow .u8 W acode lencode capcode zs := by
    obtain ⟨fuel, hf⟩ := h0
    rcases open_ints Try.underlying22 Try.underlying5 (by kernel_rfl) hf with ⟨hcs, _⟩ | ⟨x, l, c, zs, hcs, _, hl, hm, hz, _, hcell, hwz⟩
    · simp [Value.cells] at hcs
      obtain ⟨rfl, rfl, rfl⟩ := hcs
      exact ⟨[], .inl ⟨rfl, rfl, rfl, rfl⟩⟩
    · simp [Value.cells] at hcs
      obtain ⟨rfl, rfl, rfl⟩ := hcs
      exact ⟨zs, .inr ⟨_, rfl, hl, hm, by simpa using hz, hcell, hwz⟩⟩
  clear hA0 hval0
  refine (walk acode lencode capcode zcode W rowcode).mono fun e W' ⟨he, bel⟩ => ?_
  subst he
  exact ⟨_, rfl, _, _, _, [], _, [], hW', trodAll_mk1 (shut_bool Try.underlying4 _), (trodAll_cons_mk (Below.trod laidOut (by kernel_rfl) (of_decide_eq_true (by kernel_rfl)) k0 bel lt0) trodAll_mk0), rfl, bel.frame _, fun h => by cases h⟩

theorem facts : joinedFacts Try.pinned.checked.prog 8 Try.f8 Rows.fnReturnsLongSpec Rows.fnReturnsLongRow = true := by
  simp only [joinedFacts, Bool.and_eq_true]
  repeat' apply And.intro
  all_goals first | rw [mayEnter_eq] | (rw [liftsFinal_eq]; kernel_rfl) | (rw [make_eq]; kernel_rfl) | kernel_rfl

theorem over : Rows.fnReturnsLongRow.holds Try.pinned (OpenSpec.ofChange Rows.fnReturnsLongSpec) :=
  OpenClaim.holds_of_wide 8 Try.f8 rfl rfl rfl rfl rfl rfl rfl ⟨rfl, rfl, rfl, rfl, rfl⟩ rfl rfl rfl rfl rfl (by kernel_rfl) Try.func8 facts
    (of_decide_eq_true (by kernel_rfl)) (by unfold Func.isWrapper; first | (rw [if_pos (by decide +kernel)]; kernel_rfl) | (rw [if_neg (by decide +kernel)]; exact ⟨rfl, rfl⟩))
    (fun os started H enc _ => lifted os started H enc)

theorem proved : Rows.FnReturnsLongSaid := over
#print axioms proved
end Go.Proofs.Ytppahekbgbbidac.lawReturnsLong
