/- Proves that FnCodeOf returns true for every code, and leaves the code as it was; the tables of package utf8 that its row lists are tied to the program's text. No conditions. -/
import Derived.Test.YtppahekbgbbidabDoorHead
import Derived.Test.YtppahekbgbbidabDoorBalI
import Derived.Test.YtppahekbgbbidabDoorGDrawC
import Derived.Test.YtppahekbgbbidabDoorGFun2
import Derived.Test.YtppahekbgbbidabDoorCards
import Derived.Test.YtppahekbgbbidabDoorTie
import Derived.Deep.RegionHeld3
import Derived.LaidMore
import Derived.Lay
import Derived.SevenTiedAt
import Derived.Stop.Joined
set_option linter.unusedVariables false
namespace Go.Proofs.YtppahekbgbbidabDoor.lawCodeOf

set_option maxRecDepth 4000
open Go.ChangeShapes Go.WideShapes Go.ChangeAt Go.RowKit Go.Joins

theorem all_get {N S k : Nat} (hk : k < N) : ∃ h : k < (txtB (wordL N S 0 N)).size, ((txtB (wordL N S 0 N))[k].toNat : Int) = bI (letN N S k) := by
  have h : k < (txtB (wordL N S 0 N)).size := by rw [txtB_size, wordL_length]; exact hk
  refine ⟨h, ?_⟩
  rw [txtB_get h, wordL_getD _ _ _ _ _ hk, Nat.zero_add]
  cases letN N S k <;> rfl

/-- behind the words: the letters of the turn and of the turn the other way -/
def Facts (N : Nat) (U O : ByteArray) : Prop :=
  (U.size : Int) = N ∧ (O.size : Int) = N ∧ (∃ h : 0 < U.size, (U[0].toNat : Int) = 48) ∧ (∃ h : N - 1 < U.size, (U[N - 1].toNat : Int) = 49) ∧
  ∀ k, 1 ≤ k → k + 1 < N → ∃ (h1 : k < U.size) (h2 : N - 1 - k < U.size) (h3 : k < O.size), (U[k].toNat : Int) = 48 ∧ (U[N - 1 - k].toNat : Int) = 48 ∧ (O[k].toNat : Int) = 49 ∨ (U[k].toNat : Int) = 49 ∧ (U[N - 1 - k].toNat : Int) = 49 ∧ (O[k].toNat : Int) = 48

theorem facts_of {N S : Nat} (ht : tokN N S = true) : Facts N (txtB (wordL N S 0 N)) (txtB (wordL N (N - S) 0 N)) := by
  obtain ⟨n2, _, s1, sn, _⟩ := tokN_bd ht
  refine ⟨by rw [txtB_size, wordL_length], by rw [txtB_size, wordL_length], ?_, ?_, fun k h1 h2 => ?_⟩
  · obtain ⟨h, e⟩ := all_get (N := N) (S := S) (k := 0) (by omega)
    exact ⟨h, by rw [e, let_first ht]; rfl⟩
  · obtain ⟨h, e⟩ := all_get (N := N) (S := S) (k := N - 1) (by omega)
    exact ⟨h, by rw [e, let_last ht]; rfl⟩
  · obtain ⟨h3, e3⟩ := all_get (N := N) (S := S) (k := k) (by omega)
    obtain ⟨h4, e4⟩ := all_get (N := N) (S := S) (k := N - 1 - k) (by omega)
    obtain ⟨h5, e5⟩ := all_get (N := N) (S := N - S) (k := k) (by omega)
    rw [let_back ht h1 h2] at e4
    rw [let_other ht h1 h2] at e5
    refine ⟨h3, h4, h5, ?_⟩
    cases hb : letN N S k with
    | false =>
      rw [hb] at e3 e4 e5
      exact .inl ⟨e3, e4, e5⟩
    | true =>
      rw [hb] at e3 e4 e5
      exact .inr ⟨e3, e4, e5⟩

theorem tok_back {N S : Nat} (ht : tokN N S = true) : tok ((N : Nat) : Int) (((N : Nat) : Int) - ((S : Nat) : Int)) = true ∧ (((N : Nat) : Int) - ((S : Nat) : Int)).toNat = N - S := by
  obtain ⟨n2, n6, s1, sn, g⟩ := tokN_bd ht
  refine ⟨(tok_iff _ _).2 ⟨by omega, by omega, by omega, by omega, ?_⟩, by omega⟩
  have e : (((N : Nat) : Int) - ((S : Nat) : Int)).toNat = N - S := by omega
  rw [e, Int.toNat_natCast]
  have : Nat.gcd N (N - S) = Nat.gcd N S := by
    rw [Nat.gcd_self_sub_right (by omega)]
  rw [this, g]

set_option maxHeartbeats 4000000 in
theorem walk (a : Option Addr) (len cap : Nat) (z : List Int) (w : World) (row : IsRow .u8 w a len cap z) :
    Calls Tryd.prog 3 #[.slice a len cap] w fun e w' => e = .returned (.bool true) ∧ Below w.heap.size w w' := by
  have hc := CodeIn.of row
  clear row
  by_cases hl : 1048576 < len
  · have hl' : (1048576 : Int) < len := by omega
    go_enter Tryd.func3, Tryd.ntmps3
    go_wp2
    go_ret
    exact ⟨rfl, (by repeat (first | exact Below.refl _ _ | assumption | (refine Below.trans ?_ (Below.mono (by assumption) (by first | omega | (simp <;> omega)))) | (refine Below.alloc ?_ (by first | omega | (simp <;> omega)) _) | (refine below_drewN ?_ _) | (refine Below.drew ?_) | (refine Below.setCell ?_ (by first | omega | (simp <;> omega)) _)))⟩
  · have hl' : ¬ (1048576 : Int) < len := by omega
    
    go_enter Tryd.func3, Tryd.ntmps3
    go_wp2_with fail
    refine (drawCodeOf_any a len cap _ hc (by omega)).mono ?_; rintro e w1 ⟨n, s, k, m, rfl, hb1⟩
    have hz1 := hb1.size
    try simp at hz1
    go_wp2_with fail
    refine (codeOf_any _ _ _ _ _).mono ?_; rintro e w2 ⟨rfl, hb2⟩
    have hz2 := hb2.size
    try simp at hz2
    have t2 : Two w2 (w1.heap.size) (.int .i64 n) (.int .i64 s) 24 := Two.below (by repeat (first | assumption | exact Two.new' _ _ _ _ _ (by simp) | refine Two.alloc ?_ _ | refine Two.drewN ?_ _)) hb2 (by first | omega | (simp <;> omega))
    have hlt2 : (w1.heap.size) < w2.heap.size := t2.lt
    have hnt2 : ¬ (w1.heap.size) = w2.heap.size := Nat.ne_of_lt hlt2
    have t2c := t2.cell0
    have t2d := t2.cell1
    have hbq : Hid (((txtB (codeF n s k m)).toList == (txtB (codeF n s k m)).toList) = true) := by show _ = _; simp
    go_wp2_with fail
    refine (specCodeOf_any _ _ _ _ _).mono ?_; rintro e w3 ⟨rfl, hb3⟩
    have hz3 := hb3.size
    try simp at hz3
    have t3 : Two w3 (w1.heap.size) (.int .i64 n) (.int .i64 s) 24 := Two.below (by repeat (first | assumption | exact Two.new' _ _ _ _ _ (by simp) | refine Two.alloc ?_ _ | refine Two.drewN ?_ _)) hb3 (by first | omega | (simp <;> omega))
    have hlt3 : (w1.heap.size) < w3.heap.size := t3.lt
    have hnt3 : ¬ (w1.heap.size) = w3.heap.size := Nat.ne_of_lt hlt3
    have t3c := t3.cell0
    have t3d := t3.cell1
    have hB3 : Below w.heap.size w w3 := (by repeat (first | exact Below.refl _ _ | assumption | (refine Below.trans ?_ (Below.mono (by assumption) (by first | omega | (simp <;> omega)))) | (refine Below.alloc ?_ (by first | omega | (simp <;> omega)) _) | (refine below_drewN ?_ _) | (refine Below.drew ?_) | (refine Below.setCell ?_ (by first | omega | (simp <;> omega)) _)))
    clear hb1 hb2 hb3 hc
    by_cases hne : codeF n s k m = []
    · rw [hne] at hbq ⊢
      rw [txtB_nil] at hbq ⊢
      have hb := hbq.out
      go_wp2_with fail
      refine (alive_any _).mono ?_; rintro e w7 ⟨rfl, hb7⟩
      have hB7 := hB3.trans (hb7.mono hB3.size)
      go_wp2
      go_ret
      exact ⟨rfl, hB7⟩
    · have hcond : tok n s = true ∧ (0 ≤ k ∧ k < n) ∧ (0 ≤ m ∧ m ≤ 60) := by
        by_cases c : tok n s = true ∧ (0 ≤ k ∧ k < n) ∧ (0 ≤ m ∧ m ≤ 60)
        · exact c
        · exact absurd (codeF_no c) hne
      obtain ⟨ht, ⟨k0, k1⟩, m0, m1⟩ := hcond
      have hb := tok_bd ht
      obtain ⟨N, rfl⟩ := Int.eq_ofNat_of_zero_le (by omega : 0 ≤ n)
      obtain ⟨S, rfl⟩ := Int.eq_ofNat_of_zero_le (by omega : 0 ≤ s)
      have htN : tokN N S = true := tokN_nat ht
      have hall : codeF N S 0 N = wordL N S 0 N := by rw [codeF_yes ht (by omega) (by omega) (by omega) (by omega)]; rfl
      have hoth : codeF N ((N : Int) - S) 0 N = wordL N (N - S) 0 N := by
        rw [codeF_yes (tok_back htN).1 (by omega) (by omega) (by omega) (by omega), (tok_back htN).2]; rfl
      have hback : backT N S = ((N : Int), (N : Int) - S) := backT_yes ht
      have HF := Lib.hid (facts_of htN)
      have hword := codeF_yes ht k0 k1 m0 m1
      have hbal : Bal (codeF N S k m) := by rw [hword]; exact bal_word (by omega) (by omega) _ _
      have hwl : (codeF N S k m).length = m.toNat := by rw [hword, wordL_length]
      have hsz : ((txtB (codeF N S k m)).size : Int) = m := by rw [txtB_size, hwl]; omega
      have hbo := Lib.hid (fun w => (balancedOk_any (txtB (codeF N S k m)) w (by rw [txtB_size, hwl]; omega)).mono (R' := fun e w' => e = .returned (.bool true) ∧ Below w.heap.size w w') (fun e w' ⟨⟨d, h1, h2⟩, h3⟩ => ⟨by rw [h1, h2.2 ((balP_txt (codeF_len _ _ _ _)).2 hbal)], h3⟩))
      have hemp : (txtB (codeF N S k m)).toList.isEmpty = false := by
        rw [txtB_toList]
        cases hq : codeF N S k m with
        | nil => exact absurd hq hne
        | cons _ _ => rfl
      have HA := Lib.hid hall
      have HO := Lib.hid hoth
      have HBk := Lib.hid hback
      clear hne hword hbal hwl hall hoth hback htN
      have hbx := hbq.out
      obtain ⟨W, hW⟩ : ∃ W, txtB (codeF N S k m) = W := ⟨_, rfl⟩
      rw [hW] at hbq hsz hbo hemp hbx ⊢
      clear hW
      go_wp2_with fail
      refine (codeOf_any _ _ _ _ _).mono ?_; rintro e w4 ⟨rfl, hb4⟩
      rw [HA.out]
      have t4 := t3.below hb4 t3.lt
      have hB4 := hB3.trans (hb4.mono hB3.size)
      have c0 := t4.cell0
      have c1 := t4.cell1
      have l4 := t4.lt
      obtain ⟨U, hU⟩ : ∃ U, txtB (wordL N S 0 N) = U := ⟨_, rfl⟩
      obtain ⟨O, hO⟩ : ∃ O, txtB (wordL N (N - S) 0 N) = O := ⟨_, rfl⟩
      rw [hU, hO] at HF
      rw [hU]
      have HOe := Lib.hid hO
      clear hb4 t3 hB3 hU hO t3c t3d
      go_wp2_with fail
      clear t2 t2c t2d
      go_region_held3 (fun w' => w'.cell? ⟨w1.heap.size, 0, none⟩ = some (.int .i64 N) ∧ w'.cell? ⟨w1.heap.size, 1, none⟩ = some (.int .i64 S))
        (first | go_keep | exact ⟨c0', c1'⟩)
        (first
          | (go_at_call 8; refine (backTurn_any _ _ _).mono ?_; rintro e w' ⟨rfl, hbA⟩; rw [HBk.out]; have tA := Two.below (b := w1.heap.size) (x := .int .i64 N) (y := .int .i64 S) (T := 24) (by assumption) hbA (by first | exact l4 | omega); have c0' := tA.cell0; have c1' := tA.cell1; have lA := tA.lt)
          | (go_at_call 5; refine (codeOf_any _ _ _ _ _).mono ?_; rintro e w' ⟨rfl, hbC⟩; rw [HO.out, HOe.out]; have tC := Two.below (b := w1.heap.size) (x := .int .i64 N) (y := .int .i64 S) (T := 24) (by assumption) hbC (by first | exact lA | omega); have c0' := tC.cell0; have c1' := tC.cell1))
      have hB5 := (below_drewN hB4 1).trans (hbA.mono hB4.size)
      have hB6 := hB5.trans (hbC.mono hB5.size)
      rename_i wz _
      clear hbA hbC hB5 hB4 tA t4 c0 c1 l4
      obtain ⟨f1, f2, ⟨f3, f4⟩, ⟨f5, f6⟩, f7⟩ := HF.out
      have HF7 := Lib.hid f7
      clear f7 HF
      have hw1 : IntKind.i64.wrap ((N : Int) - 1) = (N : Int) - 1 := IntWalk.i64_in _ (by omega)
      have k2 : ((N : Int) - 1).toNat = N - 1 := by omega
      have k3 : (0 : Int) ≤ (N : Int) - 1 := by omega
      have k4 : (N : Int) - 1 < N := by omega
      have k5 : (0 : Int) < N := by omega
      go_wp2_with fail
      clear tC c0' c1' lA
      go_loopw [9] (fun x wr => ∃ q : Nat, x = .int .i64 q ∧ 1 ≤ q ∧ q + 1 ≤ N ∧ Below w.heap.size w wr) (fun x _ => N - (intOf x).toNat)
      case atStart => exact ⟨1, rfl, by omega, by omega, hB6⟩
      case round =>
        obtain ⟨q, rfl, hq1, hq2, hBq⟩ := hrel
        clear hB6
        by_cases hqn : q + 1 < N
        · have hqn' : (q : Int) < (N : Int) - 1 := by omega
          obtain ⟨g1, g2, g3, hg⟩ := HF7.out q hq1 hqn
          obtain ⟨d, hd⟩ : ∃ d, N - 1 - q = d := ⟨_, rfl⟩
          have e1 : (N : Int) - 1 - q = d := by omega
          have e2 : IntKind.i64.wrap ((d : Nat) : Int) = d := IntWalk.i64_in _ (by omega)
          have e3 : (d : Int) < N := by omega
          have e4 : (0 : Int) ≤ d := by omega
          have e5 : (q : Int) < N := by omega
          have e6 : (0 : Int) ≤ q := by omega
          have g2' : d < U.size := by omega
          have hg' : (U[q].toNat : Int) = 48 ∧ (U[d].toNat : Int) = 48 ∧ (O[q].toNat : Int) = 49 ∨ (U[q].toNat : Int) = 49 ∧ (U[d].toNat : Int) = 49 ∧ (O[q].toNat : Int) = 48 := by
            subst hd
            exact hg
          clear hg hd
          rcases hg' with ⟨v1, v2, v3⟩ | ⟨v1, v2, v3⟩
          · skip
            go_wp2_with fail
            go_region
            go_wp2_with fail
            go_roundw
            case rel => exact ⟨q + 1, by go_num, by omega, by omega, Below.drew hBq⟩
            case measure => simp only [intOf]; omega
          · skip
            go_wp2_with fail
            go_region
            go_wp2_with fail
            go_roundw
            case rel => exact ⟨q + 1, by go_num, by omega, by omega, Below.drew hBq⟩
            case measure => simp only [intOf]; omega
        · have hqn' : ¬ (q : Int) < (N : Int) - 1 := by omega
          go_wp2_with fail
          refine (hbo.out _).mono ?_; rintro e w9 ⟨rfl, hb9⟩
          have hB9 := hBq.trans (hb9.mono hBq.size)
          go_wp2
          go_ret
          exact ⟨rfl, hB9⟩

set_option maxRecDepth 100000 in
theorem lifted (os : Os) (started : os.Started) (H : Type) (enc : TypeId × Value → H) :
    ReturnsInHanded {} Tryd.checked os 3 .any (fun w args => (Rows.fnCodeOfSpec.pre enc Tryd.prog Tryd.f3 Rows.fnCodeOfRow.domain false w args ∧ laidMetH Tryd.prog Rows.fnCodeOfRow.laid w) ∧ sizedMet enc Tryd.prog Tryd.f3 (OpenSpec.ofChange Rows.fnCodeOfSpec) false w args) (Rows.fnCodeOfSpec.post enc Tryd.prog Tryd.f3 false true false false) := by
  refine returnsInHanded_of_change_and (C := Tryd.checked) (X := fun w _ => laidMetH Tryd.prog Rows.fnCodeOfRow.laid w) (fun _ _ _ hh h => h.of_heap hh) own started (by kernel_rfl) Tryd.func3
    (ChangeSpec.witness_shaped (enc := enc) (C := Tryd.checked) (os := os) (X := fun w _ => laidMetH Tryd.prog Rows.fnCodeOfRow.laid w) false (World.laidAll Tryd.prog os Rows.fnCodeOfRow.laid) #[.slice none 0 0] 8 (World.laidAll_os _ _ _)
      (World.shaped_of_ZipB (by kernel_rfl) (by kernel_rfl)) (by kernel_rfl) (by kernel_rfl) (by kernel_rfl)
      (by rw [MakeChecks.laidMetH_plain _ _ _ (by kernel_rfl)]; exact laidMet_laidAll _ (by kernel_rfl) (by kernel_rfl))) ?_
  intro W base args ds gs before hval0 hW hcnd _ hL _
  have hval : ∀ (j : Nat) t v, Tryd.f3.params[j]? = some t → args[j]? = some v → Value.okWide Tryd.prog W .any base t v := hval0
  have hW' := hW
  obtain ⟨p, q, hA0, hV, rfl, hfz, hnd⟩ := hW
  have hA : DataW.TrodAll enc Tryd.prog W 0 (fun _ => true) true Tryd.f3.params.toList args.toList ds p := hA0
  rw [Tryd.params3] at hA hval
  obtain ⟨v0, vs0, d0, ds0, p0, q0, hargs, rfl, rfl, h0, r0⟩ := trodAll_cons hA
  obtain ⟨rfl, rfl, rfl⟩ := trodAll_nil r0
  obtain rfl : args = #[v0] := by cases args; simp_all
  obtain ⟨rfl, rfl⟩ := trodVars_none hV
  obtain ⟨acode, lencode, capcode, rfl⟩ := okWide_slice Tryd.underlying22 (hval 0 22 v0 rfl rfl)
  have k0 := h0
  have lt0 : ∀ x ∈ p0, x.block < W.heap.size := by obtain ⟨m, hm⟩ := k0; exact DataW.trod_lt m _ _ _ hm
  obtain ⟨zcode, rowcode⟩ : ∃ zs, IsRow .u8 W acode lencode capcode zs := by
    obtain ⟨fuel, hf⟩ := h0
    rcases open_ints Tryd.underlying22 Tryd.underlying5 (by kernel_rfl) hf with ⟨hcs, _⟩ | ⟨x, l, c, zs, hcs, _, hl, hm, hz, _, hcell, hwz⟩
    · simp [Value.cells] at hcs
      obtain ⟨rfl, rfl, rfl⟩ := hcs
      exact ⟨[], .inl ⟨rfl, rfl, rfl, rfl⟩⟩
    · simp [Value.cells] at hcs
      obtain ⟨rfl, rfl, rfl⟩ := hcs
      exact ⟨zs, .inr ⟨_, rfl, hl, hm, by simpa using hz, hcell, hwz⟩⟩
  clear hA0 hval0
  refine (walk acode lencode capcode zcode W rowcode).mono fun e W' ⟨he, bel⟩ => ?_
  subst he
  exact ⟨_, rfl, _, _, _, [], _, [], hW', trodAll_mk1 (shut_bool Tryd.underlying4 _), (trodAll_cons_mk (Below.trod laidOut (by kernel_rfl) (of_decide_eq_true (by kernel_rfl)) k0 bel lt0) trodAll_mk0), rfl, bel.frame _, fun h => by cases h⟩

theorem facts : joinedFacts Tryd.pinned.checked.prog 3 Tryd.f3 Rows.fnCodeOfSpec Rows.fnCodeOfRow = true := by
  simp only [joinedFacts, Bool.and_eq_true]
  repeat' apply And.intro
  all_goals first | rw [mayEnter_eq] | (rw [liftsFinal_eq]; kernel_rfl) | (rw [make_eq]; kernel_rfl) | kernel_rfl

theorem over : Rows.fnCodeOfRow.holds Tryd.pinned (OpenSpec.ofChange Rows.fnCodeOfSpec) :=
  OpenClaim.holds_of_wide 3 Tryd.f3 rfl rfl rfl rfl rfl rfl rfl ⟨rfl, rfl, rfl, rfl, rfl⟩ rfl rfl rfl rfl rfl (by kernel_rfl) Tryd.func3 facts
    (of_decide_eq_true (by kernel_rfl)) (by unfold Func.isWrapper; first | (rw [if_pos (by decide +kernel)]; kernel_rfl) | (rw [if_neg (by decide +kernel)]; exact ⟨rfl, rfl⟩))
    (fun os started H enc _ => lifted os started H enc)

theorem proved : Rows.FnCodeOfCardSaid :=
  Claim7.holds_tied_plain_at .later [] [.data, .pinned] true (true, "3a3e2f4b1f073bd923c3d502470e3f083a171507c73a96dde24c9ae0bba42b61") false over (fun _ h => by cases h) (by kernel_rfl) (fun _ h => by cases h) fnCodeOf_row_tie rfl ⟨rfl, rfl⟩ (by kernel_rfl) rfl
    (fun f fn hf hfn => by
      obtain rfl : f = 3 := Option.some.inj ((show Tryd.prog.funcNamed Rows.fnCodeOfRow.func = some 3 by kernel_rfl).symm.trans hf) |>.symm
      obtain rfl : fn = Tryd.f3 := (Option.some.inj (Tryd.func3.symm.trans hfn)).symm
      exact ⟨by kernel_rfl, fun j t ht => by
        rw [Tryd.params3] at ht
        have hm : t ∈ [22] := by simpa using Array.mem_of_getElem? ht
        have hall : ([22].all fun u => !Tryd.prog.wantsStandIn u) = true := by kernel_rfl
        exact (show Tryd.prog.wantsStandIn t = false by simpa using List.all_eq_true.1 hall t hm)⟩)
    (by kernel_rfl)
#print axioms proved
end Go.Proofs.YtppahekbgbbidabDoor.lawCodeOf
