/- Proves that FnNearTimes returns true for every code, and leaves the code as it was. No conditions. -/
import Derived.Test.YtppahekbgbbidabHead
import Derived.Test.YtppahekbgbbidabGFrom
import Derived.Test.YtppahekbgbbidabRecI
import Derived.Test.YtppahekbgbbidabHas
import Derived.Test.YtppahekbgbbidabDraw9
import Derived.Test.YtppahekbgbbidabGFun2
set_option linter.unusedVariables false
namespace Go.Proofs.Ytppahekbgbbidab.lawNear

set_option maxRecDepth 4000
open Go.ChangeShapes Go.WideShapes Go.ChangeAt Go.RowKit Go.Joins N

theorem castL_mem {x : Nat} {L : List Nat} : ((x : Int) ∈ castL L) ↔ x ∈ L := by
  simp only [castL, List.mem_map]
  constructor
  · rintro ⟨y, hy, e⟩
    have : y = x := by omega
    subst this; exact hy
  · intro h; exact ⟨x, h, rfl⟩

theorem near_mem {n s : Nat} (h : tokN n s = true) : ∀ x ∈ nearN n s, x = n ∨ x ∈ recL true n s ∨ x ∈ recL false n s := by
  have c := all_turns chkNear_all h
  unfold chkNear at c
  simp only [Bool.and_eq_true, List.all_eq_true, Bool.or_eq_true, Nat.beq_eq] at c
  intro x hx
  rcases (c.1 x hx).2.2 with e | e
  · exact .inl e
  · unfold memP at e
    simp only [List.any_eq_true, Bool.or_eq_true, Nat.beq_eq] at e
    obtain ⟨r, hr, e⟩ := e
    rcases e with e | e
    · rw [← e]; exact .inr (.inl (row_p_mem h hr))
    · rw [← e]; exact .inr (.inr (row_q_mem h hr))

theorem near_last {n s : Nat} (h : tokN n s = true) : (nearN n s).getD ((nearN n s).length - 1) 0 = n := by
  have c := all_turns chkNear_all h
  unfold chkNear at c
  simp only [Bool.and_eq_true] at c
  have d := c.2.1
  cases e : (nearN n s).getLast? with
  | none => rw [e] at d; simp at d
  | some l =>
    rw [e] at d
    simp only [Nat.beq_eq] at d
    rw [List.getD_eq_getElem?_getD, ← List.getLast?_eq_getElem?, e]
    exact d

theorem near_one {n s : Nat} (h : tokN n s = true) : timeF (n : Int) s 1 = ((nearN n s).getD ((nearN n s).length - 2) 0 : Nat) ∨ ((nearN n s).getD ((nearN n s).length - 2) 0 : Nat) = (n : Int) - timeF (n : Int) s 1 := by
  have c := all_turns chkNear_all h
  unfold chkNear at c
  simp only [Bool.and_eq_true, Bool.or_eq_true, Nat.beq_eq] at c
  have hf := near_facts h
  obtain ⟨n2, _⟩ := tokN_bd h
  have hi : (nearN n s).length - 2 < (nearN n s).length := by omega
  have hm : (nearN n s).getD ((nearN n s).length - 2) 0 ∈ nearN n s := by rw [List.getD_eq_getElem?_getD, List.getElem?_eq_getElem hi]; simp
  have hb := hf.1 _ hm
  generalize (nearN n s).getD ((nearN n s).length - 2) 0 = b at *
  have ht := tok_of_tokN h
  rcases c.2.2.2.2 with e | e
  · left
    have hbn : b ≠ n := by rintro rfl; rw [Nat.mul_mod_right] at e; omega
    have e1 : ((b * s % n : Nat) : Int) = 1 := by rw [e]; rfl
    exact timeF_of ht (by omega) (by omega) (by simpa using e1)
  · right
    have e1 : (((n - b) * s % n : Nat) : Int) = 1 := by rw [e]; rfl
    rw [Int.natCast_emod, Int.natCast_mul] at e1
    have := timeF_of (n := (n : Int)) (s := s) (k := ((n - b : Nat) : Int)) (p := 1) ht (by omega) (by omega) e1
    omega

set_option maxHeartbeats 4000000 in
theorem walk (a : Option Addr) (len cap : Nat) (z : List Int) (w : World) (row : IsRow .u8 w a len cap z) :
    Calls Try.prog 5 #[.slice a len cap] w fun e w' => e = .returned (.bool true) ∧ Below w.heap.size w w' := by
  
  have hc := CodeIn.of row
  clear row
  by_cases hl : 1048576 < len
  · have hl' : (1048576 : Int) < len := by omega
    go_enter Try.func5, Try.ntmps5
    go_wp2
    go_ret
    exact ⟨rfl, (by repeat (first | exact Below.refl _ _ | assumption | (refine Below.trans ?_ (Below.mono (by assumption) (by first | omega | (simp <;> omega)))) | (refine Below.alloc ?_ (by first | omega | (simp <;> omega)) _) | (refine below_drewN ?_ _) | (refine Below.drew ?_) | (refine Below.setCell ?_ (by first | omega | (simp <;> omega)) _)))⟩
  · have hl' : ¬ (1048576 : Int) < len := by omega
    go_enter Try.func5, Try.ntmps5
    go_wp2_with fail
    refine (drawNearTimes_any a len cap _ hc (by omega)).mono ?_; rintro e w1 ⟨n, s, rfl, n0, n1, s0, s1, hb1⟩
    have hz1 := hb1.size
    try simp at hz1
    go_wp2_with fail
    refine (nearTimes_any _ _ _).mono ?_; rintro e w2 ⟨v1, rfl, hp2, hb2⟩
    have hz2 := hb2.size
    try simp at hz2
    have t2 : Two w2 (w1.heap.size) (.int .i64 n) (.int .i64 s) 24 := Two.below (by repeat (first | assumption | exact Two.new' _ _ _ _ _ (by simp) | refine Two.alloc ?_ _ | refine Two.drewN ?_ _)) hb2 (by first | omega | (simp <;> omega))
    have hlt2 : (w1.heap.size) < w2.heap.size := t2.lt
    have hnt2 : ¬ (w1.heap.size) = w2.heap.size := Nat.ne_of_lt hlt2
    have t2c := t2.cell0
    have t2d := t2.cell1
    go_wp2_with fail
    refine (specNearTimes_any _ _ _).mono ?_; rintro e w3 ⟨v2, rfl, hq3, hb3⟩
    have hz3 := hb3.size
    try simp at hz3
    have t3 : Two w3 (w1.heap.size) (.int .i64 n) (.int .i64 s) 24 := Two.below (by repeat (first | assumption | exact Two.new' _ _ _ _ _ (by simp) | refine Two.alloc ?_ _ | refine Two.drewN ?_ _)) hb3 (by first | omega | (simp <;> omega))
    have hlt3 : (w1.heap.size) < w3.heap.size := t3.lt
    have hnt3 : ¬ (w1.heap.size) = w3.heap.size := Nat.ne_of_lt hlt3
    have t3c := t3.cell0
    have t3d := t3.cell1
    have hp3 := hp2.below hb3
    have hB3 : Below w.heap.size w w3 := (by repeat (first | exact Below.refl _ _ | assumption | (refine Below.trans ?_ (Below.mono (by assumption) (by first | omega | (simp <;> omega)))) | (refine Below.alloc ?_ (by first | omega | (simp <;> omega)) _) | (refine below_drewN ?_ _) | (refine Below.drew ?_) | (refine Below.setCell ?_ (by first | omega | (simp <;> omega)) _)))
    have hz3' : w1.heap.size < w3.heap.size := hlt3
    have hlen := nearF_len n s
    clear hb1 hb2 hb3 hp2
    go_wp2_with fail
    refine (sameInts_any v1 v2 _ _ _ hp3.reads hq3.reads (by omega) (by omega)).mono ?_; rintro e w4 ⟨rfl, nq, rfl⟩
    rw [decide_eq_true rfl]
    clear hq3
    have t4 : Two (w3.drewN nq) w1.heap.size (.int .i64 n) (.int .i64 s) 24 := t3
    have hB4 := below_drewN hB3 nq
    have hz4 : w1.heap.size < (w3.drewN nq).heap.size := t4.lt
    by_cases ht : tok n s = true
    · obtain ⟨N, S, rfl, rfl, hN⟩ := tokN_of ht
      obtain ⟨b1, b2, b3, b4, _⟩ := tokN_bd hN
      
      rw [nearF_yes hN] at hp3
      have hp4 : OwnL (w3.drewN nq) _ v1 _ := hp3
      clear hp3 hlen hB3 t3 t3c t3d t2 t2c t2d
      generalize w3.drewN nq = w4 at *
      have t4c := t4.cell0
      have t4d := t4.cell1
      have HX := Lib.hid (near_mem hN)
      have HXn : Hid (∀ x ∈ nearN N S, 1 ≤ x ∧ x ≤ N) := (near_facts hN).1
      obtain ⟨_, hL9, hL2⟩ := near_facts hN
      have hlast := near_last hN
      have hone := near_one hN
      have hra := iRecordsAbove_any N S
      have hrb := iRecordsBelow_any N S
      rw [recF_yes hN] at hra hrb
      have hla : (recL true N S).length ≤ 60 := Nat.le_trans (recSt_len true N S N) b2
      have hlb : (recL false N S).length ≤ 60 := Nat.le_trans (recSt_len false N S N) b2
      obtain ⟨O, hO⟩ : ∃ O, timeF (N : Int) S 1 = O := ⟨_, rfl⟩
      rw [hO] at hone
      obtain ⟨o0, o1⟩ := timeF_bd ht (by omega : (0 : Int) ≤ 1) (by omega)
      rw [hO] at o0 o1
      have HO := Lib.hid hO
      generalize nearN N S = T at *
      generalize recL true N S = A at *
      generalize recL false N S = B at *
      obtain ⟨m, hm⟩ : ∃ m, T.length = m := ⟨_, rfl⟩
      rw [hm] at hL9 hL2 hlast hone
      obtain ⟨ga, cap1, rfl, HC0⟩ := hp4.cells ((castL_len T).trans hm)
      obtain ⟨g, rfl, g1, g2, HC1⟩ := HC0 (by omega)
      have HC : Hid (∀ j, j < m → w4.cell? ⟨g, j, none⟩ = some (.int .i64 ((T.getD j 0 : Nat) : Int))) := fun j hj => by
        have h' := HC1.out j hj
        rwa [castL_getD] at h'
      have HM := Lib.hid hm
      have hm0 : ((m : Int) == 0) = false := by simp; omega
      have HLs := Lib.hid hlast
      have HOn := Lib.hid hone
      clear HC0 HC1 hp4 hm ht hN hO hlast hone
      go_wp2_with fail
      refine (hra _).mono ?_; rintro e w5 ⟨va, rfl, hoa, hb5⟩
      have t5 := t4.below hb5 t4.lt
      have t5c := t5.cell0
      have t5d := t5.cell1
      have hz5 := hb5.size
      have hB5 := hB4.trans (hb5.mono hB4.size)
      clear hra
      go_wp2_with fail
      refine (hrb _).mono ?_; rintro e w6 ⟨vb, rfl, hob, hb6⟩
      have t6 := t5.below hb6 t5.lt
      have t6c := t6.cell0
      have t6d := t6.cell1
      have hz6 := hb6.size
      have hB6 := hB5.trans (hb6.mono hB5.size)
      have hoa6 := hoa.below hb6
      have HCC : Hid (∀ j, j < m → w6.cell? ⟨g, j, none⟩ = some (.int .i64 ((T.getD j 0 : Nat) : Int))) := fun j hj => (hb6.cell (p := ⟨g, j, none⟩) (show g < w5.heap.size by omega)).trans ((hb5.cell (p := ⟨g, j, none⟩) g2).trans (HC.out j hj))
      have hRA : ∀ q r, Reads (w6.drewN (q + r)) va (castL A) := fun q r => hoa6.reads
      have hRB : ∀ q r, Reads (w6.drewN (q + r)) vb (castL B) := fun q r => hob.reads
      have hla' : (castL A).length ≤ 1000000 := by rw [castL_len]; omega
      have hlb' : (castL B).length ≤ 1000000 := by rw [castL_len]; omega
      have hHA := fun (x : Int) (q r : Nat) => (hasInt_any va (castL A) x (w6.drewN (q + r)) (hRA q r) hla').mono (R' := fun e w' => e = .returned (.bool (decide (x ∈ castL A))) ∧ ∃ n, w' = w6.drewN (q + n)) (fun e w' h => ⟨h.1, r, h.2.symm⟩)
      have hHB := fun (x : Int) (q r : Nat) => (hasInt_any vb (castL B) x (w6.drewN (q + r)) (hRB q r) hlb').mono (R' := fun e w' => e = .returned (.bool (decide (x ∈ castL B))) ∧ ∃ n, w' = w6.drewN (q + n)) (fun e w' h => ⟨h.1, r, h.2.symm⟩)
      clear hrb hoa hob hoa6 hb5 hb6 hRA hRB HC t4 t4c t4d t5 t5c t5d hB4 hB5
      go_wp2_with fail
      go_loopw [7] (fun x wr => ∃ (k q : Nat), x = .int .i64 k ∧ k ≤ m ∧ wr = w6.drewN q) (fun x _ => m - (intOf x).toNat)
      case atStart => exact ⟨0, 0, rfl, by omega, rfl⟩
      case round =>
        obtain ⟨k, q, rfl, hk, rfl⟩ := hrel
        by_cases hkm : k < m
        · have hkm' : (k : Int) < m := by omega
          have ck := HCC.out k hkm
          have hkl : k < T.length := by rw [HM.out]; exact hkm
          have hTk : T.getD k 0 ∈ T := by rw [List.getD_eq_getElem?_getD, List.getElem?_eq_getElem hkl]; simp
          have hx := HX.out _ hTk
          generalize T.getD k 0 = x at *
          clear hTk
          by_cases h1 : x = N
          · subst h1
            have d1 : ((x : Int) != x) = false := by simp
            go_wp2_with fail
            go_quiet (fail)
            go_wp2_with fail
            go_roundw
            case rel => exact ⟨k + 1, q + nq, by go_num, by omega, by simp⟩
            case measure => simp only [intOf]; omega
          · have d1 : ((x : Int) != N) = true := by simp; omega
            by_cases h2 : x ∈ A
            · have d2 : decide ((x : Int) ∈ castL A) = true := decide_eq_true (castL_mem.2 h2)
              go_wp2_with fail
              go_quiet ((go_at_call 29; with_reducible exact hHA _ _ _))
              rw [d2] at *
              go_wp2_with fail
              go_roundw
              case rel => exact ⟨k + 1, q + nq, by go_num, by omega, by simp⟩
              case measure => simp only [intOf]; omega
            · have h3 : x ∈ B := by
                rcases hx with h | h | h
                · exact absurd h h1
                · exact absurd h h2
                · exact h
              have d2 : decide ((x : Int) ∈ castL A) = false := decide_eq_false (fun h => h2 (castL_mem.1 h))
              have d3 : decide ((x : Int) ∈ castL B) = true := decide_eq_true (castL_mem.2 h3)
              go_wp2_with fail
              go_quiet ((go_at_call 29; first | with_reducible exact hHA _ _ _ | with_reducible exact hHB _ _ _))
              rw [d2, d3] at *
              go_wp2_with fail
              go_roundw
              case rel => exact ⟨k + 1, q + nq, by go_num, by omega, by simp⟩
              case measure => simp only [intOf]; omega
        · obtain rfl : k = m := by omega
          have hkm' : decide ((k : Int) < k) = false := by simp
          have hk2 : decide ((k : Int) < 2) = false := by simp; omega
          have t7 : Two (w6.drewN q) w1.heap.size (.int .i64 N) (.int .i64 S) 24 := t6
          have hB7 := below_drewN hB6 q
          have HC7 : Hid (∀ j, j < k → (w6.drewN q).cell? ⟨g, j, none⟩ = some (.int .i64 ((T.getD j 0 : Nat) : Int))) := HCC
          have hg7 : g < (w6.drewN q).heap.size := by show g < w6.heap.size; omega
          generalize w6.drewN q = w7 at *
          have t7c := t7.cell0
          have t7d := t7.cell1
          clear hHA hHB t6 t6c t6d HCC hB6
          go_wp2_with fail
          refine (timeOf_any _ _ _ _).mono ?_; rintro e w8 ⟨rfl, hb8⟩
          rw [HO.out]
          have t8 := t7.below hb8 t7.lt
          have t8c := t8.cell0
          have t8d := t8.cell1
          have hB8 := hB7.trans (hb8.mono hB7.size)
          have c1 := (hb8.cell (p := ⟨g, k - 1, none⟩) hg7).trans (HC7.out (k - 1) (by omega))
          have c2 := (hb8.cell (p := ⟨g, k - 2, none⟩) hg7).trans (HC7.out (k - 2) (by omega))
          rw [HLs.out] at c1
          have hon := HOn.out
          have hb2 : (T.getD (k - 2) 0) ≤ N := by
            refine (HXn.out _ ?_).2
            rw [List.getD_eq_getElem?_getD, List.getElem?_eq_getElem (by rw [HM.out]; omega)]; simp
          generalize T.getD (k - 2) 0 = bb at *
          have q1 : (1 : Int) ≤ k := by omega
          have q2 : ((k : Int) - 1).toNat = k - 1 := by omega
          have q3 : (0 : Int) ≤ (k : Int) - 1 := by omega
          have q4 : (k : Int) - 1 < k := by omega
          have q5 : IntKind.i64.wrap ((k : Int) - 1) = (k : Int) - 1 := IntWalk.i64_in _ (by omega)
          have q6 : (2 : Int) ≤ k := by omega
          have q7 : ((k : Int) - 2).toNat = k - 2 := by omega
          have q8 : (0 : Int) ≤ (k : Int) - 2 := by omega
          have q9 : (k : Int) - 2 < k := by omega
          have q10 : IntKind.i64.wrap ((k : Int) - 2) = (k : Int) - 2 := IntWalk.i64_in _ (by omega)
          have q11 : IntKind.i64.wrap ((N : Int) - O) = (N : Int) - O := IntWalk.i64_in _ (by omega)
          have e1 : ((N : Int) == N) = true := by simp
          clear HC7 hb8 t7 t7c t7d hB7
          by_cases h1 : (bb : Int) = O
          · have d1 : ((bb : Int) == O) = true := by simpa using h1
            clear hon h1
            go_wp2_with fail
            go_quiet (fail)
            go_wp2
            go_ret
            exact ⟨ret_bool (by simp), below_drewN hB8 _⟩
          · have d1 : ((bb : Int) == O) = false := by simpa using h1
            have h2 : (bb : Int) = N - O := by
              rcases hon with h | h
              · exact absurd h.symm h1
              · exact h
            have d2 : ((bb : Int) == (N : Int) - O) = true := by simpa using h2
            clear hon h1 h2
            go_wp2_with fail
            go_quiet (fail)
            go_wp2
            go_ret
            exact ⟨ret_bool (by simp), below_drewN hB8 _⟩
    · 
      rw [nearF_no ht] at *
      have ht' : tok n s = false := by simpa using ht
      have hp4 : OwnL (w3.drewN nq) _ v1 [] := hp3
      obtain ⟨ga, cap1, rfl, _⟩ := hp4.reads.cells (N := 0) rfl
      clear hp3 hp4
      go_wp2_with fail
      refine (turnOk_any _ _ _).mono ?_; rintro e w5 ⟨rfl, hb5⟩
      rw [ht']
      go_wp2_with fail
      refine (alive_any _).mono ?_; rintro e w6 ⟨rfl, hb6⟩
      have hz5 := hb5.size
      have hB6 : Below w.heap.size w w6 := (hB4.trans (hb5.mono hB4.size)).trans (hb6.mono (Nat.le_trans hB4.size hz5))
      go_wp2
      go_ret
      exact ⟨rfl, hB6⟩

set_option maxRecDepth 100000 in
theorem lifted (os : Os) (started : os.Started) (H : Type) (enc : TypeId × Value → H) :
    ReturnsInHanded {} Try.checked os 5 .any (Rows.fnNearTimesSpec.pre6 enc Try.prog Try.f5 Rows.fnNearTimesRow.domain false) (Rows.fnNearTimesSpec.post enc Try.prog Try.f5 false true false false) := by
  refine returnsInHanded_of_change (C := Try.checked) own started (by kernel_rfl) Try.func5
    (ChangeSpec.witness6 (enc := enc) (C := Try.checked) false ⟨#[], #[.slice none 0 0], []⟩ 8 (by kernel_rfl) (by kernel_rfl) (by kernel_rfl) (by kernel_rfl)) ?_
  intro W base args ds gs before hval0 hW hcnd _
  have hval : ∀ (j : Nat) t v, Try.f5.params[j]? = some t → args[j]? = some v → Value.okWide Try.prog W .any base t v := hval0
  have hW' := hW
  obtain ⟨p, q, hA0, hV, rfl, hfz, hnd⟩ := hW
  have hA : DataW.TrodAll enc Try.prog W 0 (fun _ => true) true Try.f5.params.toList args.toList ds p := hA0
  rw [Try.params5] at hA hval
  obtain ⟨v0, vs0, d0, ds0, p0, q0, hargs, rfl, rfl, h0, r0⟩ := trodAll_cons hA
  obtain ⟨rfl, rfl, rfl⟩ := trodAll_nil r0
  obtain rfl : args = #[v0] := by cases args; simp_all
  obtain ⟨rfl, rfl⟩ := trodVars_none hV
  obtain ⟨acode, lencode, capcode, rfl⟩ := okWide_slice Try.underlying22 (hval 0 22 v0 rfl rfl)
  have k0 := h0
  have lt0 : ∀ x ∈ p0, x.block < W.heap.size := by obtain ⟨m, hm⟩ := k0; exact DataW.trod_lt m _ _ _ hm
  obtain ⟨zcode, rowcode⟩ : ∃ zs, IsRow .u8 W acode lencode capcode zs := by
    obtain ⟨fuel, hf⟩ := h0
    rcases open_ints Try.underlying22 Try.underlying5 (by kernel_rfl) hf with ⟨hcs, _⟩ | ⟨x, l, c, zs, hcs, _, hl, hm, hz, _, hcell, hwz⟩
    · simp [Value.cells] at hcs
      obtain ⟨rfl, rfl, rfl⟩ := hcs
      exact ⟨[], .inl ⟨rfl, rfl, rfl, rfl⟩⟩
    · simp [Value.cells] at hcs
      obtain ⟨rfl, rfl, rfl⟩ := hcs
      exact ⟨zs, .inr ⟨_, rfl, hl, hm, by simpa using hz, hcell, hwz⟩⟩
  clear hA0 hval0
  refine (walk acode lencode capcode zcode W rowcode).mono fun e W' ⟨he, bel⟩ => ?_
  subst he
  exact ⟨_, rfl, _, _, _, [], _, [], hW', trodAll_mk1 (shut_bool Try.underlying4 _), (trodAll_cons_mk (Below.trod laidOut (by kernel_rfl) (of_decide_eq_true (by kernel_rfl)) k0 bel lt0) trodAll_mk0), rfl, bel.frame _, fun h => by cases h⟩

theorem facts : joinedFacts Try.pinned.checked.prog 5 Try.f5 Rows.fnNearTimesSpec Rows.fnNearTimesRow = true := by
  simp only [joinedFacts, Bool.and_eq_true]
  repeat' apply And.intro
  all_goals first | rw [mayEnter_eq] | (rw [liftsFinal_eq]; kernel_rfl) | (rw [make_eq]; kernel_rfl) | kernel_rfl

theorem over : Rows.fnNearTimesRow.holds Try.pinned (OpenSpec.ofChange Rows.fnNearTimesSpec) :=
  OpenClaim.holds_of_wide 5 Try.f5 rfl rfl rfl rfl rfl rfl rfl ⟨rfl, rfl, rfl, rfl, rfl⟩ rfl rfl rfl rfl rfl (by kernel_rfl) Try.func5 facts
    (of_decide_eq_true (by kernel_rfl)) (by unfold Func.isWrapper; first | (rw [if_pos (by decide +kernel)]; kernel_rfl) | (rw [if_neg (by decide +kernel)]; exact ⟨rfl, rfl⟩))
    (fun os started H enc _ => lifted os started H enc)

theorem proved : Rows.FnNearTimesSaid := over
#print axioms proved
end Go.Proofs.Ytppahekbgbbidab.lawNear
