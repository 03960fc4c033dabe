/- Proves that FnBasisOf returns true for every code, and leaves the code as it was. No conditions. -/
import Derived.Test.YtdkmghbbnkppcaaHead
import Derived.Test.YtdkmghbbnkppcaaNumI
import Derived.Test.YtdkmghbbnkppcaaDrawD
import Derived.Test.YtdkmghbbnkppcaaRecI
import Derived.Test.YtdkmghbbnkppcaaHas
import Derived.Test.YtdkmghbbnkppcaaLong
import Derived.Test.YtdkmghbbnkppcaaGFun2
set_option linter.unusedVariables false
namespace Go.Proofs.Ytdkmghbbnkppcaa.lawBasisOf

set_option maxRecDepth 4000
open Go.ChangeShapes Go.WideShapes Go.ChangeAt Go.RowKit Go.Joins N

theorem castL_mem {x : Nat} {L : List Nat} : ((x : Int) ∈ castL L) ↔ x ∈ L := by
  simp only [castL, List.mem_map]
  constructor
  · rintro ⟨y, hy, e⟩
    have : y = x := by omega
    subst this; exact hy
  · intro h; exact ⟨x, h, rfl⟩

theorem near_mem {n s : Nat} (h : tokN n s = true) : ∀ x ∈ nearN n s, x = n ∨ x ∈ recL true n s ∨ x ∈ recL false n s := by
  have c := all_turns chkNear_all h
  unfold chkNear at c
  simp only [Bool.and_eq_true, List.all_eq_true, Bool.or_eq_true, Nat.beq_eq] at c
  intro x hx
  rcases (c.1 x hx).2.2 with e | e
  · exact .inl e
  · unfold memP at e
    simp only [List.any_eq_true, Bool.or_eq_true, Nat.beq_eq] at e
    obtain ⟨r, hr, e⟩ := e
    rcases e with e | e
    · rw [← e]; exact .inr (.inl (row_p_mem h hr))
    · rw [← e]; exact .inr (.inr (row_q_mem h hr))

theorem bas_mem {n s : Nat} (h : tokN n s = true) : ∀ x ∈ basN n s, x < n ∧ (x ∈ recL true n s ∨ x ∈ recL false n s) := by
  intro x hx
  obtain ⟨i, hi, e⟩ := List.mem_iff_getElem.1 hx
  have hl : x < n := by
    have := bas_lt h (show i < bmN n s from hi)
    rw [basAt_get hi, List.getD_eq_getElem?_getD, List.getElem?_eq_getElem hi] at this
    rw [← e]; exact this
  refine ⟨hl, ?_⟩
  rcases near_mem h x (bas_near x hx) with q | q
  · omega
  · exact q

theorem bas_asc {n s : Nat} (h : tokN n s = true) : (castL (basN n s)).Pairwise (· < ·) := by
  rw [List.pairwise_iff_getElem]
  intro i j hi hj hij
  rw [castL_len] at hi hj
  have e : ∀ k (hk : k < (basN n s).length), (castL (basN n s))[k]'(by rw [castL_len]; exact hk) = ((basAt n s k : Nat) : Int) := fun k hk => by
    have a := castL_getD (basN n s) k
    rw [List.getD_eq_getElem?_getD, List.getElem?_eq_getElem (by rw [castL_len]; exact hk), ← basAt_get (show k < bmN n s from hk)] at a
    exact a
  rw [e i hi, e j hj]
  have := bas_up (bas_scale h) hij (Nat.le_of_lt hj)
  omega

set_option maxHeartbeats 4000000 in
theorem walk (a : Option Addr) (len cap : Nat) (z : List Int) (w : World) (row : IsRow .u8 w a len cap z) :
    Calls Try.prog 3 #[.slice a len cap] w fun e w' => e = .returned (.bool true) ∧ Below w.heap.size w w' := by
  
  have hc := CodeIn.of row
  clear row
  by_cases hl : 1048576 < len
  · have hl' : (1048576 : Int) < len := by omega
    go_enter Try.func3, Try.ntmps3
    go_wp2
    go_ret
    exact ⟨rfl, (by repeat (first | exact Below.refl _ _ | assumption | (refine Below.trans ?_ (Below.mono (by assumption) (by first | omega | (simp <;> omega)))) | (refine Below.alloc ?_ (by first | omega | (simp <;> omega)) _) | (refine below_drewN ?_ _) | (refine Below.drew ?_) | (refine Below.setCell ?_ (by first | omega | (simp <;> omega)) _)))⟩
  · have hl' : ¬ (1048576 : Int) < len := by omega
    go_enter Try.func3, Try.ntmps3
    go_wp2_with fail
    refine (drawBasisOf_any a len cap _ hc (by omega)).mono ?_; rintro e w1 ⟨n, s, rfl, n0, n1, s0, s1, hb1⟩
    have hz1 := hb1.size
    try simp at hz1
    go_wp2_with fail
    refine (basisOf_any _ _ _).mono ?_; rintro e w2 ⟨v1, rfl, hp2, hb2⟩
    have hz2 := hb2.size
    try simp at hz2
    have t2 : Two w2 (w1.heap.size) (.int .i64 n) (.int .i64 s) 24 := Two.below (by repeat (first | assumption | exact Two.new' _ _ _ _ _ (by simp) | refine Two.alloc ?_ _ | refine Two.drewN ?_ _)) hb2 (by first | omega | (simp <;> omega))
    have hlt2 : (w1.heap.size) < w2.heap.size := t2.lt
    have hnt2 : ¬ (w1.heap.size) = w2.heap.size := Nat.ne_of_lt hlt2
    have t2c := t2.cell0
    have t2d := t2.cell1
    go_wp2_with fail
    refine (specBasisOf_any _ _ _).mono ?_; rintro e w3 ⟨v2, rfl, hq3, hb3⟩
    have hz3 := hb3.size
    try simp at hz3
    have t3 : Two w3 (w1.heap.size) (.int .i64 n) (.int .i64 s) 24 := Two.below (by repeat (first | assumption | exact Two.new' _ _ _ _ _ (by simp) | refine Two.alloc ?_ _ | refine Two.drewN ?_ _)) hb3 (by first | omega | (simp <;> omega))
    have hlt3 : (w1.heap.size) < w3.heap.size := t3.lt
    have hnt3 : ¬ (w1.heap.size) = w3.heap.size := Nat.ne_of_lt hlt3
    have t3c := t3.cell0
    have t3d := t3.cell1
    have hp3 := hp2.below hb3
    have hB3 : Below w.heap.size w w3 := (by repeat (first | exact Below.refl _ _ | assumption | (refine Below.trans ?_ (Below.mono (by assumption) (by first | omega | (simp <;> omega)))) | (refine Below.alloc ?_ (by first | omega | (simp <;> omega)) _) | (refine below_drewN ?_ _) | (refine Below.drew ?_) | (refine Below.setCell ?_ (by first | omega | (simp <;> omega)) _)))
    have hlen := basisF_len n s
    clear hb1 hb2 hb3 hp2
    go_wp2_with fail
    refine (sameInts_any v1 v2 _ _ _ hp3.reads hq3.reads (by omega) (by omega)).mono ?_; rintro e w4 ⟨rfl, nq, rfl⟩
    rw [decide_eq_true rfl]
    clear hq3
    have t4 : Two (w3.drewN nq) w1.heap.size (.int .i64 n) (.int .i64 s) 24 := t3
    have hB4 := below_drewN hB3 nq
    have hz4 : w1.heap.size < (w3.drewN nq).heap.size := t4.lt
    have hp4 : OwnO (w3.drewN nq) _ v1 _ := hp3
    clear hp3 hB3 t3 t3c t3d t2 t2c t2d
    generalize w3.drewN nq = w4 at *
    have t4c := t4.cell0
    have t4d := t4.cell1
    by_cases ht : tok n s = true
    · obtain ⟨N, S, rfl, rfl, hN⟩ := tokN_of ht
      obtain ⟨b1, b2, b3, b4, _⟩ := tokN_bd hN
      
      rw [basisF_yes hN] at hp4
      clear hlen
      have HX := Lib.hid (bas_mem hN)
      have HAsc := Lib.hid (bas_asc hN)
      obtain ⟨hm1, hm8, _, hsc, _⟩ := bas_facts hN
      have hfirst : (basN N S).getD 0 0 = 1 := by rw [← basAt_get (by omega)]; exact hsc.b0
      have hra := iRecordsAbove_any N S
      have hrb := iRecordsBelow_any N S
      rw [recF_yes hN] at hra hrb
      have hla : (recL true N S).length ≤ 60 := Nat.le_trans (recSt_len true N S N) b2
      have hlb : (recL false N S).length ≤ 60 := Nat.le_trans (recSt_len false N S N) b2
      have hm : (basN N S).length = bmN N S := rfl
      generalize bmN N S = m at *
      generalize basN N S = T at *
      generalize recL true N S = A at *
      generalize recL false N S = B at *
      obtain ⟨g, off, cap1, rfl, hbg, hg4, hnc, hcu⟩ := hp4.cells (N := m) (by rw [castL_len]; exact hm) (by omega)
      have HC : Hid (∀ j, j < m → w4.cell? ⟨g, off + j, none⟩ = some (.int .i64 ((T.getD j 0 : Nat) : Int))) := fun j hj => by rw [hcu j hj, castL_getD]
      have HR : Hid (Reads w4 (.slice (some ⟨g, off, none⟩) m cap1) (castL T)) := hp4.reads
      have HM := Lib.hid hm
      have HFi := Lib.hid hfirst
      have hm0 : ((m : Int) == 0) = false := by simp; omega
      have hm1' : (1 : Int) ≤ m := by omega
      have hm2' : (0 : Int) < m := by omega
      have hTl : (castL T).length ≤ 1000000 := by rw [castL_len]; omega
      have HTl := Lib.hid hTl
      clear hcu hp4 hm ht hN hfirst hsc hTl
      go_wp2_with fail
      refine (hra _).mono ?_; rintro e w5 ⟨va, rfl, hoa, hb5⟩
      have t5 := t4.below hb5 t4.lt
      have t5c := t5.cell0
      have t5d := t5.cell1
      have hz5 := hb5.size
      have hB5 := hB4.trans (hb5.mono hB4.size)
      clear hra
      go_wp2_with fail
      refine (hrb _).mono ?_; rintro e w6 ⟨vb, rfl, hob, hb6⟩
      have t6 := t5.below hb6 t5.lt
      have t6c := t6.cell0
      have t6d := t6.cell1
      have hz6 := hb6.size
      have hB6 := hB5.trans (hb6.mono hB5.size)
      have hoa6 := hoa.below hb6
      have HCC : Hid (∀ j, j < m → w6.cell? ⟨g, off + j, none⟩ = some (.int .i64 ((T.getD j 0 : Nat) : Int))) := fun j hj => (hb6.cell (p := ⟨g, off + j, none⟩) (show g < w5.heap.size by omega)).trans ((hb5.cell (p := ⟨g, off + j, none⟩) hg4).trans (HC.out j hj))
      have HRR : Hid (Reads w6 (.slice (some ⟨g, off, none⟩) m cap1) (castL T)) := (HR.out.below hb5).below hb6
      have hRA : ∀ q r, Reads (w6.drewN (q + r)) va (castL A) := fun q r => hoa6.reads
      have hRB : ∀ q r, Reads (w6.drewN (q + r)) vb (castL B) := fun q r => hob.reads
      have hla' : (castL A).length ≤ 1000000 := by rw [castL_len]; omega
      have hlb' : (castL B).length ≤ 1000000 := by rw [castL_len]; omega
      have hHA := fun (x : Int) (q r : Nat) => (hasInt_any va (castL A) x (w6.drewN (q + r)) (hRA q r) hla').mono (R' := fun e w' => e = .returned (.bool (decide (x ∈ castL A))) ∧ ∃ n, w' = w6.drewN (q + n)) (fun e w' h => ⟨h.1, r, h.2.symm⟩)
      have hHB := fun (x : Int) (q r : Nat) => (hasInt_any vb (castL B) x (w6.drewN (q + r)) (hRB q r) hlb').mono (R' := fun e w' => e = .returned (.bool (decide (x ∈ castL B))) ∧ ∃ n, w' = w6.drewN (q + n)) (fun e w' h => ⟨h.1, r, h.2.symm⟩)
      clear hrb hoa hob hoa6 hb5 hb6 hRA hRB HC HR t4 t4c t4d t5 t5c t5d hB4 hB5
      go_wp2_with fail
      go_loopw [7] (fun x wr => ∃ (k q : Nat), x = .int .i64 k ∧ k ≤ m ∧ wr = w6.drewN q) (fun x _ => m - (intOf x).toNat)
      case atStart => exact ⟨0, 0, rfl, by omega, rfl⟩
      case round =>
        obtain ⟨k, q, rfl, hk, rfl⟩ := hrel
        by_cases hkm : k < m
        · have hkm' : (k : Int) < m := by omega
          have ck := HCC.out k hkm
          have hkl : k < T.length := by rw [HM.out]; exact hkm
          have hTk : T.getD k 0 ∈ T := by rw [List.getD_eq_getElem?_getD, List.getElem?_eq_getElem hkl]; simp
          obtain ⟨hx1, hx⟩ := HX.out _ hTk
          generalize T.getD k 0 = x at *
          clear hTk
          have d1 : decide ((N : Int) ≤ (x : Int)) = false := by simp; omega
          have d1n : decide (N ≤ x) = false := by simp; omega
          clear hx1
          by_cases h2 : x ∈ A
          · have d2 : decide ((x : Int) ∈ castL A) = true := decide_eq_true (castL_mem.2 h2)
            go_wp2_with fail
            go_quiet ((go_at_call 26; with_reducible exact hHA _ _ _))
            rw [d2] at *
            go_wp2_with fail
            go_roundw
            case rel => exact ⟨k + 1, q + nq, by go_num, by omega, by simp⟩
            case measure => simp only [intOf]; omega
          · have h3 : x ∈ B := by
              rcases hx with h | h
              · exact absurd h h2
              · exact h
            have d2 : decide ((x : Int) ∈ castL A) = false := decide_eq_false (fun h => h2 (castL_mem.1 h))
            have d3 : decide ((x : Int) ∈ castL B) = true := decide_eq_true (castL_mem.2 h3)
            go_wp2_with fail
            go_quiet ((go_at_call 26; first | with_reducible exact hHA _ _ _ | with_reducible exact hHB _ _ _))
            rw [d2, d3] at *
            go_wp2_with fail
            go_roundw
            case rel => exact ⟨k + 1, q + nq, by go_num, by omega, by simp⟩
            case measure => simp only [intOf]; omega
        · obtain rfl : k = m := by omega
          have hkm' : decide ((k : Int) < k) = false := by simp
          have hB7 := below_drewN hB6 q
          have c0 : (w6.drewN q).cell? ⟨g, off, none⟩ = some (.int .i64 ((T.getD 0 0 : Nat) : Int)) := HCC.out 0 (by omega)
          have hR7 : Reads (w6.drewN q) (.slice (some ⟨g, off, none⟩) k cap1) (castL T) := HRR.out
          rw [HFi.out] at c0
          have hasc := ascend_any _ _ _ hR7 HTl.out HAsc.out
          clear hHA hHB t6 t6c t6d HCC hB6 hR7 HRR
          generalize w6.drewN q = w7 at *
          go_wp2_with fail
          refine hasc.mono ?_; rintro e w8 ⟨rfl, q8, rfl⟩
          go_wp2
          go_ret
          exact ⟨rfl, below_drewN hB7 q8⟩
    · rw [basisF_no ht] at hp4
      have ht' : tok n s = false := by simpa using ht
      obtain ⟨ga, cap1, rfl, _⟩ := hp4.reads.cells (N := 0) rfl
      clear hp4 hlen
      go_wp2_with fail
      refine (turnOk_any _ _ _).mono ?_; rintro e w5 ⟨rfl, hb5⟩
      rw [ht']
      have hB5 := hB4.trans (hb5.mono hB4.size)
      go_wp2_with fail
      refine (alive_any _).mono ?_; rintro e w6 ⟨rfl, hb6⟩
      have hB6 := hB5.trans (hb6.mono hB5.size)
      go_wp2
      go_ret
      exact ⟨rfl, hB6⟩

set_option maxRecDepth 100000 in
theorem lifted (os : Os) (started : os.Started) (H : Type) (enc : TypeId × Value → H) :
    ReturnsInHanded {} Try.checked os 3 .any (Rows.fnBasisOfSpec.pre6 enc Try.prog Try.f3 Rows.fnBasisOfRow.domain false) (Rows.fnBasisOfSpec.post enc Try.prog Try.f3 false true false false) := by
  refine returnsInHanded_of_change (C := Try.checked) own started (by kernel_rfl) Try.func3
    (ChangeSpec.witness6 (enc := enc) (C := Try.checked) false ⟨#[], #[.slice none 0 0], []⟩ 8 (by kernel_rfl) (by kernel_rfl) (by kernel_rfl) (by kernel_rfl)) ?_
  intro W base args ds gs before hval0 hW hcnd _
  have hval : ∀ (j : Nat) t v, Try.f3.params[j]? = some t → args[j]? = some v → Value.okWide Try.prog W .any base t v := hval0
  have hW' := hW
  obtain ⟨p, q, hA0, hV, rfl, hfz, hnd⟩ := hW
  have hA : DataW.TrodAll enc Try.prog W 0 (fun _ => true) true Try.f3.params.toList args.toList ds p := hA0
  rw [Try.params3] at hA hval
  obtain ⟨v0, vs0, d0, ds0, p0, q0, hargs, rfl, rfl, h0, r0⟩ := trodAll_cons hA
  obtain ⟨rfl, rfl, rfl⟩ := trodAll_nil r0
  obtain rfl : args = #[v0] := by cases args; simp_all
  obtain ⟨rfl, rfl⟩ := trodVars_none hV
  obtain ⟨acode, lencode, capcode, rfl⟩ := okWide_slice Try.underlying22 (hval 0 22 v0 rfl rfl)
  have k0 := h0
  have lt0 : ∀ x ∈ p0, x.block < W.heap.size := by obtain ⟨m, hm⟩ := k0; exact DataW.trod_lt m _ _ _ hm
  obtain ⟨zcode, rowcode⟩ : ∃ zs, IsRow .u8 W acode lencode capcode zs := by
    obtain ⟨fuel, hf⟩ := h0
    rcases open_ints Try.underlying22 Try.underlying5 (by kernel_rfl) hf with ⟨hcs, _⟩ | ⟨x, l, c, zs, hcs, _, hl, hm, hz, _, hcell, hwz⟩
    · simp [Value.cells] at hcs
      obtain ⟨rfl, rfl, rfl⟩ := hcs
      exact ⟨[], .inl ⟨rfl, rfl, rfl, rfl⟩⟩
    · simp [Value.cells] at hcs
      obtain ⟨rfl, rfl, rfl⟩ := hcs
      exact ⟨zs, .inr ⟨_, rfl, hl, hm, by simpa using hz, hcell, hwz⟩⟩
  clear hA0 hval0
  refine (walk acode lencode capcode zcode W rowcode).mono fun e W' ⟨he, bel⟩ => ?_
  subst he
  exact ⟨_, rfl, _, _, _, [], _, [], hW', trodAll_mk1 (shut_bool Try.underlying4 _), (trodAll_cons_mk (Below.trod laidOut (by kernel_rfl) (of_decide_eq_true (by kernel_rfl)) k0 bel lt0) trodAll_mk0), rfl, bel.frame _, fun h => by cases h⟩

theorem facts : joinedFacts Try.pinned.checked.prog 3 Try.f3 Rows.fnBasisOfSpec Rows.fnBasisOfRow = true := by
  simp only [joinedFacts, Bool.and_eq_true]
  repeat' apply And.intro
  all_goals first | rw [mayEnter_eq] | (rw [liftsFinal_eq]; kernel_rfl) | (rw [make_eq]; kernel_rfl) | kernel_rfl

theorem over : Rows.fnBasisOfRow.holds Try.pinned (OpenSpec.ofChange Rows.fnBasisOfSpec) :=
  OpenClaim.holds_of_wide 3 Try.f3 rfl rfl rfl rfl rfl rfl rfl ⟨rfl, rfl, rfl, rfl, rfl⟩ rfl rfl rfl rfl rfl (by kernel_rfl) Try.func3 facts
    (of_decide_eq_true (by kernel_rfl)) (by unfold Func.isWrapper; first | (rw [if_pos (by decide +kernel)]; kernel_rfl) | (rw [if_neg (by decide +kernel)]; exact ⟨rfl, rfl⟩))
    (fun os started H enc _ => lifted os started H enc)

theorem proved : Rows.FnBasisOfSaid := over
#print axioms proved
end Go.Proofs.Ytdkmghbbnkppcaa.lawBasisOf
