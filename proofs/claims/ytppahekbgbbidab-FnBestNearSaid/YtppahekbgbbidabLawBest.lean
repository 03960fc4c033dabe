/- Proves that FnBestNear returns true for every code, and leaves the code as it was. No conditions. -/
import Derived.Test.YtppahekbgbbidabHead
import Derived.Test.YtppahekbgbbidabGQuot
import Derived.Test.YtppahekbgbbidabRec3
import Derived.Test.YtppahekbgbbidabDraw9
import Derived.Test.YtppahekbgbbidabGFun2
set_option linter.unusedVariables false
namespace Go.Proofs.Ytppahekbgbbidab.lawBest

set_option maxRecDepth 4000
open Go.ChangeShapes Go.WideShapes Go.ChangeAt Go.RowKit Go.Joins N

def chkLess (n s : Nat) : Bool := (nearN n s).dropLast.all (fun x => Nat.blt x n)

theorem chkLess_all : ((List.range 61).all fun n => (List.range n).all fun s => !tokN n s || chkLess n s) = true := by decide +kernel

theorem near_lt {n s : Nat} (h : tokN n s = true) : ∀ k, k + 1 < (nearN n s).length → (nearN n s).getD k 0 < n := by
  intro k hk
  have c := all_turns chkLess_all h
  unfold chkLess at c
  simp only [List.all_eq_true, Nat.blt_eq] at c
  refine c _ ?_
  rw [List.getD_eq_getElem?_getD, List.getElem?_eq_getElem (by omega)]
  have : (nearN n s)[k]'(by omega) = (nearN n s).dropLast[k]'(by rw [List.length_dropLast]; omega) := by rw [List.getElem_dropLast]
  rw [Option.getD_some, this]
  exact List.getElem_mem _

theorem bestGo_get {n s : Nat} : ∀ (l : List Nat), bestGo n s l = true → ∀ i, i + 1 < l.length → ∀ t, t < l.getD (i + 1) 0 → t ≠ 0 → t ≠ l.getD i 0 → nearP n (l.getD i 0 * s % n) ≤ nearP n (t * s % n) := by
  intro l
  induction l with
  | nil => intro _ i hi; simp at hi
  | cons x r ih =>
    intro h i hi t ht h0 hx
    cases r with
    | nil => simp at hi
    | cons y r' =>
      rw [bestGo, Bool.and_eq_true] at h
      cases i with
      | zero =>
        have h1 := List.all_eq_true.1 h.1 t (by simpa using ht)
        simp only [Bool.or_eq_true, Nat.beq_eq, Nat.ble_eq] at h1
        rcases h1 with e | e | e
        · exact absurd e h0
        · exact absurd e hx
        · exact e
      | succ i => exact ih h.2 i (by simpa using hi) t (by simpa using ht) h0 (by simpa using hx)

theorem near_best {n s : Nat} (h : tokN n s = true) : ∀ k, 1 ≤ k → k + 1 < (nearN n s).length → ∀ t, t < (nearN n s).getD (k + 1) 0 → t ≠ 0 → t ≠ (nearN n s).getD k 0 → nearP n ((nearN n s).getD k 0 * s % n) ≤ nearP n (t * s % n) := by
  intro k h1 hk t ht h0 hx
  have c := all_turns chkBest_all h
  unfold chkBest at c
  obtain ⟨k, rfl⟩ : ∃ j, k = j + 1 := ⟨k - 1, by omega⟩
  cases e : nearN n s with
  | nil => rw [e] at hk; simp at hk
  | cons x r =>
    rw [e] at c hk ht hx
    exact bestGo_get r c k (by simpa using hk) t (by simpa using ht) h0 (by simpa using hx)

theorem nearP_eq {n x : Nat} (h : x < n) : ((nearP n x : Nat) : Int) = if (n : Int) - x < x then (n : Int) - x else x := by
  unfold nearP
  by_cases c : x ≤ n - x
  · rw [show Nat.ble x (n - x) = true by rw [Nat.ble_eq]; exact c, cond_true, if_neg (by omega)]
  · have : Nat.ble x (n - x) = false := by
      cases e : Nat.ble x (n - x) with
      | false => rfl
      | true => exact absurd (by rw [Nat.ble_eq] at e; exact e) c
    rw [this, cond_false, if_pos (by omega)]
    omega

set_option maxHeartbeats 4000000 in
theorem walk (a : Option Addr) (len cap : Nat) (z : List Int) (w : World) (row : IsRow .u8 w a len cap z) :
    Calls Try.prog 3 #[.slice a len cap] w fun e w' => e = .returned (.bool true) ∧ Below w.heap.size w w' := by
  
  have hc := CodeIn.of row
  clear row
  by_cases hl : 1048576 < len
  · have hl' : (1048576 : Int) < len := by omega
    go_enter Try.func3, Try.ntmps3
    go_wp2
    go_ret
    exact ⟨rfl, (by repeat (first | exact Below.refl _ _ | assumption | (refine Below.trans ?_ (Below.mono (by assumption) (by first | omega | (simp <;> omega)))) | (refine Below.alloc ?_ (by first | omega | (simp <;> omega)) _) | (refine below_drewN ?_ _) | (refine Below.drew ?_) | (refine Below.setCell ?_ (by first | omega | (simp <;> omega)) _)))⟩
  · have hl' : ¬ (1048576 : Int) < len := by omega
    go_enter Try.func3, Try.ntmps3
    go_wp2_with fail
    refine (drawNearTimes_any a len cap _ hc (by omega)).mono ?_; rintro e w1 ⟨n, s, rfl, n0, n1, s0, s1, hb1⟩
    have hz1 := hb1.size
    try simp at hz1
    go_wp2_with fail
    refine (nearTimes_any _ _ _).mono ?_; rintro e w2 ⟨v1, rfl, hp2, hb2⟩
    have hz2 := hb2.size
    try simp at hz2
    have t2 : Two w2 (w1.heap.size) (.int .i64 n) (.int .i64 s) 24 := Two.below (by repeat (first | assumption | exact Two.new' _ _ _ _ _ (by simp) | refine Two.alloc ?_ _ | refine Two.drewN ?_ _)) hb2 (by first | omega | (simp <;> omega))
    have hlt2 : (w1.heap.size) < w2.heap.size := t2.lt
    have hnt2 : ¬ (w1.heap.size) = w2.heap.size := Nat.ne_of_lt hlt2
    have t2c := t2.cell0
    have t2d := t2.cell1
    have hB3 : Below w.heap.size w w2 := (by repeat (first | exact Below.refl _ _ | assumption | (refine Below.trans ?_ (Below.mono (by assumption) (by first | omega | (simp <;> omega)))) | (refine Below.alloc ?_ (by first | omega | (simp <;> omega)) _) | (refine below_drewN ?_ _) | (refine Below.drew ?_) | (refine Below.setCell ?_ (by first | omega | (simp <;> omega)) _)))
    have hp3 := hp2
    have t4 := t2
    have hB4 := hB3
    have hz4 : w1.heap.size < w2.heap.size := t4.lt
    clear hb1 hb2 hp2
    by_cases ht : tok n s = true
    · obtain ⟨N, S, rfl, rfl, hN⟩ := tokN_of ht
      obtain ⟨b1, b2, b3, b4, _⟩ := tokN_bd hN
      
      rw [nearF_yes hN] at hp3
      have hp4 : OwnL w2 _ v1 _ := hp3
      clear hp3 hB3 t2 t2c t2d
      generalize w2 = w4 at *
      have t4c := t4.cell0
      have t4d := t4.cell1
      have HX : Hid (∀ x ∈ nearN N S, 1 ≤ x ∧ x ≤ N) := (near_facts hN).1
      obtain ⟨_, hL9, hL2⟩ := near_facts hN
      have HB := Lib.hid (near_best hN)
      have HLt := Lib.hid (near_lt hN)
      have hpt : ∀ k : Nat, k < N → pointF (N : Int) S (k : Int) = ((k * S % N : Nat) : Int) := fun k hk => by
        rw [pointF_yes ht (by omega) (by omega)]; simp
      have HP := Lib.hid hpt
      generalize nearN N S = T at *
      obtain ⟨m, hm⟩ : ∃ m, T.length = m := ⟨_, rfl⟩
      rw [hm] at hL9 hL2
      obtain ⟨ga, cap1, rfl, HC0⟩ := hp4.cells ((castL_len T).trans hm)
      obtain ⟨g, rfl, g1, g2, HC1⟩ := HC0 (by omega)
      have HC : Hid (∀ j, j < m → w4.cell? ⟨g, j, none⟩ = some (.int .i64 ((T.getD j 0 : Nat) : Int))) := fun j hj => by
        have h' := HC1.out j hj
        rwa [castL_getD] at h'
      have HM := Lib.hid hm
      have hm0 : ((m : Int) == 0) = false := by simp; omega
      clear HC0 HC1 hp4 hm ht hN hpt
      go_wp2_with fail
      go_loopw [5] (fun x wr => ∃ (k : Nat), x = .int .i64 k ∧ 1 ≤ k ∧ k + 1 ≤ m ∧ Below w4.heap.size w4 wr) (fun x _ => m - (intOf x).toNat)
      case atStart => exact ⟨1, rfl, by omega, by omega, Below.refl _ _⟩
      case round =>
        obtain ⟨k, rfl, hk1, hk, hB⟩ := hrel
        have t5 := t4.below hB t4.lt
        have t5c := t5.cell0
        have t5d := t5.cell1
        have hsz := hB.size
        by_cases hkm : k + 1 < m
        · have hkm' : (k : Int) + 1 < m := by omega
          have ck := (hB.cell (p := ⟨g, k, none⟩) g2).trans (HC.out k (by omega))
          have hk0 : (0 : Int) ≤ k := by omega
          have hk2 : (k : Int) < m := by omega
          have hlt := HLt.out k (by rw [HM.out]; omega)
          have hbst := HB.out k hk1 (by rw [HM.out]; omega)
          have hxb := HX.out _ (by rw [List.getD_eq_getElem?_getD, List.getElem?_eq_getElem (show k < T.length by rw [HM.out]; omega)]; simp : T.getD k 0 ∈ T)
          have HXn : ∀ k, k + 1 < m → T.getD (k + 1) 0 ≤ N := fun k hk => (HX.out _ (by rw [List.getD_eq_getElem?_getD, List.getElem?_eq_getElem (show k + 1 < T.length by rw [HM.out]; omega)]; simp : T.getD (k + 1) 0 ∈ T)).2
          obtain ⟨x, hxT⟩ : ∃ x, T.getD k 0 = x := ⟨_, rfl⟩
          rw [hxT] at ck hlt hbst hxb
          have hp := HP.out x hlt
          have hPlt : x * S % N < N := Nat.mod_lt _ (by omega)
          generalize x * S % N = P at *
          have HPx := Lib.hid hp
          have HBs := Lib.hid hbst
          clear hp hbst
          have hNP := nearP_eq hPlt
          have hNPb : nearP N P ≤ N := by unfold nearP; cases Nat.ble P (N - P) <;> simp <;> omega
          have hxN : 1 ≤ x ∧ x ≤ N := hxb
          go_wp2_with fail
          go_region_held3 (fun w' => w'.cell? ⟨w1.heap.size, 0, none⟩ = some (.int .i64 (N : Int)) ∧ w'.cell? ⟨w1.heap.size, 1, none⟩ = some (.int .i64 (S : Int)) ∧ w'.cell? ⟨g, k, none⟩ = some (.int .i64 (x : Int))) (first | go_keep | exact ⟨t'c, t'd, ck'⟩)
            (first
              | (go_at_call 20; refine (pointOf_any N S x _).mono ?_; rintro e w' ⟨rfl, hb'⟩; rw [HPx.out]; have t' : Two w' w1.heap.size (.int .i64 (N : Int)) (.int .i64 (S : Int)) 24 := Two.below (Two.drew1 t5) hb' (show w1.heap.size < wr.heap.size by omega); have t'c := t'.cell0; have t'd := t'.cell1; have ck' := (hb'.cell (p := ⟨g, k, none⟩) (show g < wr.heap.size by omega)).trans ck; have hB' : Below w4.heap.size w4 w' := (Below.drew hB).trans (hb'.mono hsz)))
          have w1s : IntKind.i64.wrap ((N : Int) - P) = (N : Int) - P := IntWalk.i64_in _ (by omega)
          have cY := HC.out (k + 1) hkm
          have hYb := (HXn k hkm)
          obtain ⟨Y, hYT⟩ : ∃ Y, T.getD (k + 1) 0 = Y := ⟨_, rfl⟩
          rw [hYT] at cY hYb
          have HYT := Lib.hid hYT
          clear hYT HXn
          have hsz' := hB'.size
          by_cases hc1 : (N : Int) - P < P
          · rw [if_pos hc1] at hNP
            obtain ⟨NP, hNPe⟩ : ∃ NP, nearP N P = NP := ⟨_, rfl⟩
            rw [hNPe] at hNP hNPb
            have HNPe := Lib.hid hNPe
            clear hNPe
            go_wp2_with fail
            go_loopw [8, 9] (fun y _ wr' => ∃ (tm : Nat), y = .int .i64 tm ∧ 1 ≤ tm ∧ tm ≤ Y + 1 ∧ Below w4.heap.size w4 wr') (fun y _ _ => Y + 1 - (intOf y).toNat)
            case atStart => exact ⟨1, rfl, by omega, by omega, hB'⟩
            case round =>
              obtain ⟨tm, rfl, htm1, htm, hBi⟩ := hrel
              have t6 := t4.below hBi t4.lt
              have t6c := t6.cell0
              have t6d := t6.cell1
              have hszi := hBi.size
              have cYi := (hBi.cell (p := ⟨g, k + 1, none⟩) g2).trans cY
              have cki := (hBi.cell (p := ⟨g, k, none⟩) g2).trans (HC.out k (by omega))
              rw [hxT] at cki
              have hki : ((k : Int) + 1).toNat = k + 1 := by omega
              have hki0 : (0 : Int) ≤ (k : Int) + 1 := by omega
              by_cases htY : tm < Y
              · have htY' : (tm : Int) < Y := by omega
                have htN' : (tm : Int) < N := by omega
                have hp2 := HP.out tm (by omega)
                have hP2lt : tm * S % N < N := Nat.mod_lt _ (by omega)
                have hb2 := fun (hx : tm ≠ x) => HBs.out tm (by rw [HYT.out]; exact htY) (by omega) hx
                have hq2 := nearP_eq hP2lt
                rw [HNPe.out] at hb2
                generalize tm * S % N = P2 at *
                generalize nearP N P2 = NP2 at *
                have HP2 := Lib.hid hp2
                clear hp2
                have w2s : IntKind.i64.wrap ((N : Int) - P2) = (N : Int) - P2 := IntWalk.i64_in _ (by omega)
                go_wp2_with fail
                refine (pointOf_any N S tm _).mono ?_; rintro e w7 ⟨rfl, hb7⟩
                rw [HP2.out]
                have t7 := t6.below hb7 t6.lt
                have t7c := t7.cell0
                have t7d := t7.cell1
                have ck7 := (hb7.cell (p := ⟨g, k, none⟩) (show g < _ by omega)).trans cki
                have hB7 := hBi.trans (hb7.mono hszi)
                clear t6 t6c t6d hb7 hBi cYi
                by_cases hx : tm = x
                · subst hx
                  have d1 : ((tm : Int) != tm) = false := by simp
                  clear hb2 hq2
                  go_wp2_with fail
                  go_roundw
                  case rel => exact ⟨tm + 1, by go_num, by omega, by omega, hB7⟩
                  case measure => simp only [intOf]; omega
                · have d1 : ((tm : Int) != x) = true := by simp; omega
                  have hle := hb2 hx
                  by_cases hc2 : (N : Int) - P2 < P2
                  · rw [if_pos hc2] at hq2
                    have d2 : decide ((N : Int) - P2 < ((N : Int) - P)) = false := by simp; omega
                    clear hb2
                    go_wp2_with fail
                    go_roundw
                    case rel => exact ⟨tm + 1, by go_num, by omega, by omega, hB7⟩
                    case measure => simp only [intOf]; omega
                  · rw [if_neg hc2] at hq2
                    have d2 : decide ((P2 : Int) < ((N : Int) - P)) = false := by simp; omega
                    clear hb2
                    go_wp2_with fail
                    go_roundw
                    case rel => exact ⟨tm + 1, by go_num, by omega, by omega, hB7⟩
                    case measure => simp only [intOf]; omega
              · have htY' : decide ((tm : Int) < Y) = false := by simp; omega
                go_wp2_with fail
                go_roundw
                case rel => exact ⟨k + 1, by go_num, by omega, by omega, hBi⟩
                case measure => simp only [intOf]; omega
          · rw [if_neg hc1] at hNP
            obtain ⟨NP, hNPe⟩ : ∃ NP, nearP N P = NP := ⟨_, rfl⟩
            rw [hNPe] at hNP hNPb
            have HNPe := Lib.hid hNPe
            clear hNPe
            go_wp2_with fail
            go_loopw [8, 9] (fun y _ wr' => ∃ (tm : Nat), y = .int .i64 tm ∧ 1 ≤ tm ∧ tm ≤ Y + 1 ∧ Below w4.heap.size w4 wr') (fun y _ _ => Y + 1 - (intOf y).toNat)
            case atStart => exact ⟨1, rfl, by omega, by omega, hB'⟩
            case round =>
              obtain ⟨tm, rfl, htm1, htm, hBi⟩ := hrel
              have t6 := t4.below hBi t4.lt
              have t6c := t6.cell0
              have t6d := t6.cell1
              have hszi := hBi.size
              have cYi := (hBi.cell (p := ⟨g, k + 1, none⟩) g2).trans cY
              have cki := (hBi.cell (p := ⟨g, k, none⟩) g2).trans (HC.out k (by omega))
              rw [hxT] at cki
              have hki : ((k : Int) + 1).toNat = k + 1 := by omega
              have hki0 : (0 : Int) ≤ (k : Int) + 1 := by omega
              by_cases htY : tm < Y
              · have htY' : (tm : Int) < Y := by omega
                have htN' : (tm : Int) < N := by omega
                have hp2 := HP.out tm (by omega)
                have hP2lt : tm * S % N < N := Nat.mod_lt _ (by omega)
                have hb2 := fun (hx : tm ≠ x) => HBs.out tm (by rw [HYT.out]; exact htY) (by omega) hx
                have hq2 := nearP_eq hP2lt
                rw [HNPe.out] at hb2
                generalize tm * S % N = P2 at *
                generalize nearP N P2 = NP2 at *
                have HP2 := Lib.hid hp2
                clear hp2
                have w2s : IntKind.i64.wrap ((N : Int) - P2) = (N : Int) - P2 := IntWalk.i64_in _ (by omega)
                go_wp2_with fail
                refine (pointOf_any N S tm _).mono ?_; rintro e w7 ⟨rfl, hb7⟩
                rw [HP2.out]
                have t7 := t6.below hb7 t6.lt
                have t7c := t7.cell0
                have t7d := t7.cell1
                have ck7 := (hb7.cell (p := ⟨g, k, none⟩) (show g < _ by omega)).trans cki
                have hB7 := hBi.trans (hb7.mono hszi)
                clear t6 t6c t6d hb7 hBi cYi
                by_cases hx : tm = x
                · subst hx
                  have d1 : ((tm : Int) != tm) = false := by simp
                  clear hb2 hq2
                  go_wp2_with fail
                  go_roundw
                  case rel => exact ⟨tm + 1, by go_num, by omega, by omega, hB7⟩
                  case measure => simp only [intOf]; omega
                · have d1 : ((tm : Int) != x) = true := by simp; omega
                  have hle := hb2 hx
                  by_cases hc2 : (N : Int) - P2 < P2
                  · rw [if_pos hc2] at hq2
                    have d2 : decide ((N : Int) - P2 < (P : Int)) = false := by simp; omega
                    clear hb2
                    go_wp2_with fail
                    go_roundw
                    case rel => exact ⟨tm + 1, by go_num, by omega, by omega, hB7⟩
                    case measure => simp only [intOf]; omega
                  · rw [if_neg hc2] at hq2
                    have d2 : decide ((P2 : Int) < (P : Int)) = false := by simp; omega
                    clear hb2
                    go_wp2_with fail
                    go_roundw
                    case rel => exact ⟨tm + 1, by go_num, by omega, by omega, hB7⟩
                    case measure => simp only [intOf]; omega
              · have htY' : decide ((tm : Int) < Y) = false := by simp; omega
                go_wp2_with fail
                go_roundw
                case rel => exact ⟨k + 1, by go_num, by omega, by omega, hBi⟩
                case measure => simp only [intOf]; omega
        · have hkm' : decide ((k : Int) + 1 < m) = false := by simp; omega
          have hB6 := hB4.trans (hB.mono hB4.size)
          go_wp2
          go_ret
          exact ⟨rfl, hB6⟩
    · 
      rw [nearF_no ht] at *
      have ht' : tok n s = false := by simpa using ht
      have hp4 : OwnL w2 _ v1 [] := hp3
      obtain ⟨ga, cap1, rfl, _⟩ := hp4.reads.cells (N := 0) rfl
      clear hp3 hp4
      go_wp2_with fail
      refine (specTurnOk_any _ _ _).mono ?_; rintro e w5 ⟨rfl, hb5⟩
      rw [ht']
      go_wp2_with fail
      refine (alive_any _).mono ?_; rintro e w6 ⟨rfl, hb6⟩
      have hz5 := hb5.size
      have hB6 : Below w.heap.size w w6 := (hB4.trans (hb5.mono hB4.size)).trans (hb6.mono (Nat.le_trans hB4.size hz5))
      go_wp2
      go_ret
      exact ⟨rfl, hB6⟩

set_option maxRecDepth 100000 in
theorem lifted (os : Os) (started : os.Started) (H : Type) (enc : TypeId × Value → H) :
    ReturnsInHanded {} Try.checked os 3 .any (Rows.fnBestNearSpec.pre6 enc Try.prog Try.f3 Rows.fnBestNearRow.domain false) (Rows.fnBestNearSpec.post enc Try.prog Try.f3 false true false false) := by
  refine returnsInHanded_of_change (C := Try.checked) own started (by kernel_rfl) Try.func3
    (ChangeSpec.witness6 (enc := enc) (C := Try.checked) false ⟨#[], #[.slice none 0 0], []⟩ 8 (by kernel_rfl) (by kernel_rfl) (by kernel_rfl) (by kernel_rfl)) ?_
  intro W base args ds gs before hval0 hW hcnd _
  have hval : ∀ (j : Nat) t v, Try.f3.params[j]? = some t → args[j]? = some v → Value.okWide Try.prog W .any base t v := hval0
  have hW' := hW
  obtain ⟨p, q, hA0, hV, rfl, hfz, hnd⟩ := hW
  have hA : DataW.TrodAll enc Try.prog W 0 (fun _ => true) true Try.f3.params.toList args.toList ds p := hA0
  rw [Try.params3] at hA hval
  obtain ⟨v0, vs0, d0, ds0, p0, q0, hargs, rfl, rfl, h0, r0⟩ := trodAll_cons hA
  obtain ⟨rfl, rfl, rfl⟩ := trodAll_nil r0
  obtain rfl : args = #[v0] := by cases args; simp_all
  obtain ⟨rfl, rfl⟩ := trodVars_none hV
  obtain ⟨acode, lencode, capcode, rfl⟩ := okWide_slice Try.underlying22 (hval 0 22 v0 rfl rfl)
  have k0 := h0
  have lt0 : ∀ x ∈ p0, x.block < W.heap.size := by obtain ⟨m, hm⟩ := k0; exact DataW.trod_lt m _ _ _ hm
  obtain ⟨zcode, rowcode⟩ : ∃ zs, IsRow .u8 W acode lencode capcode zs := by
    obtain ⟨fuel, hf⟩ := h0
    rcases open_ints Try.underlying22 Try.underlying5 (by kernel_rfl) hf with ⟨hcs, _⟩ | ⟨x, l, c, zs, hcs, _, hl, hm, hz, _, hcell, hwz⟩
    · simp [Value.cells] at hcs
      obtain ⟨rfl, rfl, rfl⟩ := hcs
      exact ⟨[], .inl ⟨rfl, rfl, rfl, rfl⟩⟩
    · simp [Value.cells] at hcs
      obtain ⟨rfl, rfl, rfl⟩ := hcs
      exact ⟨zs, .inr ⟨_, rfl, hl, hm, by simpa using hz, hcell, hwz⟩⟩
  clear hA0 hval0
  refine (walk acode lencode capcode zcode W rowcode).mono fun e W' ⟨he, bel⟩ => ?_
  subst he
  exact ⟨_, rfl, _, _, _, [], _, [], hW', trodAll_mk1 (shut_bool Try.underlying4 _), (trodAll_cons_mk (Below.trod laidOut (by kernel_rfl) (of_decide_eq_true (by kernel_rfl)) k0 bel lt0) trodAll_mk0), rfl, bel.frame _, fun h => by cases h⟩

theorem facts : joinedFacts Try.pinned.checked.prog 3 Try.f3 Rows.fnBestNearSpec Rows.fnBestNearRow = true := by
  simp only [joinedFacts, Bool.and_eq_true]
  repeat' apply And.intro
  all_goals first | rw [mayEnter_eq] | (rw [liftsFinal_eq]; kernel_rfl) | (rw [make_eq]; kernel_rfl) | kernel_rfl

theorem over : Rows.fnBestNearRow.holds Try.pinned (OpenSpec.ofChange Rows.fnBestNearSpec) :=
  OpenClaim.holds_of_wide 3 Try.f3 rfl rfl rfl rfl rfl rfl rfl ⟨rfl, rfl, rfl, rfl, rfl⟩ rfl rfl rfl rfl rfl (by kernel_rfl) Try.func3 facts
    (of_decide_eq_true (by kernel_rfl)) (by unfold Func.isWrapper; first | (rw [if_pos (by decide +kernel)]; kernel_rfl) | (rw [if_neg (by decide +kernel)]; exact ⟨rfl, rfl⟩))
    (fun os started H enc _ => lifted os started H enc)

theorem proved : Rows.FnBestNearSaid := over
#print axioms proved
end Go.Proofs.Ytppahekbgbbidab.lawBest
