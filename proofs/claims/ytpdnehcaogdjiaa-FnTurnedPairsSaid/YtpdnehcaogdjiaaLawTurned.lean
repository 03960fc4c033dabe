/- Proves that FnTurnedPairs returns true for every pair of codes, and leaves both as they were. No conditions. -/
import Derived.Test.YtpdnehcaogdjiaaDrawO
import Derived.Test.YtpdnehcaogdjiaaOrdI
import Derived.Test.YtpdnehcaogdjiaaTurned
import Derived.Test.YtpdnehcaogdjiaaHas
import Derived.Test.YtpdnehcaogdjiaaFun3
set_option linter.unusedVariables false
namespace Go.Proofs.Ytpdnehcaogdjiaa.lawTurned
open Go.ChangeShapes Go.WideShapes Go.ChangeAt Go.RowKit Go.Joins N

theorem half {N s : Nat} (h : 2 * s + N = N * N) : ((N : Int) * ((N : Int) - 1)).tdiv 2 = s := by
  have e : (N : Int) * ((N : Int) - 1) = 2 * (s : Int) := by
    have h2 : (2 * (s : Int) + N) = (N : Int) * N := by exact_mod_cast h
    rw [Int.mul_sub, Int.mul_one]
    omega
  rw [e]
  exact Int.mul_tdiv_cancel_left _ (by decide)

theorem sq_le {N : Nat} (h : N ≤ 60) : (N : Int) * ((N : Int) - 1) ≤ 3600 ∧ -100 ≤ (N : Int) * ((N : Int) - 1) := by
  have h1 : N * N ≤ 60 * 60 := Nat.mul_le_mul h h
  have h2 : ((N * N : Nat) : Int) = (N : Int) * N := by simp
  rw [Int.mul_sub, Int.mul_one]
  omega

theorem orders_half {n s : Int} (ht : tok n s = true) {m : Nat} (h1 : 1 ≤ m) (hm : (m : Int) ≤ n) : (((m : Int) - 1) * ((m : Int) - 1 - 1)).tdiv 2 = ((invL (ordT n s m) : Nat) : Int) + ((invL (ordT n (n - s) m) : Nat) : Int) := by
  obtain ⟨q, rfl⟩ : ∃ q, m = q + 1 := ⟨m - 1, by omega⟩
  have h := half (N := q) (s := invL (ordT n s (q + 1)) + invL (ordT n (n - s) (q + 1))) (by have h := inv_orders ht h1 hm; simpa using h)
  rw [show ((q + 1 : Nat) : Int) - 1 = q by omega, h]
  simp

theorem rev_step {xs : List Int} {j : Nat} (h : j < xs.length) : (xs.drop j).reverse = (xs.drop (j + 1)).reverse ++ [xs.getD j 0] := by
  rw [List.drop_eq_getElem_cons h, List.reverse_cons, List.getD_eq_getElem?_getD, List.getElem?_eq_getElem h]
  rfl

theorem nodup_step {xs : List Int} {j : Nat} (h : j < xs.length) : (xs.drop j).Nodup ↔ xs.getD j 0 ∉ (xs.drop (j + 1)).reverse ∧ (xs.drop (j + 1)).Nodup := by
  rw [List.drop_eq_getElem_cons h, List.nodup_cons, List.mem_reverse, List.getD_eq_getElem?_getD, List.getElem?_eq_getElem h]
  rfl

set_option maxHeartbeats 4000000 in

set_option maxRecDepth 4000 in
theorem walk (a : Option Addr) (len cap : Nat) (z : List Int) (a2 : Option Addr) (len2 cap2 : Nat) (z2 : List Int) (w : World) (row : IsRow .u8 w a len cap z) (row2 : IsRow .u8 w a2 len2 cap2 z2) :
    Calls Try.prog 12 #[.slice a len cap, .slice a2 len2 cap2] w fun e w' => e = .returned (.bool true) ∧ Below w.heap.size w w' := by
  
  have hc := CodeIn.of row
  have hc2 := CodeIn.of row2
  clear row row2
  by_cases hl : 1048576 < len
  · have hl' : (1048576 : Int) < len := by omega
    go_enter Try.func12, Try.ntmps12
    go_wp2
    go_ret
    exact ⟨rfl, (by repeat (first | exact Below.refl _ _ | assumption | (refine Below.trans ?_ (Below.mono (by assumption) (by first | omega | (simp <;> omega)))) | (refine Below.alloc ?_ (by first | omega | (simp <;> omega)) _) | (refine below_drewN ?_ _) | (refine Below.drew ?_) | (refine Below.setCell ?_ (by first | omega | (simp <;> omega)) _)))⟩
  · have hl' : decide ((1048576 : Int) < len) = false := by simp; omega
    by_cases hl2 : 1048576 < len2
    · have hl2' : (1048576 : Int) < len2 := by omega
      go_enter Try.func12, Try.ntmps12
      go_wp2
      go_ret
      exact ⟨rfl, (by repeat (first | exact Below.refl _ _ | assumption | (refine Below.trans ?_ (Below.mono (by assumption) (by first | omega | (simp <;> omega)))) | (refine Below.alloc ?_ (by first | omega | (simp <;> omega)) _) | (refine below_drewN ?_ _) | (refine Below.drew ?_) | (refine Below.setCell ?_ (by first | omega | (simp <;> omega)) _)))⟩
    · have hl2' : decide ((1048576 : Int) < len2) = false := by simp; omega
      go_enter Try.func12, Try.ntmps12
      go_wp2_with fail
      refine (drawTurnedPairs_any a len cap _ hc (by omega)).mono ?_; rintro e w1 ⟨v1, xs, rfl, ho1, hx, hb1⟩
      have hc3 := hc2.below hb1
      go_wp2_with fail
      refine (turned_any v1 xs _ _ ho1 (by omega)).mono ?_; rintro e w2 ⟨rfl, rfl⟩
      go_wp2_with fail
      refine (specTurned_any v1 xs _ (OwnL.reads ho1) (by omega)).mono ?_; rintro e w3 ⟨rfl, nq, rfl⟩
      have ho3 : OwnL (w1.drewN nq) _ v1 xs := ho1
      have hB3 := below_drewN hb1 nq
      have hc4 : CodeIn (w1.drewN nq) a2 len2 cap2 := hc3.below (below_drewN (Below.refl _ _) nq)
      clear ho1 hb1 hc hc2 hc3
      generalize w1.drewN nq = w3 at *
      by_cases h60 : xs.length ≤ 60
      · rw [turnedF_yes h60]
        have hI := inv60 h60
        have hboth := fun hn => inv_both xs hn
        obtain ⟨N, hN⟩ : ∃ N, xs.length = N := ⟨_, rfl⟩
        rw [hN] at hboth h60
        have HTR : Hid (turnedF xs.reverse = (invL xs.reverse : Nat)) := turnedF_yes (by rw [List.length_reverse, hN]; exact h60)
        have hIr : invL xs.reverse ≤ 3600 := inv60 (by rw [List.length_reverse, hN]; exact h60)
        have HBoth : Hid (xs.Nodup → ((N : Int) * ((N : Int) - 1)).tdiv 2 = ((invL xs : Nat) : Int) + ((invL xs.reverse : Nat) : Int)) := fun hn => by
          have h := half (s := invL xs + invL xs.reverse) (hboth hn)
          rw [h]; simp
        have HSq := sq_le h60
        obtain ⟨I, hIe⟩ : ∃ I, invL xs = I := ⟨_, rfl⟩
        obtain ⟨J, hJe⟩ : ∃ J, invL xs.reverse = J := ⟨_, rfl⟩
        rw [hIe] at hI HBoth ⊢
        rw [hJe] at hIr HBoth HTR
        have hi0 : ¬ (I : Int) < 0 := by omega
        have hii : ((I : Int) != I) = false := by simp
        obtain ⟨aR, capR, rfl, HC0⟩ := (OwnL.reads ho3).cells hN
        have HN := Lib.hid hN
        have hnil := made_nil w3
        have hB0 : Below w3.heap.size w3 (w3.alloc (.cells #[] 3)) := (by repeat (first | exact Below.refl _ _ | assumption | (refine Below.trans ?_ (Below.mono (by assumption) (by first | omega | (simp <;> omega)))) | (refine Below.alloc ?_ (by first | omega | (simp <;> omega)) _) | (refine below_drewN ?_ _) | (refine Below.drew ?_) | (refine Below.setCell ?_ (by first | omega | (simp <;> omega)) _)))
        have HRev : Hid (∀ j, j < N → (xs.drop j).reverse = (xs.drop (j + 1)).reverse ++ [xs.getD j 0]) := fun j hj => rev_step (by rw [hN]; exact hj)
        have HNod : Hid (∀ j, j < N → ((xs.drop j).Nodup ↔ xs.getD j 0 ∉ (xs.drop (j + 1)).reverse ∧ (xs.drop (j + 1)).Nodup)) := fun j hj => nodup_step (by rw [hN]; exact hj)
        have hdN : xs.drop N = [] := List.drop_of_length_le (by rw [hN]; exact Nat.le_refl _)
        have hn0 : OwnL (w3.alloc (.cells #[] 3)) w3.heap.size (.slice (some ⟨w3.heap.size, 0, none⟩) 0 0) (xs.drop N).reverse := by rw [hdN]; exact hnil
        have hnn : (xs.drop N).Nodup := by rw [hdN]; exact List.nodup_nil
        clear hboth hIe hJe hN hnil hdN
        go_wp2_with fail
        go_loopw [7, 8, 9] (fun y dv x wr => ∃ (i : Nat) (b : Bool) (v0 : Value), x = .int .i64 ((i : Int) - 1) ∧ dv = .bool b ∧ v0 = y ∧ i ≤ N ∧ Hid (b = true ↔ (xs.drop i).Nodup) ∧ v0 ≠ .slice none 0 0 ∧ OwnL wr w3.heap.size v0 (xs.drop i).reverse ∧ Below w3.heap.size w3 wr) (fun _ _ x _ => (intOf x + 1).toNat)
        case atStart => exact ⟨N, true, _, rfl, rfl, rfl, Nat.le_refl _, ⟨fun _ => hnn, fun _ => rfl⟩, by simp, hn0, hB0⟩
        case round =>
          obtain ⟨i, b, v0, rfl, rfl, rfl, hi, HB, hne, ho, hB⟩ := hrel
          clear hnn hn0 hB0
          have hszr := hB.size
          by_cases h0 : i = 0
          · subst h0
            have hc0 : decide ((0 : Int) ≤ -1) = false := by decide
            have e0 : (((0 : Nat) : Int) - 1) = -1 := by omega
            rw [e0]
            rw [List.drop_zero] at ho HB
            have hc5 := hc4.below hB
            have hB5 := hB3.trans (hB.mono hB3.size)
            have hoB := ho
            clear HRev HNod HC0 hc4 hB hB3 ho3 ho
            go_wp2_with fail
            refine (drawOrderOf_any a2 len2 cap2 _ hc5 (by omega)).mono ?_; rintro e w5 ⟨n, s, m, rfl, n0, n1, s0, s1, k0, k1, hb5⟩
            have ho5 := hoB.below hb5
            have hB6 := hB5.trans (hb5.mono hB5.size)
            have hws5 : w.heap.size ≤ w5.heap.size := hB6.size
            have hl5 : wr.heap.size ≤ w5.heap.size := hb5.size
            have ho5b : OwnL (w5.alloc (.cells #[.int .i64 n, .int .i64 s] 24)) w3.heap.size v0 xs.reverse := World.ownsRow.alloc ho5 _
            have hB7 := hB6.alloc hws5 (.cells #[.int .i64 n, .int .i64 s] 24)
            clear hc5 hB5 hoB hb5 ho5 hB6
            go_wp2_with fail
            refine (orderOf_any n s m _).mono ?_; rintro e w6 ⟨v6, rfl, hp6, hb6⟩
            have hz6 := hb6.size
            try simp at hz6
            have t6 : Two w6 (w5.heap.size) (.int .i64 n) (.int .i64 s) 24 := Two.below (by repeat (first | assumption | exact Two.new' _ _ _ _ _ (by simp) | refine Two.alloc ?_ _ | refine Two.drewN ?_ _)) hb6 (by first | omega | (simp <;> omega))
            have hlt6 : (w5.heap.size) < w6.heap.size := t6.lt
            have hnt6 : ¬ (w5.heap.size) = w6.heap.size := Nat.ne_of_lt hlt6
            have t6c := t6.cell0
            have t6d := t6.cell1
            have ho6 := ho5b.below hb6
            have hB8 := hB7.trans (hb6.mono hB7.size)
            clear ho5b hB7 hb6
            go_wp2_with fail
            refine (backTurn_any n s _).mono ?_; rintro e w7 ⟨rfl, hb7⟩
            have hz7 := hb7.size
            try simp at hz7
            have t7 : Two w7 (w5.heap.size) (.int .i64 n) (.int .i64 s) 24 := Two.below (by repeat (first | assumption | exact Two.new' _ _ _ _ _ (by simp) | refine Two.alloc ?_ _ | refine Two.drewN ?_ _)) hb7 (by first | omega | (simp <;> omega))
            have hlt7 : (w5.heap.size) < w7.heap.size := t7.lt
            have hnt7 : ¬ (w5.heap.size) = w7.heap.size := Nat.ne_of_lt hlt7
            have t7c := t7.cell0
            have t7d := t7.cell1
            have ho7 := ho6.below hb7
            have hp7 := hp6.below hb7
            have hB9 := hB8.trans (hb7.mono hB8.size)
            clear ho6 hp6 hB8 hb7
            have h8 := orderOf_any (backT n s).1 (backT n s).2 m w7
            by_cases hv : tok n s = true ∧ 1 ≤ m ∧ m ≤ n
            · obtain ⟨ht, h1, hm⟩ := hv
              have hb := tok_bd ht
              have htb : tok n (n - s) = true := tok_back.trans ht
              obtain ⟨m, rfl⟩ := Int.eq_ofNat_of_zero_le (by omega : 0 ≤ m)
              rw [backT_yes ht] at h8 ⊢
              dsimp only at h8 ⊢
              rw [orderF_yes htb (by omega) hm] at h8
              rw [orderF_yes ht (by omega) hm] at hp7
              have HH := Lib.hid (orders_half ht (by omega : 1 ≤ m) hm)
              have hl1 := ordT_length n s m
              have hl2 := ordT_length n (n - s) m
              have ht1 := turnedF_yes (xs := ordT n s m) (by omega)
              have ht2 := turnedF_yes (xs := ordT n (n - s) m) (by omega)
              have hi1 := inv60 (xs := ordT n s m) (by omega)
              have hi2 := inv60 (xs := ordT n (n - s) m) (by omega)
              obtain ⟨I1, hI1⟩ : ∃ I1, invL (ordT n s m) = I1 := ⟨_, rfl⟩
              obtain ⟨I2, hI2⟩ : ∃ I2, invL (ordT n (n - s) m) = I2 := ⟨_, rfl⟩
              rw [hI1] at ht1 hi1 HH
              rw [hI2] at ht2 hi2 HH
              have HT1 := Lib.hid ht1
              have HT2 := Lib.hid ht2
              clear ht htb ht1 ht2 hI1 hI2
              go_wp2_with fail
              refine h8.mono ?_; rintro e w8 ⟨v8, rfl, hq8, hb8⟩
              have ho8 := ho7.below hb8
              have hp8 := hp7.below hb8
              have hB10 := hB9.trans (hb8.mono hB9.size)
              clear ho7 hp7 hB9 hb8 h8 t7 t7c t7d t6 t6c t6d
              have hP8 := hp8
              obtain ⟨a6, cap6, rfl, _⟩ := (OwnL.reads hp8).cells hl1
              have sqm := sq_le (N := m - 1) (by omega)
              rw [show ((m - 1 : Nat) : Int) = (m : Int) - 1 by omega] at sqm
              have wa : IntKind.i64.wrap ((m : Int) - 1) = (m : Int) - 1 := IntWalk.i64_in _ (by omega)
              have wb : IntKind.i64.wrap ((m : Int) - 1 - 1) = (m : Int) - 1 - 1 := IntWalk.i64_in _ (by omega)
              have wc : IntKind.i64.wrap (((m : Int) - 1) * ((m : Int) - 1 - 1)) = ((m : Int) - 1) * ((m : Int) - 1 - 1) := IntWalk.i64_in _ (by omega)
              have wd : IntKind.i64.wrap ((I1 : Int) + I2) = (I1 : Int) + I2 := IntWalk.i64_in _ (by omega)
              have we : IntKind.i64.wrap ((((m : Int) - 1) * ((m : Int) - 1 - 1)).tdiv 2) = (I1 : Int) + I2 := by rw [HH.out]; exact wd
              have wf : (((m : Int) - 1) * ((m : Int) - 1 - 1)).tdiv 2 = (I1 : Int) + I2 := HH.out
              have hm0 : ((m : Int) == 0) = false := by simp; omega
              have hee : ((I1 : Int) + I2 == (I1 : Int) + I2) = true := by simp
              cases b with
              | true =>
                have wg : IntKind.i64.wrap ((N : Int) - 1) = (N : Int) - 1 := IntWalk.i64_in _ (by omega)
                have wh : IntKind.i64.wrap ((N : Int) * ((N : Int) - 1)) = (N : Int) * ((N : Int) - 1) := IntWalk.i64_in _ (by omega)
                have wi : IntKind.i64.wrap ((I : Int) + J) = (I : Int) + J := IntWalk.i64_in _ (by omega)
                have wj : ((N : Int) * ((N : Int) - 1)).tdiv 2 = (I : Int) + J := HBoth.out (HB.out.1 rfl)
                have wk : IntKind.i64.wrap (((N : Int) * ((N : Int) - 1)).tdiv 2) = (I : Int) + J := by rw [wj]; exact wi
                have hff : ((I : Int) + J == (I : Int) + J) = true := by simp
                go_wp2_with fail
                refine (turned_any v0 xs.reverse _ _ ho8 (by rw [List.length_reverse, HN.out]; omega)).mono ?_; rintro e w9 ⟨rfl, rfl⟩
                rw [HTR.out]
                go_wp2_with fail
                refine (turned_any (.slice a6 m cap6) (ordT n s m) _ _ hp8 (by omega)).mono ?_; rintro e w10 ⟨rfl, rfl⟩
                rw [HT1.out]
                go_wp2_with fail
                refine (turned_any v8 (ordT n (n - s) m) _ _ hq8 (by omega)).mono ?_; rintro e w10 ⟨rfl, rfl⟩
                rw [HT2.out]
                go_wp2
                go_ret
                exact ⟨rfl, hB10⟩
              | false =>
                go_wp2_with fail
                refine (turned_any (.slice a6 m cap6) (ordT n s m) _ _ hp8 (by omega)).mono ?_; rintro e w10 ⟨rfl, rfl⟩
                rw [HT1.out]
                go_wp2_with fail
                refine (turned_any v8 (ordT n (n - s) m) _ _ hq8 (by omega)).mono ?_; rintro e w10 ⟨rfl, rfl⟩
                rw [HT2.out]
                go_wp2
                go_ret
                exact ⟨rfl, hB10⟩
            · rw [orderF_no hv] at hp7
              go_wp2_with fail
              refine h8.mono ?_; rintro e w8 ⟨v8, rfl, hq8, hb8⟩
              have ho8 := ho7.below hb8
              have hp8 := hp7.below hb8
              have hB10 := hB9.trans (hb8.mono hB9.size)
              clear ho7 hp7 hB9 hb8 h8 t7 t7c t7d t6 t6c t6d hq8
              obtain ⟨a6, cap6, rfl⟩ := nil_cells (OwnL.reads hp8)
              cases b with
              | true =>
                have wg : IntKind.i64.wrap ((N : Int) - 1) = (N : Int) - 1 := IntWalk.i64_in _ (by omega)
                have wh : IntKind.i64.wrap ((N : Int) * ((N : Int) - 1)) = (N : Int) * ((N : Int) - 1) := IntWalk.i64_in _ (by omega)
                have wi : IntKind.i64.wrap ((I : Int) + J) = (I : Int) + J := IntWalk.i64_in _ (by omega)
                have wj : ((N : Int) * ((N : Int) - 1)).tdiv 2 = (I : Int) + J := HBoth.out (HB.out.1 rfl)
                have wk : IntKind.i64.wrap (((N : Int) * ((N : Int) - 1)).tdiv 2) = (I : Int) + J := by rw [wj]; exact wi
                have hff : ((I : Int) + J == (I : Int) + J) = true := by simp
                go_wp2_with fail
                refine (turned_any v0 xs.reverse _ _ ho8 (by rw [List.length_reverse, HN.out]; omega)).mono ?_; rintro e w9 ⟨rfl, rfl⟩
                rw [HTR.out]
                go_wp2
                go_ret
                exact ⟨rfl, hB10⟩
              | false =>
                go_wp2
                go_ret
                exact ⟨rfl, hB10⟩
          · obtain ⟨j, rfl⟩ : ∃ j, i = j + 1 := ⟨i - 1, by omega⟩
            have ej : ((j + 1 : Nat) : Int) - 1 = j := by omega
            rw [ej]
            have hjN : (j : Int) < N := by omega
            have hj0 : (0 : Int) ≤ j := by omega
            obtain ⟨gR, offR, rfl, HC⟩ := HC0 (by omega)
            have cj := (hB.cell (p := ⟨gR, offR + j, none⟩) (World.block_lt_of_cell? w3 _ (HC.out j (by omega)))).trans (HC.out j (by omega))
            have hrev := HRev.out j (by omega)
            have hnod := HNod.out j (by omega)
            have hlen : (xs.drop (j + 1)).reverse.length = N - (j + 1) := by rw [List.length_reverse, List.length_drop, HN.out]
            generalize xs.getD j 0 = X at *
            generalize hL : (xs.drop (j + 1)).reverse = L at *
            have HR2 := Lib.hid hrev
            have HLn := Lib.hid hlen
            have HLe := Lib.hid hL
            have hLn : L.length ≤ 60 := by omega
            by_cases hbt : b = true
            · subst hbt
              have hnd := HB.out.1 rfl
              by_cases hin : X ∈ L
              · have HB2 : Hid (false = true ↔ (xs.drop j).Nodup) := ⟨fun h => absurd h (by decide), fun h => absurd hin (hnod.1 h).1⟩
                clear hnod hrev hlen hL HB hnd
                go_wp2_with fail
                refine (hasInt_any v0 L X _ (OwnL.reads ho) (by omega)).mono ?_; rintro e w5 ⟨rfl, rfl⟩
                rw [decide_eq_true hin]
                clear hin
                go_wp2_with (at_builtin; refine append_int rfl _ _ rfl w3.heap.size v0 L (N - (j + 1)) HLn (by omega) rfl ho hszr rfl ?_)
                intro v6 w6 ho6 hn6 hb6
                rw [← HR2.out] at ho6
                have hB6 := hB.trans hb6
                clear cj ho hb6 hB HC HC0
                go_wp2_with fail
                go_roundw
                case rel => exact ⟨j, false, v6, by go_num, rfl, rfl, by omega, HB2.out, hn6, ho6, hB6⟩
                case measure => simp only [intOf]; omega
              · have HB2 : Hid ((xs.drop j).Nodup) := hnod.2 ⟨hin, hnd⟩
                clear hnod hrev hlen hL HB hnd
                go_wp2_with fail
                refine (hasInt_any v0 L X _ (OwnL.reads ho) (by omega)).mono ?_; rintro e w5 ⟨rfl, rfl⟩
                rw [decide_eq_false hin]
                clear hin
                go_wp2_with (at_builtin; refine append_int rfl _ _ rfl w3.heap.size v0 L (N - (j + 1)) HLn (by omega) rfl ho hszr rfl ?_)
                intro v6 w6 ho6 hn6 hb6
                rw [← HR2.out] at ho6
                have hB6 := hB.trans hb6
                clear cj ho hb6 hB HC HC0
                go_wp2_with fail
                go_roundw
                case rel => exact ⟨j, true, v6, by go_num, rfl, rfl, by omega, ⟨fun _ => HB2.out, fun _ => rfl⟩, hn6, ho6, hB6⟩
                case measure => simp only [intOf]; omega
            · obtain rfl : b = false := by simpa using hbt
              have HB2 : Hid (false = true ↔ (xs.drop j).Nodup) := ⟨fun h => absurd h (by decide), fun h => HB.out.2 (hnod.1 h).2⟩
              clear hnod hrev hlen hL HB hbt
              go_wp2_with (at_builtin; refine append_int rfl _ _ rfl w3.heap.size v0 L (N - (j + 1)) HLn (by omega) rfl ho hszr rfl ?_)
              intro v6 w6 ho6 hn6 hb6
              rw [← HR2.out] at ho6
              have hB6 := hB.trans hb6
              clear cj ho hb6 hB HC HC0
              go_wp2_with fail
              go_roundw
              case rel => exact ⟨j, false, v6, by go_num, rfl, rfl, by omega, HB2.out, hn6, ho6, hB6⟩
              case measure => simp only [intOf]; omega
      · rw [turnedF_no h60]
        obtain ⟨aR, capR, rfl, _⟩ := (OwnL.reads ho3).cells rfl
        clear ho3 hc4
        go_wp2_with fail
        refine (alive_any _).mono ?_; rintro e w5 ⟨rfl, hb5⟩
        go_wp2
        go_ret
        exact ⟨rfl, hB3.trans (hb5.mono hB3.size)⟩

set_option maxRecDepth 100000 in
theorem lifted (os : Os) (started : os.Started) (H : Type) (enc : TypeId × Value → H) :
    ReturnsInHanded {} Try.checked os 12 .any (Rows.fnTurnedPairsSpec.pre6 enc Try.prog Try.f12 Rows.fnTurnedPairsRow.domain false) (Rows.fnTurnedPairsSpec.post enc Try.prog Try.f12 false true false false) := by
  refine returnsInHanded_of_change (C := Try.checked) own started (by kernel_rfl) Try.func12
    (ChangeSpec.witness6 (enc := enc) (C := Try.checked) false ⟨#[], #[.slice none 0 0, .slice none 0 0], []⟩ 8 (by kernel_rfl) (by kernel_rfl) (by kernel_rfl) (by kernel_rfl)) ?_
  intro W base args ds gs before hval0 hW hcnd _
  have hval : ∀ (j : Nat) t v, Try.f12.params[j]? = some t → args[j]? = some v → Value.okWide Try.prog W .any base t v := hval0
  have hW' := hW
  obtain ⟨p, q, hA0, hV, rfl, hfz, hnd⟩ := hW
  have hA : DataW.TrodAll enc Try.prog W 0 (fun _ => true) true Try.f12.params.toList args.toList ds p := hA0
  rw [Try.params12] at hA hval
  obtain ⟨v0, vs0, d0, ds0, p0, q0, hargs, rfl, rfl, h0, r0⟩ := trodAll_cons hA
  obtain ⟨v1, vs1, d1, ds1, p1, q1, rfl, rfl, rfl, h1, r1⟩ := trodAll_cons r0
  obtain ⟨rfl, rfl, rfl⟩ := trodAll_nil r1
  obtain rfl : args = #[v0, v1] := by cases args; simp_all
  obtain ⟨rfl, rfl⟩ := trodVars_none hV
  obtain ⟨acode, lencode, capcode, rfl⟩ := okWide_slice Try.underlying22 (hval 0 22 v0 rfl rfl)
  have k0 := h0
  have lt0 : ∀ x ∈ p0, x.block < W.heap.size := by obtain ⟨m, hm⟩ := k0; exact DataW.trod_lt m _ _ _ hm
  obtain ⟨zcode, rowcode⟩ : ∃ zs, IsRow .u8 W acode lencode capcode zs := by
    obtain ⟨fuel, hf⟩ := h0
    rcases open_ints Try.underlying22 Try.underlying5 (by kernel_rfl) hf with ⟨hcs, _⟩ | ⟨x, l, c, zs, hcs, _, hl, hm, hz, _, hcell, hwz⟩
    · simp [Value.cells] at hcs
      obtain ⟨rfl, rfl, rfl⟩ := hcs
      exact ⟨[], .inl ⟨rfl, rfl, rfl, rfl⟩⟩
    · simp [Value.cells] at hcs
      obtain ⟨rfl, rfl, rfl⟩ := hcs
      exact ⟨zs, .inr ⟨_, rfl, hl, hm, by simpa using hz, hcell, hwz⟩⟩
  obtain ⟨amore, lenmore, capmore, rfl⟩ := okWide_slice Try.underlying22 (hval 1 22 v1 rfl rfl)
  have k1 := h1
  have lt1 : ∀ x ∈ p1, x.block < W.heap.size := by obtain ⟨m, hm⟩ := k1; exact DataW.trod_lt m _ _ _ hm
  obtain ⟨zmore, rowmore⟩ : ∃ zs, IsRow .u8 W amore lenmore capmore zs := by
    obtain ⟨fuel, hf⟩ := h1
    rcases open_ints Try.underlying22 Try.underlying5 (by kernel_rfl) hf with ⟨hcs, _⟩ | ⟨x, l, c, zs, hcs, _, hl, hm, hz, _, hcell, hwz⟩
    · simp [Value.cells] at hcs
      obtain ⟨rfl, rfl, rfl⟩ := hcs
      exact ⟨[], .inl ⟨rfl, rfl, rfl, rfl⟩⟩
    · simp [Value.cells] at hcs
      obtain ⟨rfl, rfl, rfl⟩ := hcs
      exact ⟨zs, .inr ⟨_, rfl, hl, hm, by simpa using hz, hcell, hwz⟩⟩
  clear hA0 hval0
  refine (walk acode lencode capcode zcode amore lenmore capmore zmore W rowcode rowmore).mono fun e W' ⟨he, bel⟩ => ?_
  subst he
  exact ⟨_, rfl, _, _, _, [], _, [], hW', trodAll_mk1 (shut_bool Try.underlying4 _), (trodAll_cons_mk (Below.trod laidOut (by kernel_rfl) (of_decide_eq_true (by kernel_rfl)) k0 bel lt0) (trodAll_cons_mk (Below.trod laidOut (by kernel_rfl) (of_decide_eq_true (by kernel_rfl)) k1 bel lt1) trodAll_mk0)), rfl, bel.frame _, fun h => by cases h⟩

theorem facts : joinedFacts Try.pinned.checked.prog 12 Try.f12 Rows.fnTurnedPairsSpec Rows.fnTurnedPairsRow = true := by
  simp only [joinedFacts, Bool.and_eq_true]
  repeat' apply And.intro
  all_goals first | rw [mayEnter_eq] | (rw [liftsFinal_eq]; kernel_rfl) | (rw [make_eq]; kernel_rfl) | kernel_rfl

theorem over : Rows.fnTurnedPairsRow.holds Try.pinned (OpenSpec.ofChange Rows.fnTurnedPairsSpec) :=
  OpenClaim.holds_of_wide 12 Try.f12 rfl rfl rfl rfl rfl rfl rfl ⟨rfl, rfl, rfl, rfl, rfl⟩ rfl rfl rfl rfl rfl (by kernel_rfl) Try.func12 facts
    (of_decide_eq_true (by kernel_rfl)) (by unfold Func.isWrapper; first | (rw [if_pos (by decide +kernel)]; kernel_rfl) | (rw [if_neg (by decide +kernel)]; exact ⟨rfl, rfl⟩))
    (fun os started H enc _ => lifted os started H enc)

theorem proved : Rows.FnTurnedPairsSaid := over
#print axioms proved
end Go.Proofs.Ytpdnehcaogdjiaa.lawTurned
