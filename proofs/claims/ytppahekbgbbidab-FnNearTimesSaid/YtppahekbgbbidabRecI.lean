/- Contracts of RecordsAbove and RecordsBelow of the program. -/
import Derived.Test.YtppahekbgbbidabSpec3
import Derived.Test.YtppahekbgbbidabGApp
set_option linter.unusedVariables false
namespace Go.Proofs.Ytppahekbgbbidab

set_option maxRecDepth 4000
open Go.ChangeShapes Go.WideShapes Go.ChangeAt Go.RowKit Go.Joins

/-- the last record is the best point so far -/
theorem rec_last {up : Bool} {n s : Nat} (ht : tokN n s = true) (k : Nat) : 1 ≤ (recSt up n s (k + 2)).2.length ∧ (recSt up n s (k + 2)).2.getD ((recSt up n s (k + 2)).2.length - 1) 0 < k + 2 ∧
    (recSt up n s (k + 2)).2.getD ((recSt up n s (k + 2)).2.length - 1) 0 * s % n = (recSt up n s (k + 2)).1 := by
  induction k with
  | zero => rw [recSt_two up ht]; exact ⟨by simp, by simp, by simp⟩
  | succ k ih =>
    rw [show k + 1 + 2 = (k + 2) + 1 by omega, recSt_succ, recStep]
    have key : ∀ (c : Prop) [Decidable c], 1 ≤ (if c then ((k + 2) * s % n, (recSt up n s (k + 2)).2 ++ [k + 2]) else recSt up n s (k + 2)).2.length ∧
        (if c then ((k + 2) * s % n, (recSt up n s (k + 2)).2 ++ [k + 2]) else recSt up n s (k + 2)).2.getD ((if c then ((k + 2) * s % n, (recSt up n s (k + 2)).2 ++ [k + 2]) else recSt up n s (k + 2)).2.length - 1) 0 < k + 2 + 1 ∧
        (if c then ((k + 2) * s % n, (recSt up n s (k + 2)).2 ++ [k + 2]) else recSt up n s (k + 2)).2.getD ((if c then ((k + 2) * s % n, (recSt up n s (k + 2)).2 ++ [k + 2]) else recSt up n s (k + 2)).2.length - 1) 0 * s % n = (if c then ((k + 2) * s % n, (recSt up n s (k + 2)).2 ++ [k + 2]) else recSt up n s (k + 2)).1 := by
      intro c _
      split
      · refine ⟨by simp, ?_, ?_⟩ <;> simp
      · exact ⟨ih.1, by omega, ih.2.2⟩
    exact key _

set_option maxHeartbeats 1000000 in
theorem beatstrue_any (x y : Int) (w : World) : Calls Try.prog 70 #[.int .i64 x, .int .i64 y] w fun e w' => e = .returned (.bool (decide (x < y))) ∧ w' = w := by
  go_enter Try.func70, Try.ntmps70
  go_wp2
  go_ret
  exact ⟨rfl, rfl⟩

set_option maxHeartbeats 4000000 in
theorem recordTimestrue_any (n s : Int) (w : World) :
    Calls Try.prog 69 #[(.agg #[.int .i64 (n), .int .i64 (s)]), .func (.func 70) #[] #[]] w (ListPost (recF true n s) w) := by
  by_cases ht : tok n s = true
  · obtain ⟨N, S, rfl, rfl, hN⟩ := tokN_of ht
    obtain ⟨b1, b2, b3, b4, _⟩ := tokN_bd hN
    
    rw [recF_yes hN]
    have hp := firstPoints_any N S N
    rw [firstF_yes ht (by omega) (by omega), Int.toNat_natCast] at hp
    have HR : Hid (∀ k, 1 ≤ (recSt true N S (k + 2)).2.length ∧ (recSt true N S (k + 2)).2.getD ((recSt true N S (k + 2)).2.length - 1) 0 < k + 2 ∧ (recSt true N S (k + 2)).2.getD ((recSt true N S (k + 2)).2.length - 1) 0 * S % N = (recSt true N S (k + 2)).1) := fun k => rec_last hN k
    have H2 := Lib.hid (recSt_two true hN)
    go_enter Try.func69, Try.ntmps69
    go_wp2_with fail
    refine (hp _).mono ?_; rintro e w1 ⟨v1, rfl, ho1, hb1⟩
    have hz1 := hb1.size
    try simp at hz1
    have t1 : Two w1 (w.heap.size) (.int .i64 N) (.int .i64 S) 24 := Two.below (by repeat (first | assumption | exact Two.new' _ _ _ _ _ (by simp) | refine Two.alloc ?_ _ | refine Two.drewN ?_ _)) hb1 (by first | omega | (simp <;> omega))
    have hlt1 : (w.heap.size) < w1.heap.size := t1.lt
    have hnt1 : ¬ (w.heap.size) = w1.heap.size := Nat.ne_of_lt hlt1
    have t1c := t1.cell0
    have t1d := t1.cell1
    clear hp ht hN
    obtain ⟨a, cap, rfl, HC0⟩ := ho1.cells (ptsL_length _ _ _)
    obtain ⟨g, rfl, g1, g2, HC1⟩ := HC0 (by omega)
    have HC : Hid (∀ j, j < N → w1.cell? ⟨g, j, none⟩ = some (.int .i64 ((j * S % N : Nat) : Int))) := fun j hj => by
      have h' := HC1.out j hj
      rw [ptsL_getD _ _ _ _ hj] at h'
      rw [h']
      simp
    have hB1 : Below w.heap.size w w1 := (by repeat (first | exact Below.refl _ _ | assumption | (refine Below.trans ?_ (Below.mono (by assumption) (by first | omega | (simp <;> omega)))) | (refine Below.alloc ?_ (by first | omega | (simp <;> omega)) _) | (refine below_drewN ?_ _) | (refine Below.drew ?_) | (refine Below.setCell ?_ (by first | omega | (simp <;> omega)) _)))
    clear ho1 hb1 HC0 HC1 g1
    go_wp2_with fail
    go_loopw [6, 7] (fun y x wr => ∃ (k : Nat) (v0 : Value), x = .int .i64 k ∧ v0 = y ∧ 1 ≤ k ∧ k ≤ N ∧ OwnL wr w1.heap.size v0 (castL (recSt true N S k).2) ∧ Below w1.heap.size w1 wr) (fun _ x _ => N - (intOf x).toNat)
    case atStart => exact ⟨1, _, rfl, rfl, by omega, by omega, World.ownsRow_nil _ _ _ _, Below.refl _ _⟩
    case round =>
      obtain ⟨k, v0, rfl, rfl, hk1, hk, ho, hB⟩ := hrel
      have hsz := hB.size
      by_cases hkm : k < N
      · have hkm' : (k : Int) < N := by omega
        by_cases hk2 : k = 1
        · subst hk2
          have hD0 : castL (recSt true N S 1).2 = [] := rfl
          rw [hD0] at ho
          obtain ⟨a5, cap5, rfl, HC5⟩ := ho.cells (N := 0) rfl
          have hg : ((-1 : Int) < 0) := by omega
          have HL : Hid (([] : List Int).length = 0) := rfl
          go_wp2_with fail
          go_quiet (fail)
          go_wp2_with (at_builtin; refine append_int rfl _ _ rfl w1.heap.size _ [] 0 HL (by omega) rfl (show OwnL (wr.drewN nq) w1.heap.size _ [] from ho) hsz rfl ?_)
          intro v5 w5 ho5 hn5 hb5
          have ho6 : OwnL w5 w1.heap.size v5 (castL (recSt true N S 2).2) := by rw [H2.out]; exact ho5
          have hB5 := (below_drewN hB nq).trans hb5
          clear ho ho5 hb5 hB
          go_wp2_with fail
          go_roundw
          case rel => exact ⟨2, v5, by go_num, rfl, by omega, by omega, ho6, hB5⟩
          case measure => simp only [intOf]; omega
        · obtain ⟨j, rfl⟩ : ∃ j, k = j + 2 := ⟨k - 2, by omega⟩
          obtain ⟨r1, r2, r3⟩ := HR.out j
          have cy : ∀ (X B : Nat), (recSt true N S (j + 2)).1 = B → (j + 2) * S % N = X → (if true then X < B else B < X) → recSt true N S (j + 2 + 1) = (X, (recSt true N S (j + 2)).2 ++ [j + 2]) := fun X B e' e h => by
            subst e e'; exact recSt_yes (by omega) h
          have cn : ∀ (X B : Nat), (recSt true N S (j + 2)).1 = B → (j + 2) * S % N = X → ¬ ((if true then X < B else B < X)) → recSt true N S (j + 2 + 1) = recSt true N S (j + 2) := fun X B e' e h => by
            subst e e'; exact recSt_no (fun h' => h h'.2)
          have hlen := recSt_len true N S (j + 2)
          have hx := HC.out (j + 2) hkm
          generalize (j + 2) * S % N = X at *
          have cy' := cy X _ rfl rfl
          have cn' := cn X _ rfl rfl
          clear cy cn
          have hr := HC.out _ (Nat.lt_trans r2 hkm)
          rw [r3] at hr
          generalize (recSt true N S (j + 2)).1 = B at *
          generalize hDD : (recSt true N S (j + 2)).2 = D at *
          obtain ⟨L, hL⟩ : ∃ L, D.length = L := ⟨_, rfl⟩
          rw [hL] at r1 r2 hr hlen
          obtain ⟨a5, cap5, rfl, HC5⟩ := ho.cells ((castL_len D).trans hL)
          obtain ⟨h, rfl, h1, h2, HC6⟩ := HC5 (by omega)
          have hl := HC6.out (L - 1) (by omega)
          rw [castL_getD] at hl
          have hx' := (hB.cell (p := ⟨g, j + 2, none⟩) g2).trans hx
          have hr' := (hB.cell (p := ⟨g, D.getD (L - 1) 0, none⟩) g2).trans hr
          generalize D.getD (L - 1) 0 = r at *
          have HL : Hid ((castL D).length = L) := (castL_len D).trans hL
          have CY := Lib.hid cy'
          have CN := Lib.hid cn'
          have q1 : (1 : Int) ≤ L := by omega
          have q0 : (1 : Int) ≤ (j : Int) + 2 := by omega
          have q2 : ((L : Int) - 1).toNat = L - 1 := by omega
          have q3 : (0 : Int) ≤ (L : Int) - 1 := by omega
          have q4 : (L : Int) - 1 < L := by omega
          have q5 : IntKind.i64.wrap ((L : Int) - 1) = (L : Int) - 1 := IntWalk.i64_in _ (by omega)
          have q6 : (0 : Int) ≤ r := by omega
          have q7 : (r : Int) < N := by omega
          have q8 : decide ((L : Int) - 1 < 0) = false := by simp; omega
          have q9 : ((j + 2 : Nat) : Int) < N := by omega
          have q10 : (j : Int) + 2 < N := by omega
          have q11 : (0 : Int) ≤ (j : Int) + 2 := by omega
          have q12 : ((j : Int) + 2).toNat = j + 2 := by omega
          clear cy' cn' hx hr r3 HC5 HC6
          by_cases c : (if true then X < B else B < X)
          · have c' : (X : Int) < B := by simpa using c
            have HS := Lib.hid (CY.out c)
            clear CY CN
            go_wp2_with fail
            go_quiet ((go_at_call 70; exact Calls.quiet_of_same (beatstrue_any _ _ _)))
            have hsz' : w1.heap.size ≤ (wr.drewN nq).heap.size := by simpa using hsz
            go_wp2_with (at_builtin; refine append_int rfl _ _ rfl w1.heap.size _ (castL D) L HL (by omega) rfl (show OwnL (wr.drewN nq) w1.heap.size _ (castL D) from ho) hsz' rfl ?_)
            intro v5 w5 ho5 hn5 hb5
            have ho6 : OwnL w5 w1.heap.size v5 (castL (recSt true N S (j + 2 + 1)).2) := by rw [HS.out]; show OwnL _ _ _ (castL (D ++ [j + 2])); rw [castL_snoc]; exact ho5
            have hB5 := (below_drewN hB nq).trans hb5
            clear ho ho5 hb5 hB hl hx' hr'
            go_wp2_with fail
            go_roundw
            case rel => exact ⟨j + 2 + 1, v5, by go_num, rfl, by omega, by omega, ho6, hB5⟩
            case measure => simp only [intOf]; omega
          · have c' : decide ((X : Int) < B) = false := by simpa using c
            have HS := Lib.hid (CN.out c)
            clear CY CN
            go_wp2_with fail
            go_quiet ((go_at_call 70; exact Calls.quiet_of_same (beatstrue_any _ _ _)))
            have ho6 : OwnL (wr.drewN nq) w1.heap.size (.slice (some ⟨h, 0, none⟩) L cap5) (castL (recSt true N S (j + 2 + 1)).2) := by rw [HS.out, hDD]; exact ho
            have hB5 := below_drewN hB nq
            clear ho hB hl hx' hr'
            go_wp2_with fail
            go_roundw
            case rel => exact ⟨j + 2 + 1, _, by go_num, rfl, by omega, by omega, ho6, hB5⟩
            case measure => simp only [intOf]; omega
      · obtain rfl : k = N := by omega
        have hkm' : decide ((k : Int) < k) = false := by simp
        have ho' : OwnL wr w.heap.size v0 (castL (recL true k S)) := OwnL.mono (b := w1.heap.size) ho (by omega)
        have hB' : Below w.heap.size w wr := hB1.trans (hB.mono (by omega))
        clear ho hB HR
        go_wp2
        go_ret
        exact ⟨_, rfl, ho', hB'⟩
  · 
    rw [recF_no ht]
    have hp := firstPoints_any n s n
    rw [firstF_no (fun h => ht h.1)] at hp
    go_enter Try.func69, Try.ntmps69
    go_wp2_with fail
    refine (hp _).mono ?_; rintro e w1 ⟨v1, rfl, ho1, hb1⟩
    have hz1 := hb1.size
    try simp at hz1
    have t1 : Two w1 (w.heap.size) (.int .i64 n) (.int .i64 s) 24 := Two.below (by repeat (first | assumption | exact Two.new' _ _ _ _ _ (by simp) | refine Two.alloc ?_ _ | refine Two.drewN ?_ _)) hb1 (by first | omega | (simp <;> omega))
    have hlt1 : (w.heap.size) < w1.heap.size := t1.lt
    have hnt1 : ¬ (w.heap.size) = w1.heap.size := Nat.ne_of_lt hlt1
    have t1c := t1.cell0
    have t1d := t1.cell1
    obtain ⟨a, cap, rfl, _⟩ := ho1.reads.cells (N := 0) rfl
    have hB1 : Below w.heap.size w w1 := (by repeat (first | exact Below.refl _ _ | assumption | (refine Below.trans ?_ (Below.mono (by assumption) (by first | omega | (simp <;> omega)))) | (refine Below.alloc ?_ (by first | omega | (simp <;> omega)) _) | (refine below_drewN ?_ _) | (refine Below.drew ?_) | (refine Below.setCell ?_ (by first | omega | (simp <;> omega)) _)))
    go_wp2_with fail
    go_loopw [6, 7] (fun y x wr => y = .slice none 0 0 ∧ x = .int .i64 1 ∧ wr = w1) (fun _ _ _ => 0)
    case atStart => exact ⟨rfl, rfl, rfl⟩
    case round =>
      obtain ⟨rfl, rfl, rfl⟩ := hrel
      go_wp2
      go_ret
      exact ⟨_, rfl, World.ownsRow_nil _ _ _ _, hB1⟩

set_option maxHeartbeats 1000000 in
theorem iRecordsAbove_any (n s : Int) (w : World) :
    Calls Try.prog 27 #[(.agg #[.int .i64 (n), .int .i64 (s)])] w (ListPost (recF true n s) w) := by
  
  go_enter Try.func27, Try.ntmps27
  go_wp2_with fail
  refine (recordTimestrue_any n s _).mono ?_; rintro e w1 ⟨v1, rfl, ho1, hb1⟩
  have hz1 := hb1.size
  try simp at hz1
  have ho' : OwnL w1 w.heap.size v1 (recF true n s) := ho1.mono (by simp)
  have hB1 : Below w.heap.size w w1 := (by repeat (first | exact Below.refl _ _ | assumption | (refine Below.trans ?_ (Below.mono (by assumption) (by first | omega | (simp <;> omega)))) | (refine Below.alloc ?_ (by first | omega | (simp <;> omega)) _) | (refine below_drewN ?_ _) | (refine Below.drew ?_) | (refine Below.setCell ?_ (by first | omega | (simp <;> omega)) _)))
  go_wp2
  go_ret
  exact ⟨_, rfl, ho', hB1⟩

set_option maxHeartbeats 1000000 in
theorem beatsfalse_any (x y : Int) (w : World) : Calls Try.prog 71 #[.int .i64 x, .int .i64 y] w fun e w' => e = .returned (.bool (decide (y < x))) ∧ w' = w := by
  go_enter Try.func71, Try.ntmps71
  go_wp2
  go_ret
  exact ⟨rfl, rfl⟩

set_option maxHeartbeats 4000000 in
theorem recordTimesfalse_any (n s : Int) (w : World) :
    Calls Try.prog 69 #[(.agg #[.int .i64 (n), .int .i64 (s)]), .func (.func 71) #[] #[]] w (ListPost (recF false n s) w) := by
  by_cases ht : tok n s = true
  · obtain ⟨N, S, rfl, rfl, hN⟩ := tokN_of ht
    obtain ⟨b1, b2, b3, b4, _⟩ := tokN_bd hN
    
    rw [recF_yes hN]
    have hp := firstPoints_any N S N
    rw [firstF_yes ht (by omega) (by omega), Int.toNat_natCast] at hp
    have HR : Hid (∀ k, 1 ≤ (recSt false N S (k + 2)).2.length ∧ (recSt false N S (k + 2)).2.getD ((recSt false N S (k + 2)).2.length - 1) 0 < k + 2 ∧ (recSt false N S (k + 2)).2.getD ((recSt false N S (k + 2)).2.length - 1) 0 * S % N = (recSt false N S (k + 2)).1) := fun k => rec_last hN k
    have H2 := Lib.hid (recSt_two false hN)
    go_enter Try.func69, Try.ntmps69
    go_wp2_with fail
    refine (hp _).mono ?_; rintro e w1 ⟨v1, rfl, ho1, hb1⟩
    have hz1 := hb1.size
    try simp at hz1
    have t1 : Two w1 (w.heap.size) (.int .i64 N) (.int .i64 S) 24 := Two.below (by repeat (first | assumption | exact Two.new' _ _ _ _ _ (by simp) | refine Two.alloc ?_ _ | refine Two.drewN ?_ _)) hb1 (by first | omega | (simp <;> omega))
    have hlt1 : (w.heap.size) < w1.heap.size := t1.lt
    have hnt1 : ¬ (w.heap.size) = w1.heap.size := Nat.ne_of_lt hlt1
    have t1c := t1.cell0
    have t1d := t1.cell1
    clear hp ht hN
    obtain ⟨a, cap, rfl, HC0⟩ := ho1.cells (ptsL_length _ _ _)
    obtain ⟨g, rfl, g1, g2, HC1⟩ := HC0 (by omega)
    have HC : Hid (∀ j, j < N → w1.cell? ⟨g, j, none⟩ = some (.int .i64 ((j * S % N : Nat) : Int))) := fun j hj => by
      have h' := HC1.out j hj
      rw [ptsL_getD _ _ _ _ hj] at h'
      rw [h']
      simp
    have hB1 : Below w.heap.size w w1 := (by repeat (first | exact Below.refl _ _ | assumption | (refine Below.trans ?_ (Below.mono (by assumption) (by first | omega | (simp <;> omega)))) | (refine Below.alloc ?_ (by first | omega | (simp <;> omega)) _) | (refine below_drewN ?_ _) | (refine Below.drew ?_) | (refine Below.setCell ?_ (by first | omega | (simp <;> omega)) _)))
    clear ho1 hb1 HC0 HC1 g1
    go_wp2_with fail
    go_loopw [6, 7] (fun y x wr => ∃ (k : Nat) (v0 : Value), x = .int .i64 k ∧ v0 = y ∧ 1 ≤ k ∧ k ≤ N ∧ OwnL wr w1.heap.size v0 (castL (recSt false N S k).2) ∧ Below w1.heap.size w1 wr) (fun _ x _ => N - (intOf x).toNat)
    case atStart => exact ⟨1, _, rfl, rfl, by omega, by omega, World.ownsRow_nil _ _ _ _, Below.refl _ _⟩
    case round =>
      obtain ⟨k, v0, rfl, rfl, hk1, hk, ho, hB⟩ := hrel
      have hsz := hB.size
      by_cases hkm : k < N
      · have hkm' : (k : Int) < N := by omega
        by_cases hk2 : k = 1
        · subst hk2
          have hD0 : castL (recSt false N S 1).2 = [] := rfl
          rw [hD0] at ho
          obtain ⟨a5, cap5, rfl, HC5⟩ := ho.cells (N := 0) rfl
          have hg : ((-1 : Int) < 0) := by omega
          have HL : Hid (([] : List Int).length = 0) := rfl
          go_wp2_with fail
          go_quiet (fail)
          go_wp2_with (at_builtin; refine append_int rfl _ _ rfl w1.heap.size _ [] 0 HL (by omega) rfl (show OwnL (wr.drewN nq) w1.heap.size _ [] from ho) hsz rfl ?_)
          intro v5 w5 ho5 hn5 hb5
          have ho6 : OwnL w5 w1.heap.size v5 (castL (recSt false N S 2).2) := by rw [H2.out]; exact ho5
          have hB5 := (below_drewN hB nq).trans hb5
          clear ho ho5 hb5 hB
          go_wp2_with fail
          go_roundw
          case rel => exact ⟨2, v5, by go_num, rfl, by omega, by omega, ho6, hB5⟩
          case measure => simp only [intOf]; omega
        · obtain ⟨j, rfl⟩ : ∃ j, k = j + 2 := ⟨k - 2, by omega⟩
          obtain ⟨r1, r2, r3⟩ := HR.out j
          have cy : ∀ (X B : Nat), (recSt false N S (j + 2)).1 = B → (j + 2) * S % N = X → (if false then X < B else B < X) → recSt false N S (j + 2 + 1) = (X, (recSt false N S (j + 2)).2 ++ [j + 2]) := fun X B e' e h => by
            subst e e'; exact recSt_yes (by omega) h
          have cn : ∀ (X B : Nat), (recSt false N S (j + 2)).1 = B → (j + 2) * S % N = X → ¬ ((if false then X < B else B < X)) → recSt false N S (j + 2 + 1) = recSt false N S (j + 2) := fun X B e' e h => by
            subst e e'; exact recSt_no (fun h' => h h'.2)
          have hlen := recSt_len false N S (j + 2)
          have hx := HC.out (j + 2) hkm
          generalize (j + 2) * S % N = X at *
          have cy' := cy X _ rfl rfl
          have cn' := cn X _ rfl rfl
          clear cy cn
          have hr := HC.out _ (Nat.lt_trans r2 hkm)
          rw [r3] at hr
          generalize (recSt false N S (j + 2)).1 = B at *
          generalize hDD : (recSt false N S (j + 2)).2 = D at *
          obtain ⟨L, hL⟩ : ∃ L, D.length = L := ⟨_, rfl⟩
          rw [hL] at r1 r2 hr hlen
          obtain ⟨a5, cap5, rfl, HC5⟩ := ho.cells ((castL_len D).trans hL)
          obtain ⟨h, rfl, h1, h2, HC6⟩ := HC5 (by omega)
          have hl := HC6.out (L - 1) (by omega)
          rw [castL_getD] at hl
          have hx' := (hB.cell (p := ⟨g, j + 2, none⟩) g2).trans hx
          have hr' := (hB.cell (p := ⟨g, D.getD (L - 1) 0, none⟩) g2).trans hr
          generalize D.getD (L - 1) 0 = r at *
          have HL : Hid ((castL D).length = L) := (castL_len D).trans hL
          have CY := Lib.hid cy'
          have CN := Lib.hid cn'
          have q1 : (1 : Int) ≤ L := by omega
          have q0 : (1 : Int) ≤ (j : Int) + 2 := by omega
          have q2 : ((L : Int) - 1).toNat = L - 1 := by omega
          have q3 : (0 : Int) ≤ (L : Int) - 1 := by omega
          have q4 : (L : Int) - 1 < L := by omega
          have q5 : IntKind.i64.wrap ((L : Int) - 1) = (L : Int) - 1 := IntWalk.i64_in _ (by omega)
          have q6 : (0 : Int) ≤ r := by omega
          have q7 : (r : Int) < N := by omega
          have q8 : decide ((L : Int) - 1 < 0) = false := by simp; omega
          have q9 : ((j + 2 : Nat) : Int) < N := by omega
          have q10 : (j : Int) + 2 < N := by omega
          have q11 : (0 : Int) ≤ (j : Int) + 2 := by omega
          have q12 : ((j : Int) + 2).toNat = j + 2 := by omega
          clear cy' cn' hx hr r3 HC5 HC6
          by_cases c : (if false then X < B else B < X)
          · have c' : (B : Int) < X := by simpa using c
            have HS := Lib.hid (CY.out c)
            clear CY CN
            go_wp2_with fail
            go_quiet ((go_at_call 71; exact Calls.quiet_of_same (beatsfalse_any _ _ _)))
            have hsz' : w1.heap.size ≤ (wr.drewN nq).heap.size := by simpa using hsz
            go_wp2_with (at_builtin; refine append_int rfl _ _ rfl w1.heap.size _ (castL D) L HL (by omega) rfl (show OwnL (wr.drewN nq) w1.heap.size _ (castL D) from ho) hsz' rfl ?_)
            intro v5 w5 ho5 hn5 hb5
            have ho6 : OwnL w5 w1.heap.size v5 (castL (recSt false N S (j + 2 + 1)).2) := by rw [HS.out]; show OwnL _ _ _ (castL (D ++ [j + 2])); rw [castL_snoc]; exact ho5
            have hB5 := (below_drewN hB nq).trans hb5
            clear ho ho5 hb5 hB hl hx' hr'
            go_wp2_with fail
            go_roundw
            case rel => exact ⟨j + 2 + 1, v5, by go_num, rfl, by omega, by omega, ho6, hB5⟩
            case measure => simp only [intOf]; omega
          · have c' : decide ((B : Int) < X) = false := by simpa using c
            have HS := Lib.hid (CN.out c)
            clear CY CN
            go_wp2_with fail
            go_quiet ((go_at_call 71; exact Calls.quiet_of_same (beatsfalse_any _ _ _)))
            have ho6 : OwnL (wr.drewN nq) w1.heap.size (.slice (some ⟨h, 0, none⟩) L cap5) (castL (recSt false N S (j + 2 + 1)).2) := by rw [HS.out, hDD]; exact ho
            have hB5 := below_drewN hB nq
            clear ho hB hl hx' hr'
            go_wp2_with fail
            go_roundw
            case rel => exact ⟨j + 2 + 1, _, by go_num, rfl, by omega, by omega, ho6, hB5⟩
            case measure => simp only [intOf]; omega
      · obtain rfl : k = N := by omega
        have hkm' : decide ((k : Int) < k) = false := by simp
        have ho' : OwnL wr w.heap.size v0 (castL (recL false k S)) := OwnL.mono (b := w1.heap.size) ho (by omega)
        have hB' : Below w.heap.size w wr := hB1.trans (hB.mono (by omega))
        clear ho hB HR
        go_wp2
        go_ret
        exact ⟨_, rfl, ho', hB'⟩
  · 
    rw [recF_no ht]
    have hp := firstPoints_any n s n
    rw [firstF_no (fun h => ht h.1)] at hp
    go_enter Try.func69, Try.ntmps69
    go_wp2_with fail
    refine (hp _).mono ?_; rintro e w1 ⟨v1, rfl, ho1, hb1⟩
    have hz1 := hb1.size
    try simp at hz1
    have t1 : Two w1 (w.heap.size) (.int .i64 n) (.int .i64 s) 24 := Two.below (by repeat (first | assumption | exact Two.new' _ _ _ _ _ (by simp) | refine Two.alloc ?_ _ | refine Two.drewN ?_ _)) hb1 (by first | omega | (simp <;> omega))
    have hlt1 : (w.heap.size) < w1.heap.size := t1.lt
    have hnt1 : ¬ (w.heap.size) = w1.heap.size := Nat.ne_of_lt hlt1
    have t1c := t1.cell0
    have t1d := t1.cell1
    obtain ⟨a, cap, rfl, _⟩ := ho1.reads.cells (N := 0) rfl
    have hB1 : Below w.heap.size w w1 := (by repeat (first | exact Below.refl _ _ | assumption | (refine Below.trans ?_ (Below.mono (by assumption) (by first | omega | (simp <;> omega)))) | (refine Below.alloc ?_ (by first | omega | (simp <;> omega)) _) | (refine below_drewN ?_ _) | (refine Below.drew ?_) | (refine Below.setCell ?_ (by first | omega | (simp <;> omega)) _)))
    go_wp2_with fail
    go_loopw [6, 7] (fun y x wr => y = .slice none 0 0 ∧ x = .int .i64 1 ∧ wr = w1) (fun _ _ _ => 0)
    case atStart => exact ⟨rfl, rfl, rfl⟩
    case round =>
      obtain ⟨rfl, rfl, rfl⟩ := hrel
      go_wp2
      go_ret
      exact ⟨_, rfl, World.ownsRow_nil _ _ _ _, hB1⟩

set_option maxHeartbeats 1000000 in
theorem iRecordsBelow_any (n s : Int) (w : World) :
    Calls Try.prog 28 #[(.agg #[.int .i64 (n), .int .i64 (s)])] w (ListPost (recF false n s) w) := by
  
  go_enter Try.func28, Try.ntmps28
  go_wp2_with fail
  refine (recordTimesfalse_any n s _).mono ?_; rintro e w1 ⟨v1, rfl, ho1, hb1⟩
  have hz1 := hb1.size
  try simp at hz1
  have ho' : OwnL w1 w.heap.size v1 (recF false n s) := ho1.mono (by simp)
  have hB1 : Below w.heap.size w w1 := (by repeat (first | exact Below.refl _ _ | assumption | (refine Below.trans ?_ (Below.mono (by assumption) (by first | omega | (simp <;> omega)))) | (refine Below.alloc ?_ (by first | omega | (simp <;> omega)) _) | (refine below_drewN ?_ _) | (refine Below.drew ?_) | (refine Below.setCell ?_ (by first | omega | (simp <;> omega)) _)))
  go_wp2
  go_ret
  exact ⟨_, rfl, ho', hB1⟩

end Go.Proofs.Ytppahekbgbbidab
