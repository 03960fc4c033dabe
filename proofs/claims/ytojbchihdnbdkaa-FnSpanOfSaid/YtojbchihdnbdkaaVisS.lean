/- Contracts of chapter 6's functions of the model: visits and the excess. -/
import Derived.Test.YtojbchihdnbdkaaVisF
import Derived.Test.YtojbchihdnbdkaaFun2
set_option linter.unusedVariables false
namespace Go.Proofs.Ytojbchihdnbdkaa
open Go.ChangeShapes Go.WideShapes Go.ChangeAt Go.RowKit Go.Joins

set_option maxHeartbeats 2000000 in
theorem specVisitsIn_any (n s m f u : Int) (w : World) :
    Calls Try.prog 15 #[(.agg #[.int .i64 (n), .int .i64 (s)]), .int .i64 m, .int .i64 f, .int .i64 u] w fun e w' => e = .returned (.int .i64 (visF n s m f u)) ∧ Below w.heap.size w w' := by
  
  by_cases ht : tok n s = true
  · have hb := tok_bd ht
    have hw1 : IntKind.i64.wrap (n - 1) = n - 1 := IntWalk.i64_in _ (by omega)
    by_cases hm : (decide (0 ≤ m) && decide (m ≤ n)) = true
    · by_cases hf : (decide (0 ≤ f) && decide (f ≤ n - 1)) = true
      · by_cases hu : (decide (0 ≤ u) && decide (u ≤ n)) = true
        · have hm' := hm
          have hf' := hf
          have hu' := hu
          simp at hm' hf' hu'
          obtain ⟨m0, m1⟩ := hm'
          obtain ⟨f0, f1⟩ := hf'
          obtain ⟨u0, u1⟩ := hu'
          obtain ⟨m, rfl⟩ := Int.eq_ofNat_of_zero_le m0
          have E := Lib.hid (visF_yes ht m0 m1 f0 (by omega) u0 u1)
          rw [Int.toNat_natCast] at E
          go_enter Try.func15, Try.ntmps15
          go_wp2_with fail
          refine (specTurnOk_any _ _ _).mono ?_; rintro e w1 ⟨rfl, hb1⟩
          have hz1 := hb1.size
          try simp at hz1
          have t1 : Two w1 (w.heap.size) (.int .i64 n) (.int .i64 s) 24 := Two.below (by repeat (first | assumption | exact Two.new' _ _ _ _ _ (by simp) | refine Two.alloc ?_ _ | refine Two.drewN ?_ _)) hb1 (by first | omega | (simp <;> omega))
          have hlt1 : (w.heap.size) < w1.heap.size := t1.lt
          have hnt1 : ¬ (w.heap.size) = w1.heap.size := Nat.ne_of_lt hlt1
          have t1c := t1.cell0
          have t1d := t1.cell1
          rw [ht]
          clear ht
          go_wp2_with fail
          refine (l1In_any _ _ _ _).mono ?_; rintro e w2 ⟨rfl, rfl⟩
          rw [hm]
          go_wp2_with fail
          refine (l1In_any _ _ _ _).mono ?_; rintro e w2 ⟨rfl, rfl⟩
          rw [hf]
          go_wp2_with fail
          refine (l1In_any _ _ _ _).mono ?_; rintro e w2 ⟨rfl, rfl⟩
          rw [hu]
          have hB1 : Below w.heap.size w w1 := (by repeat (first | exact Below.refl _ _ | assumption | (refine Below.trans ?_ (Below.mono (by assumption) (by first | omega | (simp <;> omega)))) | (refine Below.alloc ?_ (by first | omega | (simp <;> omega)) _) | (refine below_drewN ?_ _) | (refine Below.drew ?_) | (refine Below.setCell ?_ (by first | omega | (simp <;> omega)) _)))
          clear hm hf hu
          go_wp2_with fail
          go_loop [9, 10] (fun x y => ∃ k : Nat, x = .int .i64 (visC n s f u k : Nat) ∧ y = .int .i64 k ∧ k ≤ m) (fun _ y => m - (intOf y).toNat)
          case atStart => exact ⟨0, rfl, rfl, by omega⟩
          case round =>
            obtain ⟨k, rfl, rfl, hk⟩ := hrel
            by_cases hkm : k < m
            · have hkm' : (k : Int) < m := by omega
              have q0 : 0 ≤ (k : Int) * s := Int.mul_nonneg (by omega) (by omega)
              have q1 : (k : Int) * s ≤ 60 * 60 := Int.mul_le_mul (by omega) (by omega) (by omega) (by omega)
              have hV := Lib.hid (visC_succ n s f u k)
              have hvb := visC_le n s f u k
              by_cases c : relP n s f k < u
              · have c' : ((k : Int) * s + n - f) % n < u := c
                rw [decide_eq_true c] at hV
                clear c
                go_wp2_with fail
                go_round
                case rel => exact ⟨k + 1, by rw [hV.out]; go_num, by go_num, by omega⟩
                case measure => simp only [intOf]; omega
              · have c' : decide (((k : Int) * s + n - f) % n < u) = false := by simpa [relP] using c
                rw [decide_eq_false c] at hV
                clear c
                go_wp2_with fail
                go_round
                case rel => exact ⟨k + 1, by rw [hV.out]; rfl, by go_num, by omega⟩
                case measure => simp only [intOf]; omega
            · obtain rfl : k = m := by omega
              go_wp2
              go_ret
              exact ⟨ret_int E.out.symm, hB1⟩
        · have hE := visF_no (n := n) (s := s) (m := m) (f := f) (w := u) (fun h => hu (by simp; omega))
          rw [hE]
          have hu' : (decide (0 ≤ u) && decide (u ≤ n)) = false := by simpa using hu
          go_enter Try.func15, Try.ntmps15
          go_wp2_with fail
          refine (specTurnOk_any _ _ _).mono ?_; rintro e w1 ⟨rfl, hb1⟩
          have hz1 := hb1.size
          try simp at hz1
          have t1 : Two w1 (w.heap.size) (.int .i64 n) (.int .i64 s) 24 := Two.below (by repeat (first | assumption | exact Two.new' _ _ _ _ _ (by simp) | refine Two.alloc ?_ _ | refine Two.drewN ?_ _)) hb1 (by first | omega | (simp <;> omega))
          have hlt1 : (w.heap.size) < w1.heap.size := t1.lt
          have hnt1 : ¬ (w.heap.size) = w1.heap.size := Nat.ne_of_lt hlt1
          have t1c := t1.cell0
          have t1d := t1.cell1
          rw [ht]
          go_wp2_with fail
          refine (l1In_any _ _ _ _).mono ?_; rintro e w2 ⟨rfl, rfl⟩
          rw [hm]
          go_wp2_with fail
          refine (l1In_any _ _ _ _).mono ?_; rintro e w2 ⟨rfl, rfl⟩
          rw [hf]
          go_wp2_with fail
          refine (l1In_any _ _ _ _).mono ?_; rintro e w2 ⟨rfl, rfl⟩
          rw [hu']
          go_wp2
          go_ret
          exact ⟨rfl, (by repeat (first | exact Below.refl _ _ | assumption | (refine Below.trans ?_ (Below.mono (by assumption) (by first | omega | (simp <;> omega)))) | (refine Below.alloc ?_ (by first | omega | (simp <;> omega)) _) | (refine below_drewN ?_ _) | (refine Below.drew ?_) | (refine Below.setCell ?_ (by first | omega | (simp <;> omega)) _)))⟩
      · have hE := visF_no (n := n) (s := s) (m := m) (f := f) (w := u) (fun h => hf (by simp; omega))
        rw [hE]
        have hf' : (decide (0 ≤ f) && decide (f ≤ n - 1)) = false := by simpa using hf
        go_enter Try.func15, Try.ntmps15
        go_wp2_with fail
        refine (specTurnOk_any _ _ _).mono ?_; rintro e w1 ⟨rfl, hb1⟩
        have hz1 := hb1.size
        try simp at hz1
        have t1 : Two w1 (w.heap.size) (.int .i64 n) (.int .i64 s) 24 := Two.below (by repeat (first | assumption | exact Two.new' _ _ _ _ _ (by simp) | refine Two.alloc ?_ _ | refine Two.drewN ?_ _)) hb1 (by first | omega | (simp <;> omega))
        have hlt1 : (w.heap.size) < w1.heap.size := t1.lt
        have hnt1 : ¬ (w.heap.size) = w1.heap.size := Nat.ne_of_lt hlt1
        have t1c := t1.cell0
        have t1d := t1.cell1
        rw [ht]
        go_wp2_with fail
        refine (l1In_any _ _ _ _).mono ?_; rintro e w2 ⟨rfl, rfl⟩
        rw [hm]
        go_wp2_with fail
        refine (l1In_any _ _ _ _).mono ?_; rintro e w2 ⟨rfl, rfl⟩
        rw [hf']
        go_wp2
        go_ret
        exact ⟨rfl, (by repeat (first | exact Below.refl _ _ | assumption | (refine Below.trans ?_ (Below.mono (by assumption) (by first | omega | (simp <;> omega)))) | (refine Below.alloc ?_ (by first | omega | (simp <;> omega)) _) | (refine below_drewN ?_ _) | (refine Below.drew ?_) | (refine Below.setCell ?_ (by first | omega | (simp <;> omega)) _)))⟩
    · have hE := visF_no (n := n) (s := s) (m := m) (f := f) (w := u) (fun h => hm (by simp; omega))
      rw [hE]
      have hm' : (decide (0 ≤ m) && decide (m ≤ n)) = false := by simpa using hm
      go_enter Try.func15, Try.ntmps15
      go_wp2_with fail
      refine (specTurnOk_any _ _ _).mono ?_; rintro e w1 ⟨rfl, hb1⟩
      have hz1 := hb1.size
      try simp at hz1
      have t1 : Two w1 (w.heap.size) (.int .i64 n) (.int .i64 s) 24 := Two.below (by repeat (first | assumption | exact Two.new' _ _ _ _ _ (by simp) | refine Two.alloc ?_ _ | refine Two.drewN ?_ _)) hb1 (by first | omega | (simp <;> omega))
      have hlt1 : (w.heap.size) < w1.heap.size := t1.lt
      have hnt1 : ¬ (w.heap.size) = w1.heap.size := Nat.ne_of_lt hlt1
      have t1c := t1.cell0
      have t1d := t1.cell1
      rw [ht]
      go_wp2_with fail
      refine (l1In_any _ _ _ _).mono ?_; rintro e w2 ⟨rfl, rfl⟩
      rw [hm']
      go_wp2
      go_ret
      exact ⟨rfl, (by repeat (first | exact Below.refl _ _ | assumption | (refine Below.trans ?_ (Below.mono (by assumption) (by first | omega | (simp <;> omega)))) | (refine Below.alloc ?_ (by first | omega | (simp <;> omega)) _) | (refine below_drewN ?_ _) | (refine Below.drew ?_) | (refine Below.setCell ?_ (by first | omega | (simp <;> omega)) _)))⟩
  · have hE := visF_no (n := n) (s := s) (m := m) (f := f) (w := u) (fun h => ht h.1)
    rw [hE]
    have ht' : tok n s = false := by simpa using ht
    go_enter Try.func15, Try.ntmps15
    go_wp2_with fail
    refine (specTurnOk_any _ _ _).mono ?_; rintro e w1 ⟨rfl, hb1⟩
    have hz1 := hb1.size
    try simp at hz1
    have t1 : Two w1 (w.heap.size) (.int .i64 n) (.int .i64 s) 24 := Two.below (by repeat (first | assumption | exact Two.new' _ _ _ _ _ (by simp) | refine Two.alloc ?_ _ | refine Two.drewN ?_ _)) hb1 (by first | omega | (simp <;> omega))
    have hlt1 : (w.heap.size) < w1.heap.size := t1.lt
    have hnt1 : ¬ (w.heap.size) = w1.heap.size := Nat.ne_of_lt hlt1
    have t1c := t1.cell0
    have t1d := t1.cell1
    rw [ht']
    go_wp2
    go_ret
    exact ⟨rfl, (by repeat (first | exact Below.refl _ _ | assumption | (refine Below.trans ?_ (Below.mono (by assumption) (by first | omega | (simp <;> omega)))) | (refine Below.alloc ?_ (by first | omega | (simp <;> omega)) _) | (refine below_drewN ?_ _) | (refine Below.drew ?_) | (refine Below.setCell ?_ (by first | omega | (simp <;> omega)) _)))⟩

theorem visOf_cases (n s m u : Int) : (visF n s m 0 u < 0 ∧ visF n s m 0 u = -1 ∧ ¬ (tok n s = true ∧ 0 ≤ m ∧ m ≤ n ∧ 0 ≤ u ∧ u ≤ n)) ∨
    (0 ≤ visF n s m 0 u ∧ visF n s m 0 u = (visC n s 0 u m.toNat : Nat) ∧ tok n s = true ∧ 0 ≤ m ∧ m ≤ n ∧ 0 ≤ u ∧ u ≤ n ∧ visF n s m 0 u ≤ 60) := by
  by_cases h : tok n s = true ∧ 0 ≤ m ∧ m ≤ n ∧ 0 ≤ u ∧ u ≤ n
  · obtain ⟨ht, a, b, c, d⟩ := h
    have hb := tok_bd ht
    have e := visF_yes ht a b (Int.le_refl 0) (by omega) c d
    have := visC_le n s 0 u m.toNat
    exact .inr ⟨by omega, e, ht, a, b, c, d, by omega⟩
  · have e := visF_no (n := n) (s := s) (m := m) (f := 0) (w := u) (fun k => h ⟨k.1, k.2.1, k.2.2.1, k.2.2.2.2.2.1, k.2.2.2.2.2.2⟩)
    exact .inl ⟨by omega, e, h⟩

set_option maxHeartbeats 1000000 in
theorem specVisitsOf_any (n s m u : Int) (w : World) :
    Calls Try.prog 19 #[(.agg #[.int .i64 (n), .int .i64 (s)]), .int .i64 m, .int .i64 u] w fun e w' => e = .returned (.int .i64 (visF n s m 0 u)) ∧ Below w.heap.size w w' := by
  
  go_enter Try.func19, Try.ntmps19
  go_wp2_with fail
  refine (specVisitsIn_any _ _ _ _ _ _).mono ?_; rintro e w1 ⟨rfl, hb1⟩
  have hz1 := hb1.size
  try simp at hz1
  have t1 : Two w1 (w.heap.size) (.int .i64 n) (.int .i64 s) 24 := Two.below (by repeat (first | assumption | exact Two.new' _ _ _ _ _ (by simp) | refine Two.alloc ?_ _ | refine Two.drewN ?_ _)) hb1 (by first | omega | (simp <;> omega))
  have hlt1 : (w.heap.size) < w1.heap.size := t1.lt
  have hnt1 : ¬ (w.heap.size) = w1.heap.size := Nat.ne_of_lt hlt1
  have t1c := t1.cell0
  have t1d := t1.cell1
  go_wp2
  go_ret
  exact ⟨rfl, (by repeat (first | exact Below.refl _ _ | assumption | (refine Below.trans ?_ (Below.mono (by assumption) (by first | omega | (simp <;> omega)))) | (refine Below.alloc ?_ (by first | omega | (simp <;> omega)) _) | (refine below_drewN ?_ _) | (refine Below.drew ?_) | (refine Below.setCell ?_ (by first | omega | (simp <;> omega)) _)))⟩

set_option maxHeartbeats 1000000 in
theorem specExcessOf_any (n s m u : Int) (w : World) :
    Calls Try.prog 22 #[(.agg #[.int .i64 (n), .int .i64 (s)]), .int .i64 m, .int .i64 u] w fun e w' => e = .returned (.tuple #[.int .i64 (excF n s m u), .bool (excT n s m u)]) ∧ Below w.heap.size w w' := by
  
  rcases visOf_cases n s m u with ⟨h1, h2, h3⟩ | ⟨h1, h2, h3, h4, h5, h6, h7, h8⟩
  · rw [excF_no h3, excT_no h3]
    go_enter Try.func22, Try.ntmps22
    go_wp2_with fail
    refine (specVisitsOf_any _ _ _ _ _).mono ?_; rintro e w1 ⟨rfl, hb1⟩
    have hz1 := hb1.size
    try simp at hz1
    have t1 : Two w1 (w.heap.size) (.int .i64 n) (.int .i64 s) 24 := Two.below (by repeat (first | assumption | exact Two.new' _ _ _ _ _ (by simp) | refine Two.alloc ?_ _ | refine Two.drewN ?_ _)) hb1 (by first | omega | (simp <;> omega))
    have hlt1 : (w.heap.size) < w1.heap.size := t1.lt
    have hnt1 : ¬ (w.heap.size) = w1.heap.size := Nat.ne_of_lt hlt1
    have t1c := t1.cell0
    have t1d := t1.cell1
    rw [h2]
    go_wp2
    refine bodyPost_ret (v := .tuple #[.int .i64 0, .bool false]) (by simp [results, Try.results22, go_sem]) rfl ?_
    exact ⟨rfl, (by repeat (first | exact Below.refl _ _ | assumption | (refine Below.trans ?_ (Below.mono (by assumption) (by first | omega | (simp <;> omega)))) | (refine Below.alloc ?_ (by first | omega | (simp <;> omega)) _) | (refine below_drewN ?_ _) | (refine Below.drew ?_) | (refine Below.setCell ?_ (by first | omega | (simp <;> omega)) _)))⟩
  · rw [excF_yes h3 h4 h5 h6 h7, excT_yes h3 h4 h5 h6 h7]
    have hb := tok_bd h3
    have E := Lib.hid (show n * visF n s m 0 u - m * u = exC n s u m.toNat by unfold exC; rw [h2, Int.toNat_of_nonneg h4])
    have a0 : 0 ≤ n * visF n s m 0 u := Int.mul_nonneg (by omega) h1
    have a1 : n * visF n s m 0 u ≤ 60 * 60 := Int.mul_le_mul (by omega) (by omega) (by omega) (by omega)
    have b0 : 0 ≤ m * u := Int.mul_nonneg (by omega) (by omega)
    have b1 : m * u ≤ 60 * 60 := Int.mul_le_mul (by omega) (by omega) (by omega) (by omega)
    clear h2 h3
    generalize hv : visF n s m 0 u = v at *
    have hv' := Lib.hid hv
    clear hv
    go_enter Try.func22, Try.ntmps22
    go_wp2_with fail
    refine (specVisitsOf_any _ _ _ _ _).mono ?_; rintro e w1 ⟨rfl, hb1⟩
    have hz1 := hb1.size
    try simp at hz1
    have t1 : Two w1 (w.heap.size) (.int .i64 n) (.int .i64 s) 24 := Two.below (by repeat (first | assumption | exact Two.new' _ _ _ _ _ (by simp) | refine Two.alloc ?_ _ | refine Two.drewN ?_ _)) hb1 (by first | omega | (simp <;> omega))
    have hlt1 : (w.heap.size) < w1.heap.size := t1.lt
    have hnt1 : ¬ (w.heap.size) = w1.heap.size := Nat.ne_of_lt hlt1
    have t1c := t1.cell0
    have t1d := t1.cell1
    rw [hv'.out]
    go_wp2
    refine bodyPost_ret (v := .tuple #[.int .i64 (n * v - m * u), .bool true]) (by simp [results, Try.results22, go_sem]) rfl ?_
    exact ⟨by rw [← E.out], (by repeat (first | exact Below.refl _ _ | assumption | (refine Below.trans ?_ (Below.mono (by assumption) (by first | omega | (simp <;> omega)))) | (refine Below.alloc ?_ (by first | omega | (simp <;> omega)) _) | (refine below_drewN ?_ _) | (refine Below.drew ?_) | (refine Below.setCell ?_ (by first | omega | (simp <;> omega)) _)))⟩
end Go.Proofs.Ytojbchihdnbdkaa
