/- Contracts of chapter 6's functions of the model: visits and the excess. Contracts of chapter 6's functions of the program: visits. -/
import Derived.Test.YtnpaicdbmmfdhaaGVis
import Derived.Test.YtnpaicdbmmfdhaaGFun
import Derived.Test.YtnpaicdbmmfdhaaOne
import Derived.BigQuiet
set_option linter.unusedVariables false
namespace Go.Proofs.Ytnpaicdbmmfdhaa
open Go.ChangeShapes Go.WideShapes Go.ChangeAt Go.RowKit Go.Joins

set_option maxHeartbeats 2000000 in
theorem specVisitsIn_any (n s m f u : Int) (w : World) :
    Calls Try.prog 47 #[(.agg #[.int .i64 (n), .int .i64 (s)]), .int .i64 m, .int .i64 f, .int .i64 u] w fun e w' => e = .returned (.int .i64 (visF n s m f u)) ∧ Below w.heap.size w w' := by
  
  by_cases ht : tok n s = true
  · have hb := tok_bd ht
    have hw1 : IntKind.i64.wrap (n - 1) = n - 1 := IntWalk.i64_in _ (by omega)
    by_cases hm : (decide (0 ≤ m) && decide (m ≤ n)) = true
    · by_cases hf : (decide (0 ≤ f) && decide (f ≤ n - 1)) = true
      · by_cases hu : (decide (0 ≤ u) && decide (u ≤ n)) = true
        · have hm' := hm
          have hf' := hf
          have hu' := hu
          simp at hm' hf' hu'
          obtain ⟨m0, m1⟩ := hm'
          obtain ⟨f0, f1⟩ := hf'
          obtain ⟨u0, u1⟩ := hu'
          obtain ⟨m, rfl⟩ := Int.eq_ofNat_of_zero_le m0
          have E := Lib.hid (visF_yes ht m0 m1 f0 (by omega) u0 u1)
          rw [Int.toNat_natCast] at E
          go_enter Try.func47, Try.ntmps47
          go_wp2_with fail
          refine (specTurnOk_any _ _ _).mono ?_; rintro e w1 ⟨rfl, hb1⟩
          have hz1 := hb1.size
          try simp at hz1
          have t1 : Two w1 (w.heap.size) (.int .i64 n) (.int .i64 s) 24 := Two.below (by repeat (first | assumption | exact Two.new' _ _ _ _ _ (by simp) | refine Two.alloc ?_ _ | refine Two.drewN ?_ _)) hb1 (by first | omega | (simp <;> omega))
          have hlt1 : (w.heap.size) < w1.heap.size := t1.lt
          have hnt1 : ¬ (w.heap.size) = w1.heap.size := Nat.ne_of_lt hlt1
          have t1c := t1.cell0
          have t1d := t1.cell1
          rw [ht]
          clear ht
          go_wp2_with fail
          refine (l1In_any _ _ _ _).mono ?_; rintro e w2 ⟨rfl, rfl⟩
          rw [hm]
          go_wp2_with fail
          refine (l1In_any _ _ _ _).mono ?_; rintro e w2 ⟨rfl, rfl⟩
          rw [hf]
          go_wp2_with fail
          refine (l1In_any _ _ _ _).mono ?_; rintro e w2 ⟨rfl, rfl⟩
          rw [hu]
          have hB1 : Below w.heap.size w w1 := (by repeat (first | exact Below.refl _ _ | assumption | (refine Below.trans ?_ (Below.mono (by assumption) (by first | omega | (simp <;> omega)))) | (refine Below.alloc ?_ (by first | omega | (simp <;> omega)) _) | (refine below_drewN ?_ _) | (refine Below.drew ?_) | (refine Below.setCell ?_ (by first | omega | (simp <;> omega)) _)))
          clear hm hf hu
          go_wp2_with fail
          go_loop [9, 10] (fun x y => ∃ k : Nat, x = .int .i64 (visC n s f u k : Nat) ∧ y = .int .i64 k ∧ k ≤ m) (fun _ y => m - (intOf y).toNat)
          case atStart => exact ⟨0, rfl, rfl, by omega⟩
          case round =>
            obtain ⟨k, rfl, rfl, hk⟩ := hrel
            by_cases hkm : k < m
            · have hkm' : (k : Int) < m := by omega
              have q0 : 0 ≤ (k : Int) * s := Int.mul_nonneg (by omega) (by omega)
              have q1 : (k : Int) * s ≤ 60 * 60 := Int.mul_le_mul (by omega) (by omega) (by omega) (by omega)
              have hV := Lib.hid (visC_succ n s f u k)
              have hvb := visC_le n s f u k
              by_cases c : relP n s f k < u
              · have c' : ((k : Int) * s + n - f) % n < u := c
                rw [decide_eq_true c] at hV
                clear c
                go_wp2_with fail
                go_round
                case rel => exact ⟨k + 1, by rw [hV.out]; go_num, by go_num, by omega⟩
                case measure => simp only [intOf]; omega
              · have c' : decide (((k : Int) * s + n - f) % n < u) = false := by simpa [relP] using c
                rw [decide_eq_false c] at hV
                clear c
                go_wp2_with fail
                go_round
                case rel => exact ⟨k + 1, by rw [hV.out]; rfl, by go_num, by omega⟩
                case measure => simp only [intOf]; omega
            · obtain rfl : k = m := by omega
              go_wp2
              go_ret
              exact ⟨ret_int E.out.symm, hB1⟩
        · have hE := visF_no (n := n) (s := s) (m := m) (f := f) (w := u) (fun h => hu (by simp; omega))
          rw [hE]
          have hu' : (decide (0 ≤ u) && decide (u ≤ n)) = false := by simpa using hu
          go_enter Try.func47, Try.ntmps47
          go_wp2_with fail
          refine (specTurnOk_any _ _ _).mono ?_; rintro e w1 ⟨rfl, hb1⟩
          have hz1 := hb1.size
          try simp at hz1
          have t1 : Two w1 (w.heap.size) (.int .i64 n) (.int .i64 s) 24 := Two.below (by repeat (first | assumption | exact Two.new' _ _ _ _ _ (by simp) | refine Two.alloc ?_ _ | refine Two.drewN ?_ _)) hb1 (by first | omega | (simp <;> omega))
          have hlt1 : (w.heap.size) < w1.heap.size := t1.lt
          have hnt1 : ¬ (w.heap.size) = w1.heap.size := Nat.ne_of_lt hlt1
          have t1c := t1.cell0
          have t1d := t1.cell1
          rw [ht]
          go_wp2_with fail
          refine (l1In_any _ _ _ _).mono ?_; rintro e w2 ⟨rfl, rfl⟩
          rw [hm]
          go_wp2_with fail
          refine (l1In_any _ _ _ _).mono ?_; rintro e w2 ⟨rfl, rfl⟩
          rw [hf]
          go_wp2_with fail
          refine (l1In_any _ _ _ _).mono ?_; rintro e w2 ⟨rfl, rfl⟩
          rw [hu']
          go_wp2
          go_ret
          exact ⟨rfl, (by repeat (first | exact Below.refl _ _ | assumption | (refine Below.trans ?_ (Below.mono (by assumption) (by first | omega | (simp <;> omega)))) | (refine Below.alloc ?_ (by first | omega | (simp <;> omega)) _) | (refine below_drewN ?_ _) | (refine Below.drew ?_) | (refine Below.setCell ?_ (by first | omega | (simp <;> omega)) _)))⟩
      · have hE := visF_no (n := n) (s := s) (m := m) (f := f) (w := u) (fun h => hf (by simp; omega))
        rw [hE]
        have hf' : (decide (0 ≤ f) && decide (f ≤ n - 1)) = false := by simpa using hf
        go_enter Try.func47, Try.ntmps47
        go_wp2_with fail
        refine (specTurnOk_any _ _ _).mono ?_; rintro e w1 ⟨rfl, hb1⟩
        have hz1 := hb1.size
        try simp at hz1
        have t1 : Two w1 (w.heap.size) (.int .i64 n) (.int .i64 s) 24 := Two.below (by repeat (first | assumption | exact Two.new' _ _ _ _ _ (by simp) | refine Two.alloc ?_ _ | refine Two.drewN ?_ _)) hb1 (by first | omega | (simp <;> omega))
        have hlt1 : (w.heap.size) < w1.heap.size := t1.lt
        have hnt1 : ¬ (w.heap.size) = w1.heap.size := Nat.ne_of_lt hlt1
        have t1c := t1.cell0
        have t1d := t1.cell1
        rw [ht]
        go_wp2_with fail
        refine (l1In_any _ _ _ _).mono ?_; rintro e w2 ⟨rfl, rfl⟩
        rw [hm]
        go_wp2_with fail
        refine (l1In_any _ _ _ _).mono ?_; rintro e w2 ⟨rfl, rfl⟩
        rw [hf']
        go_wp2
        go_ret
        exact ⟨rfl, (by repeat (first | exact Below.refl _ _ | assumption | (refine Below.trans ?_ (Below.mono (by assumption) (by first | omega | (simp <;> omega)))) | (refine Below.alloc ?_ (by first | omega | (simp <;> omega)) _) | (refine below_drewN ?_ _) | (refine Below.drew ?_) | (refine Below.setCell ?_ (by first | omega | (simp <;> omega)) _)))⟩
    · have hE := visF_no (n := n) (s := s) (m := m) (f := f) (w := u) (fun h => hm (by simp; omega))
      rw [hE]
      have hm' : (decide (0 ≤ m) && decide (m ≤ n)) = false := by simpa using hm
      go_enter Try.func47, Try.ntmps47
      go_wp2_with fail
      refine (specTurnOk_any _ _ _).mono ?_; rintro e w1 ⟨rfl, hb1⟩
      have hz1 := hb1.size
      try simp at hz1
      have t1 : Two w1 (w.heap.size) (.int .i64 n) (.int .i64 s) 24 := Two.below (by repeat (first | assumption | exact Two.new' _ _ _ _ _ (by simp) | refine Two.alloc ?_ _ | refine Two.drewN ?_ _)) hb1 (by first | omega | (simp <;> omega))
      have hlt1 : (w.heap.size) < w1.heap.size := t1.lt
      have hnt1 : ¬ (w.heap.size) = w1.heap.size := Nat.ne_of_lt hlt1
      have t1c := t1.cell0
      have t1d := t1.cell1
      rw [ht]
      go_wp2_with fail
      refine (l1In_any _ _ _ _).mono ?_; rintro e w2 ⟨rfl, rfl⟩
      rw [hm']
      go_wp2
      go_ret
      exact ⟨rfl, (by repeat (first | exact Below.refl _ _ | assumption | (refine Below.trans ?_ (Below.mono (by assumption) (by first | omega | (simp <;> omega)))) | (refine Below.alloc ?_ (by first | omega | (simp <;> omega)) _) | (refine below_drewN ?_ _) | (refine Below.drew ?_) | (refine Below.setCell ?_ (by first | omega | (simp <;> omega)) _)))⟩
  · have hE := visF_no (n := n) (s := s) (m := m) (f := f) (w := u) (fun h => ht h.1)
    rw [hE]
    have ht' : tok n s = false := by simpa using ht
    go_enter Try.func47, Try.ntmps47
    go_wp2_with fail
    refine (specTurnOk_any _ _ _).mono ?_; rintro e w1 ⟨rfl, hb1⟩
    have hz1 := hb1.size
    try simp at hz1
    have t1 : Two w1 (w.heap.size) (.int .i64 n) (.int .i64 s) 24 := Two.below (by repeat (first | assumption | exact Two.new' _ _ _ _ _ (by simp) | refine Two.alloc ?_ _ | refine Two.drewN ?_ _)) hb1 (by first | omega | (simp <;> omega))
    have hlt1 : (w.heap.size) < w1.heap.size := t1.lt
    have hnt1 : ¬ (w.heap.size) = w1.heap.size := Nat.ne_of_lt hlt1
    have t1c := t1.cell0
    have t1d := t1.cell1
    rw [ht']
    go_wp2
    go_ret
    exact ⟨rfl, (by repeat (first | exact Below.refl _ _ | assumption | (refine Below.trans ?_ (Below.mono (by assumption) (by first | omega | (simp <;> omega)))) | (refine Below.alloc ?_ (by first | omega | (simp <;> omega)) _) | (refine below_drewN ?_ _) | (refine Below.drew ?_) | (refine Below.setCell ?_ (by first | omega | (simp <;> omega)) _)))⟩

theorem visOf_cases (n s m u : Int) : (visF n s m 0 u < 0 ∧ visF n s m 0 u = -1 ∧ ¬ (tok n s = true ∧ 0 ≤ m ∧ m ≤ n ∧ 0 ≤ u ∧ u ≤ n)) ∨
    (0 ≤ visF n s m 0 u ∧ visF n s m 0 u = (visC n s 0 u m.toNat : Nat) ∧ tok n s = true ∧ 0 ≤ m ∧ m ≤ n ∧ 0 ≤ u ∧ u ≤ n ∧ visF n s m 0 u ≤ 60) := by
  by_cases h : tok n s = true ∧ 0 ≤ m ∧ m ≤ n ∧ 0 ≤ u ∧ u ≤ n
  · obtain ⟨ht, a, b, c, d⟩ := h
    have hb := tok_bd ht
    have e := visF_yes ht a b (Int.le_refl 0) (by omega) c d
    have := visC_le n s 0 u m.toNat
    exact .inr ⟨by omega, e, ht, a, b, c, d, by omega⟩
  · have e := visF_no (n := n) (s := s) (m := m) (f := 0) (w := u) (fun k => h ⟨k.1, k.2.1, k.2.2.1, k.2.2.2.2.2.1, k.2.2.2.2.2.2⟩)
    exact .inl ⟨by omega, e, h⟩

set_option maxHeartbeats 1000000 in
theorem specVisitsOf_any (n s m u : Int) (w : World) :
    Calls Try.prog 61 #[(.agg #[.int .i64 (n), .int .i64 (s)]), .int .i64 m, .int .i64 u] w fun e w' => e = .returned (.int .i64 (visF n s m 0 u)) ∧ Below w.heap.size w w' := by
  
  go_enter Try.func61, Try.ntmps61
  go_wp2_with fail
  refine (specVisitsIn_any _ _ _ _ _ _).mono ?_; rintro e w1 ⟨rfl, hb1⟩
  have hz1 := hb1.size
  try simp at hz1
  have t1 : Two w1 (w.heap.size) (.int .i64 n) (.int .i64 s) 24 := Two.below (by repeat (first | assumption | exact Two.new' _ _ _ _ _ (by simp) | refine Two.alloc ?_ _ | refine Two.drewN ?_ _)) hb1 (by first | omega | (simp <;> omega))
  have hlt1 : (w.heap.size) < w1.heap.size := t1.lt
  have hnt1 : ¬ (w.heap.size) = w1.heap.size := Nat.ne_of_lt hlt1
  have t1c := t1.cell0
  have t1d := t1.cell1
  go_wp2
  go_ret
  exact ⟨rfl, (by repeat (first | exact Below.refl _ _ | assumption | (refine Below.trans ?_ (Below.mono (by assumption) (by first | omega | (simp <;> omega)))) | (refine Below.alloc ?_ (by first | omega | (simp <;> omega)) _) | (refine below_drewN ?_ _) | (refine Below.drew ?_) | (refine Below.setCell ?_ (by first | omega | (simp <;> omega)) _)))⟩

set_option maxHeartbeats 1000000 in
theorem specExcessOf_any (n s m u : Int) (w : World) :
    Calls Try.prog 40 #[(.agg #[.int .i64 (n), .int .i64 (s)]), .int .i64 m, .int .i64 u] w fun e w' => e = .returned (.tuple #[.int .i64 (excF n s m u), .bool (excT n s m u)]) ∧ Below w.heap.size w w' := by
  
  rcases visOf_cases n s m u with ⟨h1, h2, h3⟩ | ⟨h1, h2, h3, h4, h5, h6, h7, h8⟩
  · rw [excF_no h3, excT_no h3]
    go_enter Try.func40, Try.ntmps40
    go_wp2_with fail
    refine (specVisitsOf_any _ _ _ _ _).mono ?_; rintro e w1 ⟨rfl, hb1⟩
    have hz1 := hb1.size
    try simp at hz1
    have t1 : Two w1 (w.heap.size) (.int .i64 n) (.int .i64 s) 24 := Two.below (by repeat (first | assumption | exact Two.new' _ _ _ _ _ (by simp) | refine Two.alloc ?_ _ | refine Two.drewN ?_ _)) hb1 (by first | omega | (simp <;> omega))
    have hlt1 : (w.heap.size) < w1.heap.size := t1.lt
    have hnt1 : ¬ (w.heap.size) = w1.heap.size := Nat.ne_of_lt hlt1
    have t1c := t1.cell0
    have t1d := t1.cell1
    rw [h2]
    go_wp2
    refine bodyPost_ret (v := .tuple #[.int .i64 0, .bool false]) (by simp [results, Try.results40, go_sem]) rfl ?_
    exact ⟨rfl, (by repeat (first | exact Below.refl _ _ | assumption | (refine Below.trans ?_ (Below.mono (by assumption) (by first | omega | (simp <;> omega)))) | (refine Below.alloc ?_ (by first | omega | (simp <;> omega)) _) | (refine below_drewN ?_ _) | (refine Below.drew ?_) | (refine Below.setCell ?_ (by first | omega | (simp <;> omega)) _)))⟩
  · rw [excF_yes h3 h4 h5 h6 h7, excT_yes h3 h4 h5 h6 h7]
    have hb := tok_bd h3
    have E := Lib.hid (show n * visF n s m 0 u - m * u = exC n s u m.toNat by unfold exC; rw [h2, Int.toNat_of_nonneg h4])
    have a0 : 0 ≤ n * visF n s m 0 u := Int.mul_nonneg (by omega) h1
    have a1 : n * visF n s m 0 u ≤ 60 * 60 := Int.mul_le_mul (by omega) (by omega) (by omega) (by omega)
    have b0 : 0 ≤ m * u := Int.mul_nonneg (by omega) (by omega)
    have b1 : m * u ≤ 60 * 60 := Int.mul_le_mul (by omega) (by omega) (by omega) (by omega)
    clear h2 h3
    generalize hv : visF n s m 0 u = v at *
    have hv' := Lib.hid hv
    clear hv
    go_enter Try.func40, Try.ntmps40
    go_wp2_with fail
    refine (specVisitsOf_any _ _ _ _ _).mono ?_; rintro e w1 ⟨rfl, hb1⟩
    have hz1 := hb1.size
    try simp at hz1
    have t1 : Two w1 (w.heap.size) (.int .i64 n) (.int .i64 s) 24 := Two.below (by repeat (first | assumption | exact Two.new' _ _ _ _ _ (by simp) | refine Two.alloc ?_ _ | refine Two.drewN ?_ _)) hb1 (by first | omega | (simp <;> omega))
    have hlt1 : (w.heap.size) < w1.heap.size := t1.lt
    have hnt1 : ¬ (w.heap.size) = w1.heap.size := Nat.ne_of_lt hlt1
    have t1c := t1.cell0
    have t1d := t1.cell1
    rw [hv'.out]
    go_wp2
    refine bodyPost_ret (v := .tuple #[.int .i64 (n * v - m * u), .bool true]) (by simp [results, Try.results40, go_sem]) rfl ?_
    exact ⟨by rw [← E.out], (by repeat (first | exact Below.refl _ _ | assumption | (refine Below.trans ?_ (Below.mono (by assumption) (by first | omega | (simp <;> omega)))) | (refine Below.alloc ?_ (by first | omega | (simp <;> omega)) _) | (refine below_drewN ?_ _) | (refine Below.drew ?_) | (refine Below.setCell ?_ (by first | omega | (simp <;> omega)) _)))⟩
end Go.Proofs.Ytnpaicdbmmfdhaa

set_option linter.unusedVariables false
namespace Go.Proofs.Ytnpaicdbmmfdhaa
open Go.ChangeShapes Go.WideShapes Go.ChangeAt Go.RowKit Go.Joins

set_option maxHeartbeats 1000000 in
theorem visits1_any (n s f u : Int) (k : Nat) (w : World) (a b c : Nat) (ht : tok n s = true) (f0 : 0 ≤ f) (f1 : f < n) (u0 : 0 ≤ u) (u1 : u ≤ n) (hk : k ≤ 100)
    (ha : Two w a (.int .i64 n) (.int .i64 s) 24) (hb : One w b (.int .i64 f) 3) (hc : One w c (.int .i64 u) 3) :
    Calls Try.prog 79 #[.int .i64 k, .pointer (some ⟨a, 0, none⟩), .pointer (some ⟨b, 0, none⟩), .pointer (some ⟨c, 0, none⟩)] w fun e w' => e = .returned (.int .i64 ((decide (relP n s f k < u)).toNat : Nat)) ∧ Below w.heap.size w w' := by
  have hbd := tok_bd ht
  have hrel := relP_pt (s := s) (n := n) (by omega) f0 f1 k
  have g0 := N.pt_lo (n := n) s k (by omega)
  have g1 := N.pt_hi (n := n) s k (by omega)
  have hl := ha.lt
  have c0 := ha.cell0
  have c1 := ha.cell1
  have d0 := hb.cell
  have e0 := hc.cell
  have hp := fun w => pointAt_any n s k w (by omega) (by omega) (by omega) (by omega) (by omega) (by omega)
  have hpe : (k : Int) * s % n = N.pt n s k := rfl
  rw [hpe] at hp
  clear hpe
  generalize N.pt n s k = p at *
  have hwp : IntKind.i64.wrap (p - f) = p - f := IntWalk.i64_in _ (by omega)
  have hwp2 : IntKind.i64.wrap (p - f + n) = p - f + n := IntWalk.i64_in _ (by omega)
  by_cases hpf : f ≤ p
  · rw [if_pos hpf] at hrel
    rw [hrel]
    have hpf' : decide (p - f < 0) = false := by simp; omega
    by_cases hlt : p - f < u
    · rw [decide_eq_true hlt]
      go_enter Try.func79, Try.ntmps79
      go_wp2_with fail
      go_region_held3 (fun w' => w'.cell? ⟨a, 0, none⟩ = some (.int .i64 n) ∧ w'.cell? ⟨a, 1, none⟩ = some (.int .i64 s) ∧ w'.cell? ⟨b, 0, none⟩ = some (.int .i64 f) ∧ w'.cell? ⟨c, 0, none⟩ = some (.int .i64 u))
        (first | go_keep | exact ⟨a'c, a'd, b'c, c'c⟩)
        (first | (go_at_call 72; refine (hp _).mono ?_; rintro e w' ⟨rfl, hb'⟩; have a' := Two.below (show Two w.drew a _ _ _ from ha) hb' ha.lt; have b' := One.below (show One w.drew b _ _ from hb) hb' hb.lt; have c' := One.below (show One w.drew c _ _ from hc) hb' hc.lt; have a'c := a'.cell0; have a'd := a'.cell1; have b'c := b'.cell; have c'c := c'.cell))
      go_wp2
      go_ret
      exact ⟨rfl, (by repeat (first | exact Below.refl _ _ | assumption | (refine Below.trans ?_ (Below.mono (by assumption) (by first | omega | (simp <;> omega)))) | (refine Below.alloc ?_ (by first | omega | (simp <;> omega)) _) | (refine below_drewN ?_ _) | (refine Below.drew ?_) | (refine Below.setCell ?_ (by first | omega | (simp <;> omega)) _)))⟩
    · have hlt' : decide (p - f < u) = false := by simpa using hlt
      rw [hlt']
      go_enter Try.func79, Try.ntmps79
      go_wp2_with fail
      go_region_held3 (fun w' => w'.cell? ⟨a, 0, none⟩ = some (.int .i64 n) ∧ w'.cell? ⟨a, 1, none⟩ = some (.int .i64 s) ∧ w'.cell? ⟨b, 0, none⟩ = some (.int .i64 f) ∧ w'.cell? ⟨c, 0, none⟩ = some (.int .i64 u))
        (first | go_keep | exact ⟨a'c, a'd, b'c, c'c⟩)
        (first | (go_at_call 72; refine (hp _).mono ?_; rintro e w' ⟨rfl, hb'⟩; have a' := Two.below (show Two w.drew a _ _ _ from ha) hb' ha.lt; have b' := One.below (show One w.drew b _ _ from hb) hb' hb.lt; have c' := One.below (show One w.drew c _ _ from hc) hb' hc.lt; have a'c := a'.cell0; have a'd := a'.cell1; have b'c := b'.cell; have c'c := c'.cell))
      go_wp2
      go_ret
      exact ⟨rfl, (by repeat (first | exact Below.refl _ _ | assumption | (refine Below.trans ?_ (Below.mono (by assumption) (by first | omega | (simp <;> omega)))) | (refine Below.alloc ?_ (by first | omega | (simp <;> omega)) _) | (refine below_drewN ?_ _) | (refine Below.drew ?_) | (refine Below.setCell ?_ (by first | omega | (simp <;> omega)) _)))⟩
  · rw [if_neg hpf] at hrel
    rw [hrel]
    have hpf' : p - f < 0 := by omega
    by_cases hlt : p - f + n < u
    · rw [decide_eq_true hlt]
      go_enter Try.func79, Try.ntmps79
      go_wp2_with fail
      go_region_held3 (fun w' => w'.cell? ⟨a, 0, none⟩ = some (.int .i64 n) ∧ w'.cell? ⟨a, 1, none⟩ = some (.int .i64 s) ∧ w'.cell? ⟨b, 0, none⟩ = some (.int .i64 f) ∧ w'.cell? ⟨c, 0, none⟩ = some (.int .i64 u))
        (first | go_keep | exact ⟨a'c, a'd, b'c, c'c⟩)
        (first | (go_at_call 72; refine (hp _).mono ?_; rintro e w' ⟨rfl, hb'⟩; have a' := Two.below (show Two w.drew a _ _ _ from ha) hb' ha.lt; have b' := One.below (show One w.drew b _ _ from hb) hb' hb.lt; have c' := One.below (show One w.drew c _ _ from hc) hb' hc.lt; have a'c := a'.cell0; have a'd := a'.cell1; have b'c := b'.cell; have c'c := c'.cell))
      go_wp2
      go_ret
      exact ⟨rfl, (by repeat (first | exact Below.refl _ _ | assumption | (refine Below.trans ?_ (Below.mono (by assumption) (by first | omega | (simp <;> omega)))) | (refine Below.alloc ?_ (by first | omega | (simp <;> omega)) _) | (refine below_drewN ?_ _) | (refine Below.drew ?_) | (refine Below.setCell ?_ (by first | omega | (simp <;> omega)) _)))⟩
    · have hlt' : decide (p - f + n < u) = false := by simpa using hlt
      rw [hlt']
      go_enter Try.func79, Try.ntmps79
      go_wp2_with fail
      go_region_held3 (fun w' => w'.cell? ⟨a, 0, none⟩ = some (.int .i64 n) ∧ w'.cell? ⟨a, 1, none⟩ = some (.int .i64 s) ∧ w'.cell? ⟨b, 0, none⟩ = some (.int .i64 f) ∧ w'.cell? ⟨c, 0, none⟩ = some (.int .i64 u))
        (first | go_keep | exact ⟨a'c, a'd, b'c, c'c⟩)
        (first | (go_at_call 72; refine (hp _).mono ?_; rintro e w' ⟨rfl, hb'⟩; have a' := Two.below (show Two w.drew a _ _ _ from ha) hb' ha.lt; have b' := One.below (show One w.drew b _ _ from hb) hb' hb.lt; have c' := One.below (show One w.drew c _ _ from hc) hb' hc.lt; have a'c := a'.cell0; have a'd := a'.cell1; have b'c := b'.cell; have c'c := c'.cell))
      go_wp2
      go_ret
      exact ⟨rfl, (by repeat (first | exact Below.refl _ _ | assumption | (refine Below.trans ?_ (Below.mono (by assumption) (by first | omega | (simp <;> omega)))) | (refine Below.alloc ?_ (by first | omega | (simp <;> omega)) _) | (refine below_drewN ?_ _) | (refine Below.drew ?_) | (refine Below.setCell ?_ (by first | omega | (simp <;> omega)) _)))⟩

set_option maxHeartbeats 1000000 in
theorem sumVis_any (n s f u : Int) (m : Nat) (w : World) (a b c : Nat) (ht : tok n s = true) (f0 : 0 ≤ f) (f1 : f < n) (u0 : 0 ≤ u) (u1 : u ≤ n) (hm : m ≤ 100)
    (ha : Two w a (.int .i64 n) (.int .i64 s) 24) (hb : One w b (.int .i64 f) 3) (hc : One w c (.int .i64 u) 3) :
    Calls Try.prog 43 #[.int .i64 m, .func (.func 79) #[] #[.pointer (some ⟨a, 0, none⟩), .pointer (some ⟨b, 0, none⟩), .pointer (some ⟨c, 0, none⟩)]] w fun e w' => e = .returned (.int .i64 (visC n s f u m : Nat)) ∧ Below w.heap.size w w' := by
  have HV := Lib.hid (fun (k : Nat) (wr : World) (hk : k ≤ 100) (hB : Below w.heap.size w wr) => visits1_any n s f u k wr a b c ht f0 f1 u0 u1 hk (ha.below hB ha.lt) (hb.below hB hb.lt) (hc.below hB hc.lt))
  have hB0 := Below.refl w.heap.size w
  clear ht f0 f1 u0 u1 ha hb hc
  go_enter Try.func43, Try.ntmps43
  go_wp2_with fail
  go_loopw [5, 8] (fun x y wr => ∃ k : Nat, x = .int .i64 (visC n s f u k : Nat) ∧ y = .int .i64 k ∧ k ≤ m ∧ Below w.heap.size w wr) (fun _ y _ => m - (intOf y).toNat)
  case atStart => exact ⟨0, rfl, rfl, by omega, hB0⟩
  case round =>
    obtain ⟨k, rfl, rfl, hk, hB⟩ := hrel
    have hvb := visC_le n s f u k
    by_cases hkm : k < m
    · have hkm' : (k : Int) < m := by omega
      have hV := Lib.hid (visC_succ n s f u k)
      have hd : (decide (relP n s f k < u)).toNat ≤ 1 := by cases decide (relP n s f k < u) <;> simp
      have hcall := HV.out k wr (by omega) hB
      generalize (decide (relP n s f k < u)).toNat = d at *
      go_wp2_with fail
      refine hcall.mono ?_; rintro e w2 ⟨rfl, hb2⟩
      have hB2 := hB.trans (hb2.mono hB.size)
      clear hb2 hcall hB
      go_wp2_with fail
      go_roundw
      case rel => exact ⟨k + 1, by rw [hV.out]; go_num, by go_num, by omega, hB2⟩
      case measure => simp only [intOf]; omega
    · have hkm' : decide ((k : Int) < m) = false := by simp; omega
      obtain rfl : k = m := by omega
      go_wp2
      go_ret
      exact ⟨rfl, hB⟩

/-- three blocks: a turn and two numbers -/
theorem three_boxes (n s f u : Int) (w : World) : ∃ W, W = ((w.alloc (.cells #[.int .i64 n, .int .i64 s] 24)).alloc (.cells #[.int .i64 f] 3)).alloc (.cells #[.int .i64 u] 3) ∧
    Two W w.heap.size (.int .i64 n) (.int .i64 s) 24 ∧ One W (w.heap.size + 1) (.int .i64 f) 3 ∧ One W (w.heap.size + 1 + 1) (.int .i64 u) 3 ∧ Below w.heap.size w W := by
  refine ⟨_, rfl, ?_, ?_, ?_, ?_⟩
  · exact ((Two.new _ _ _ _).alloc _).alloc _
  · have h := (One.new (w.alloc (.cells #[.int .i64 n, .int .i64 s] 24)) (.int .i64 f) 3).alloc (.cells #[.int .i64 u] 3)
    have e : (w.alloc (.cells #[.int .i64 n, .int .i64 s] 24)).heap.size = w.heap.size + 1 := by simp
    rwa [e] at h
  · have h := One.new ((w.alloc (.cells #[.int .i64 n, .int .i64 s] 24)).alloc (.cells #[.int .i64 f] 3)) (.int .i64 u) 3
    have e : ((w.alloc (.cells #[.int .i64 n, .int .i64 s] 24)).alloc (.cells #[.int .i64 f] 3)).heap.size = w.heap.size + 1 + 1 := by simp
    rwa [e] at h
  · exact (by repeat (first | exact Below.refl _ _ | assumption | (refine Below.trans ?_ (Below.mono (by assumption) (by first | omega | (simp <;> omega)))) | (refine Below.alloc ?_ (by first | omega | (simp <;> omega)) _) | (refine below_drewN ?_ _) | (refine Below.drew ?_) | (refine Below.setCell ?_ (by first | omega | (simp <;> omega)) _)))

set_option maxHeartbeats 2000000 in
theorem visitsIn_any (n s m f u : Int) (w : World) :
    Calls Try.prog 66 #[(.agg #[.int .i64 (n), .int .i64 (s)]), .int .i64 m, .int .i64 f, .int .i64 u] w fun e w' => e = .returned (.int .i64 (visF n s m f u)) ∧ Below w.heap.size w w' := by
  obtain ⟨W, hW, ta, tb, tc, hB⟩ := three_boxes n s f u w
  have c0 := ta.cell0
  have c1 := ta.cell1
  have b0 := tb.cell
  have u0 := tc.cell
  have U1 := Lib.hid (upToSize_any n s m)
  have U2 := Lib.hid (upToSize_any n s u)
  by_cases h1 : tok n s = true ∧ 0 ≤ m ∧ m ≤ n
  · have E1 := upF_yes h1.1 h1.2.1 h1.2.2
    by_cases h2 : 0 ≤ u ∧ u ≤ n
    · have E2 := upF_yes h1.1 h2.1 h2.2
      by_cases h3 : 0 ≤ f
      · by_cases h4 : f < n
        · obtain ⟨ht, m0, m1⟩ := h1
          obtain ⟨u00, u10⟩ := h2
          obtain ⟨m, rfl⟩ := Int.eq_ofNat_of_zero_le m0
          have hb := tok_bd ht
          have E := Lib.hid (visF_yes ht m0 m1 h3 h4 u00 u10)
          rw [Int.toNat_natCast] at E
          have HS := Lib.hid (fun (w : World) a b c => sumVis_any n s f u m w a b c ht h3 h4 u00 u10 (by omega))
          clear ht
          go_enter Try.func66, Try.ntmps66
          go_wp2_with fail
          rw [← hW]
          clear hW
          refine (U1.out _).mono ?_; rintro e w1 ⟨rfl, hb1⟩
          rw [E1]
          have hB1 := hB.trans (hb1.mono hB.size)
          have ta1 := ta.below hb1 ta.lt
          have tb1 := tb.below hb1 tb.lt
          have tc1 := tc.below hb1 tc.lt
          have c01 := ta1.cell0
          have c11 := ta1.cell1
          have b01 := tb1.cell
          have u01 := tc1.cell
          clear hb1 hB ta tb tc c0 c1 b0 u0
          go_wp2_with fail
          refine (U2.out _).mono ?_; rintro e w2 ⟨rfl, hb2⟩
          rw [E2]
          have hB2 := hB1.trans (hb2.mono hB1.size)
          have ta2 := ta1.below hb2 ta1.lt
          have tb2 := tb1.below hb2 tb1.lt
          have tc2 := tc1.below hb2 tc1.lt
          have c02 := ta2.cell0
          have c12 := ta2.cell1
          have b02 := tb2.cell
          have u02 := tc2.cell
          clear hb2 hB1 ta1 tb1 tc1 c01 c11 b01 u01
          go_wp2_with fail
          refine (HS.out _ _ _ _ ta2 tb2 tc2).mono ?_; rintro e w3 ⟨rfl, hb3⟩
          have hB3 := hB2.trans (hb3.mono hB2.size)
          go_wp2
          go_ret
          exact ⟨ret_int E.out.symm, hB3⟩
        · have h4' : n ≤ f := by omega
          rw [visF_no (fun h => h4 h.2.2.2.2.1)]
          go_enter Try.func66, Try.ntmps66
          go_wp2_with fail
          rw [← hW]
          clear hW
          refine (U1.out _).mono ?_; rintro e w1 ⟨rfl, hb1⟩
          rw [E1]
          have hB1 := hB.trans (hb1.mono hB.size)
          have ta1 := ta.below hb1 ta.lt
          have tb1 := tb.below hb1 tb.lt
          have tc1 := tc.below hb1 tc.lt
          have c01 := ta1.cell0
          have c11 := ta1.cell1
          have b01 := tb1.cell
          have u01 := tc1.cell
          clear hb1 hB ta tb tc c0 c1 b0 u0
          go_wp2_with fail
          refine (U2.out _).mono ?_; rintro e w2 ⟨rfl, hb2⟩
          rw [E2]
          have hB2 := hB1.trans (hb2.mono hB1.size)
          have ta2 := ta1.below hb2 ta1.lt
          have tb2 := tb1.below hb2 tb1.lt
          have tc2 := tc1.below hb2 tc1.lt
          have c02 := ta2.cell0
          have c12 := ta2.cell1
          have b02 := tb2.cell
          have u02 := tc2.cell
          clear hb2 hB1 ta1 tb1 tc1 c01 c11 b01 u01
          go_wp2
          go_ret
          exact ⟨rfl, hB2⟩
      · have h3' : f < 0 := by omega
        rw [visF_no (fun h => h3 h.2.2.2.1)]
        go_enter Try.func66, Try.ntmps66
        go_wp2_with fail
        rw [← hW]
        clear hW
        refine (U1.out _).mono ?_; rintro e w1 ⟨rfl, hb1⟩
        rw [E1]
        have hB1 := hB.trans (hb1.mono hB.size)
        have ta1 := ta.below hb1 ta.lt
        have tb1 := tb.below hb1 tb.lt
        have tc1 := tc.below hb1 tc.lt
        have c01 := ta1.cell0
        have c11 := ta1.cell1
        have b01 := tb1.cell
        have u01 := tc1.cell
        clear hb1 hB ta tb tc c0 c1 b0 u0
        go_wp2_with fail
        refine (U2.out _).mono ?_; rintro e w2 ⟨rfl, hb2⟩
        rw [E2]
        have hB2 := hB1.trans (hb2.mono hB1.size)
        have ta2 := ta1.below hb2 ta1.lt
        have tb2 := tb1.below hb2 tb1.lt
        have tc2 := tc1.below hb2 tc1.lt
        have c02 := ta2.cell0
        have c12 := ta2.cell1
        have b02 := tb2.cell
        have u02 := tc2.cell
        clear hb2 hB1 ta1 tb1 tc1 c01 c11 b01 u01
        go_wp2
        go_ret
        exact ⟨rfl, hB2⟩
    · have E2 := upF_no (n := n) (s := s) (k := u) (fun h => h2 h.2)
      rw [visF_no (fun h => h2 h.2.2.2.2.2)]
      go_enter Try.func66, Try.ntmps66
      go_wp2_with fail
      rw [← hW]
      clear hW
      refine (U1.out _).mono ?_; rintro e w1 ⟨rfl, hb1⟩
      rw [E1]
      have hB1 := hB.trans (hb1.mono hB.size)
      have ta1 := ta.below hb1 ta.lt
      have tb1 := tb.below hb1 tb.lt
      have tc1 := tc.below hb1 tc.lt
      have c01 := ta1.cell0
      have c11 := ta1.cell1
      have b01 := tb1.cell
      have u01 := tc1.cell
      clear hb1 hB ta tb tc c0 c1 b0 u0
      go_wp2_with fail
      refine (U2.out _).mono ?_; rintro e w2 ⟨rfl, hb2⟩
      rw [E2]
      have hB2 := hB1.trans (hb2.mono hB1.size)
      have ta2 := ta1.below hb2 ta1.lt
      have tb2 := tb1.below hb2 tb1.lt
      have tc2 := tc1.below hb2 tc1.lt
      have c02 := ta2.cell0
      have c12 := ta2.cell1
      have b02 := tb2.cell
      have u02 := tc2.cell
      clear hb2 hB1 ta1 tb1 tc1 c01 c11 b01 u01
      go_wp2
      go_ret
      exact ⟨rfl, hB2⟩
  · have E1 := upF_no h1
    rw [visF_no (fun h => h1 ⟨h.1, h.2.1, h.2.2.1⟩)]
    go_enter Try.func66, Try.ntmps66
    go_wp2_with fail
    rw [← hW]
    clear hW
    refine (U1.out _).mono ?_; rintro e w1 ⟨rfl, hb1⟩
    rw [E1]
    have hB1 := hB.trans (hb1.mono hB.size)
    have ta1 := ta.below hb1 ta.lt
    have tb1 := tb.below hb1 tb.lt
    have tc1 := tc.below hb1 tc.lt
    have c01 := ta1.cell0
    have c11 := ta1.cell1
    have b01 := tb1.cell
    have u01 := tc1.cell
    clear hb1 hB ta tb tc c0 c1 b0 u0
    go_wp2
    go_ret
    exact ⟨rfl, hB1⟩

set_option maxHeartbeats 1000000 in
theorem visitsOf_any (n s m u : Int) (w : World) :
    Calls Try.prog 48 #[(.agg #[.int .i64 (n), .int .i64 (s)]), .int .i64 m, .int .i64 u] w fun e w' => e = .returned (.int .i64 (visF n s m 0 u)) ∧ Below w.heap.size w w' := by
  
  go_enter Try.func48, Try.ntmps48
  go_wp2_with fail
  refine (visitsIn_any _ _ _ _ _ _).mono ?_; rintro e w1 ⟨rfl, hb1⟩
  have hz1 := hb1.size
  try simp at hz1
  have t1 : Two w1 (w.heap.size) (.int .i64 n) (.int .i64 s) 24 := Two.below (by repeat (first | assumption | exact Two.new' _ _ _ _ _ (by simp) | refine Two.alloc ?_ _ | refine Two.drewN ?_ _)) hb1 (by first | omega | (simp <;> omega))
  have hlt1 : (w.heap.size) < w1.heap.size := t1.lt
  have hnt1 : ¬ (w.heap.size) = w1.heap.size := Nat.ne_of_lt hlt1
  have t1c := t1.cell0
  have t1d := t1.cell1
  go_wp2
  go_ret
  exact ⟨rfl, (by repeat (first | exact Below.refl _ _ | assumption | (refine Below.trans ?_ (Below.mono (by assumption) (by first | omega | (simp <;> omega)))) | (refine Below.alloc ?_ (by first | omega | (simp <;> omega)) _) | (refine below_drewN ?_ _) | (refine Below.drew ?_) | (refine Below.setCell ?_ (by first | omega | (simp <;> omega)) _)))⟩

set_option maxHeartbeats 1000000 in
theorem excessOf_any (n s m u : Int) (w : World) :
    Calls Try.prog 21 #[(.agg #[.int .i64 (n), .int .i64 (s)]), .int .i64 m, .int .i64 u] w fun e w' => e = .returned (.tuple #[.int .i64 (excF n s m u), .bool (excT n s m u)]) ∧ Below w.heap.size w w' := by
  
  rcases visOf_cases n s m u with ⟨h1, h2, h3⟩ | ⟨h1, h2, h3, h4, h5, h6, h7, h8⟩
  · rw [excF_no h3, excT_no h3]
    go_enter Try.func21, Try.ntmps21
    go_wp2_with fail
    refine (visitsOf_any _ _ _ _ _).mono ?_; rintro e w1 ⟨rfl, hb1⟩
    have hz1 := hb1.size
    try simp at hz1
    have t1 : Two w1 (w.heap.size) (.int .i64 n) (.int .i64 s) 24 := Two.below (by repeat (first | assumption | exact Two.new' _ _ _ _ _ (by simp) | refine Two.alloc ?_ _ | refine Two.drewN ?_ _)) hb1 (by first | omega | (simp <;> omega))
    have hlt1 : (w.heap.size) < w1.heap.size := t1.lt
    have hnt1 : ¬ (w.heap.size) = w1.heap.size := Nat.ne_of_lt hlt1
    have t1c := t1.cell0
    have t1d := t1.cell1
    rw [h2]
    go_wp2
    refine bodyPost_ret (v := .tuple #[.int .i64 0, .bool false]) (by simp [results, Try.results21, go_sem]) rfl ?_
    exact ⟨rfl, (by repeat (first | exact Below.refl _ _ | assumption | (refine Below.trans ?_ (Below.mono (by assumption) (by first | omega | (simp <;> omega)))) | (refine Below.alloc ?_ (by first | omega | (simp <;> omega)) _) | (refine below_drewN ?_ _) | (refine Below.drew ?_) | (refine Below.setCell ?_ (by first | omega | (simp <;> omega)) _)))⟩
  · rw [excF_yes h3 h4 h5 h6 h7, excT_yes h3 h4 h5 h6 h7]
    have hb := tok_bd h3
    have E := Lib.hid (show n * visF n s m 0 u - m * u = exC n s u m.toNat by unfold exC; rw [h2, Int.toNat_of_nonneg h4])
    have a0 : 0 ≤ n * visF n s m 0 u := Int.mul_nonneg (by omega) h1
    have a1 : n * visF n s m 0 u ≤ 60 * 60 := Int.mul_le_mul (by omega) (by omega) (by omega) (by omega)
    have b0 : 0 ≤ m * u := Int.mul_nonneg (by omega) (by omega)
    have b1 : m * u ≤ 60 * 60 := Int.mul_le_mul (by omega) (by omega) (by omega) (by omega)
    clear h2 h3
    generalize hv : visF n s m 0 u = v at *
    have hv' := Lib.hid hv
    clear hv
    go_enter Try.func21, Try.ntmps21
    go_wp2_with fail
    refine (visitsOf_any _ _ _ _ _).mono ?_; rintro e w1 ⟨rfl, hb1⟩
    have hz1 := hb1.size
    try simp at hz1
    have t1 : Two w1 (w.heap.size) (.int .i64 n) (.int .i64 s) 24 := Two.below (by repeat (first | assumption | exact Two.new' _ _ _ _ _ (by simp) | refine Two.alloc ?_ _ | refine Two.drewN ?_ _)) hb1 (by first | omega | (simp <;> omega))
    have hlt1 : (w.heap.size) < w1.heap.size := t1.lt
    have hnt1 : ¬ (w.heap.size) = w1.heap.size := Nat.ne_of_lt hlt1
    have t1c := t1.cell0
    have t1d := t1.cell1
    rw [hv'.out]
    go_wp2
    refine bodyPost_ret (v := .tuple #[.int .i64 (n * v - m * u), .bool true]) (by simp [results, Try.results21, go_sem]) rfl ?_
    exact ⟨by rw [← E.out], (by repeat (first | exact Below.refl _ _ | assumption | (refine Below.trans ?_ (Below.mono (by assumption) (by first | omega | (simp <;> omega)))) | (refine Below.alloc ?_ (by first | omega | (simp <;> omega)) _) | (refine below_drewN ?_ _) | (refine Below.drew ?_) | (refine Below.setCell ?_ (by first | omega | (simp <;> omega)) _)))⟩
end Go.Proofs.Ytnpaicdbmmfdhaa
