/- Contract of FirstPoints of the model. -/
import Derived.Test.YtkhnnbgmckeoaaaFirst
set_option linter.unusedVariables false
namespace Go.Proofs.Ytkhnnbgmckeoaaa
open Go.ChangeShapes Go.WideShapes Go.ChangeAt Go.RowKit Go.Joins

theorem OwnL.below {w w' : World} {b : Nat} {v : Value} {xs : List Int} (h : OwnL w b v xs) (hb : Below w.heap.size w w') : OwnL w' b v xs :=
  World.ownsRow.kept h (row := none) ⟨hb.os, hb.tape, hb.output, hb.size, fun k hk _ => hb.block k hk⟩ (by cases v.ownBlock <;> simp)

theorem OwnL.mono {w : World} {b b' : Nat} {v : Value} {xs : List Int} (h : OwnL w b v xs) (hb : b' ≤ b) : OwnL w b' v xs := by
  obtain ⟨h1, h2⟩ := h
  refine ⟨h1, ?_⟩
  rcases h2 with h2 | ⟨g, cap, cur, a1, a2, a3⟩
  · exact .inl h2
  · exact .inr ⟨g, cap, cur, a1, Nat.le_trans hb a2, a3⟩

set_option maxHeartbeats 2000000 in
theorem specFirstPoints_any (n s m : Int) (w : World) :
    Calls Try.prog 94 #[(.agg #[.int .i64 (n), .int .i64 (s)]), .int .i64 m] w (ListPost (firstF n s m) w) := by
  
  have hnil : OwnL ((w.alloc (Obj.cells #[Value.int IntKind.i64 n, Value.int IntKind.i64 s] 24)).alloc (Obj.cells #[] 3)) (w.heap.size + 1) (.slice (some ⟨w.heap.size + 1, 0, none⟩) 0 0) [] := by
    have h := World.ownsRow_made (base := w.heap.size + 1) (e := 3) (size := 1) (w.alloc (Obj.cells #[Value.int IntKind.i64 n, Value.int IntKind.i64 s] 24)) #[] 0 (by simp) (by unfold maxLen; omega) rfl
    have e : (w.alloc (Obj.cells #[Value.int IntKind.i64 n, Value.int IntKind.i64 s] 24)).heap.size = w.heap.size + 1 := by simp
    rw [e] at h
    exact h
  have ht0 : Two ((w.alloc (Obj.cells #[Value.int IntKind.i64 n, Value.int IntKind.i64 s] 24)).alloc (Obj.cells #[] 3)) w.heap.size (.int .i64 n) (.int .i64 s) 24 := (Two.new _ _ _ _).alloc _
  have hB0 : Below w.heap.size w ((w.alloc (Obj.cells #[Value.int IntKind.i64 n, Value.int IntKind.i64 s] 24)).alloc (Obj.cells #[] 3)) := (by repeat (first | exact Below.refl _ _ | assumption | (refine Below.trans ?_ (Below.mono (by assumption) (by first | omega | (simp <;> omega)))) | (refine Below.alloc ?_ (by first | omega | (simp <;> omega)) _) | (refine below_drewN ?_ _) | (refine Below.drew ?_) | (refine Below.setCell ?_ (by first | omega | (simp <;> omega)) _)))
  by_cases h0 : m < 1
  · have hp := firstF_no (n := n) (s := s) (m := m) (by omega)
    rw [hp]
    clear hp
    have h0' : decide (0 < m) = false := by simp; omega
    go_enter Try.func94, Try.ntmps94
    go_wp2_with fail
    go_loopw [5, 6] (fun v x wr => v = .slice (some ⟨w.heap.size + 1, 0, none⟩) 0 0 ∧ x = .int .i64 0 ∧ wr = ((w.alloc (Obj.cells #[Value.int IntKind.i64 n, Value.int IntKind.i64 s] 24)).alloc (Obj.cells #[] 3))) (fun _ _ _ => 0)
    case atStart => exact ⟨rfl, rfl, rfl⟩
    case round =>
      obtain ⟨rfl, rfl, rfl⟩ := hrel
      go_wp2
      go_ret
      exact ⟨_, rfl, hnil.mono (b' := w.heap.size) (by omega), hB0⟩
  have h1 : 0 < m := by omega
  by_cases ht : tok n s = true
  · have hb := tok_bd ht
    by_cases hmn : m ≤ n
    · rw [firstF_yes ht (by omega) (by omega)]
      obtain ⟨m, rfl⟩ := Int.eq_ofNat_of_zero_le (by omega : 0 ≤ m)
      rw [Int.toNat_natCast]
      have HT := Lib.hid ht
      obtain ⟨i0, hi, iz0, iz1, iz2⟩ := info_parts infoInt
      have Hi := Lib.hid hi
      clear ht hi
      go_enter Try.func94, Try.ntmps94
      go_wp2_with fail
      go_loopw [5, 6] (fun v x wr => ∃ (k : Nat) (v0 : Value), x = .int .i64 k ∧ v0 = v ∧ k ≤ m ∧ OwnL wr (w.heap.size + 1) v0 (ptsL n s k) ∧ Two wr w.heap.size (.int .i64 n) (.int .i64 s) 24 ∧ Below w.heap.size w wr) (fun _ x _ => m - (intOf x).toNat)
      case atStart => exact ⟨0, _, rfl, rfl, by omega, hnil, ht0, hB0⟩
      case round =>
        obtain ⟨k, v0, rfl, rfl, hk, ho, t3, hB3⟩ := hrel
        clear hnil ht0 hB0
        have hl3 := t3.lt
        have t3c := t3.cell0
        have t3d := t3.cell1
        by_cases hkm : k < m
        · have hkm' : (k : Int) < m := by omega
          have hk0 : (0 : Int) ≤ k := by omega
          have m0 : 0 ≤ (k : Int) * s := Int.mul_nonneg (by omega) (by omega)
          have m1 : (k : Int) * s ≤ 60 * 60 := Int.mul_le_mul (by omega) (by omega) (by omega) (by omega)
          go_wp2_with fail
          refine (specTurnOk_any _ _ _).mono ?_; rintro e w4 ⟨rfl, hb4⟩
          rw [HT.out]
          have t4 := t3.below hb4 hl3
          have ho4 := ho.below hb4
          have hB4 := hB3.trans (hb4.mono hB3.size)
          have hl4 := t4.lt
          have t4c := t4.cell0
          have t4d := t4.cell1
          clear t3 ho hb4 t3c t3d
          have hown : (w4.alloc (.cells #[.int .i64 ((k : Int) * s % n)] 3)).ownsRow (w.heap.size + 1) 3 1 v0 (ptsL n s k).length ((ptsL n s k).map (Value.int .i64)) := World.ownsRow.alloc ho4 _
          have hlen := ptsL_length n s k
          have HL := Lib.hid hlen
          clear hlen
          go_wp2_with (at_builtin; refine wpList_append_own _ rfl _ _ 32 rfl (w.heap.size + 1) 3 i0 (.int .i64 0) 1 8 Try.underlying32 Hi.out iz0 iz1 iz2 rfl (by decide) _ _ _ rfl hown ⟨w4.heap.size, 0, none⟩ 1 1 [.int .i64 ((k : Int) * s % n)] rfl rfl ?c1 ?c2 ?c3 ?c4 ?c5 ?_)
          case c1 =>
            intro j u hj
            match j, hj with
            | 0, hj => simp at hj; subst hj; exact cell_of_one (heap_alloc_new w4 _)
            | j + 1, hj => simp at hj
          case c2 => simp [Value.oneCell']
          case c3 => rw [HL.out]; unfold maxLen; omega
          case c4 => rw [HL.out]; omega
          case c5 => simp; omega
          intro v' w5 hown' hgrow _
          have hlb := World.ownsRow.lt hown
          have ho5 : OwnL w5 (w.heap.size + 1) v' (ptsL n s (k + 1)) := by
            unfold OwnL
            rw [ptsL_succ, List.length_append, List.map_append]
            exact hown'
          have t5 : Two w5 w.heap.size (.int .i64 n) (.int .i64 s) 24 := (t4.alloc (.cells #[.int .i64 ((k : Int) * s % n)] 3)).same (hgrow.block _ (by simp; omega) (fun e => by have := hlb _ e.symm; omega))
          have hB5 : Below w.heap.size w w5 := (hB4.alloc (by omega) _).grown hgrow (by simp; omega) (fun q hq => by have := hlb q hq; omega)
          clear hown hown' hgrow hlb ho4 t4 t4c t4d hB4
          go_wp2_with fail
          go_roundw
          case rel => exact ⟨k + 1, v', by go_num, rfl, by omega, ho5, t5, hB5⟩
          case measure => simp only [intOf]; omega
        · have hkm' : decide ((k : Int) < m) = false := by simp; omega
          obtain rfl : k = m := by omega
          clear t3 t3c t3d
          go_wp2
          go_ret
          exact ⟨_, rfl, OwnL.mono (b := w.heap.size + 1) ho (by omega), hB3⟩
    · rw [firstF_no (fun h => hmn h.2.2)]
      have hmn' : decide (m ≤ n) = false := by simpa using hmn
      have hm1 : ¬ m < 1 := by omega
      go_enter Try.func94, Try.ntmps94
      go_wp2_with fail
      go_loopw [5, 6] (fun v x wr => v = .slice (some ⟨w.heap.size + 1, 0, none⟩) 0 0 ∧ x = .int .i64 0 ∧ wr = ((w.alloc (Obj.cells #[Value.int IntKind.i64 n, Value.int IntKind.i64 s] 24)).alloc (Obj.cells #[] 3))) (fun _ _ _ => 0)
      case atStart => exact ⟨rfl, rfl, rfl⟩
      case round =>
        obtain ⟨rfl, rfl, rfl⟩ := hrel
        go_wp2_with fail
        refine (specTurnOk_any _ _ _).mono ?_; rintro e w1 ⟨rfl, hb1⟩
        have hz1 := hb1.size
        try simp at hz1
        have t1 : Two w1 (w.heap.size) (.int .i64 n) (.int .i64 s) 24 := Two.below (by repeat (first | assumption | exact Two.new' _ _ _ _ _ (by simp) | refine Two.alloc ?_ _ | refine Two.drewN ?_ _)) hb1 (by first | omega | (simp <;> omega))
        have hlt1 : (w.heap.size) < w1.heap.size := t1.lt
        have hnt1 : ¬ (w.heap.size) = w1.heap.size := Nat.ne_of_lt hlt1
        have t1c := t1.cell0
        have t1d := t1.cell1
        rw [ht]
        have hn1 := hnil.below hb1
        have hB1 := hB0.trans (hb1.mono hB0.size)
        go_wp2
        go_ret
        exact ⟨_, rfl, hn1.mono (b' := w.heap.size) (by omega), hB1⟩
  · rw [firstF_no (fun h => ht h.1)]
    have ht' : tok n s = false := by simpa using ht
    go_enter Try.func94, Try.ntmps94
    go_wp2_with fail
    go_loopw [5, 6] (fun v x wr => v = .slice (some ⟨w.heap.size + 1, 0, none⟩) 0 0 ∧ x = .int .i64 0 ∧ wr = ((w.alloc (Obj.cells #[Value.int IntKind.i64 n, Value.int IntKind.i64 s] 24)).alloc (Obj.cells #[] 3))) (fun _ _ _ => 0)
    case atStart => exact ⟨rfl, rfl, rfl⟩
    case round =>
      obtain ⟨rfl, rfl, rfl⟩ := hrel
      go_wp2_with fail
      refine (specTurnOk_any _ _ _).mono ?_; rintro e w1 ⟨rfl, hb1⟩
      have hz1 := hb1.size
      try simp at hz1
      have t1 : Two w1 (w.heap.size) (.int .i64 n) (.int .i64 s) 24 := Two.below (by repeat (first | assumption | exact Two.new' _ _ _ _ _ (by simp) | refine Two.alloc ?_ _ | refine Two.drewN ?_ _)) hb1 (by first | omega | (simp <;> omega))
      have hlt1 : (w.heap.size) < w1.heap.size := t1.lt
      have hnt1 : ¬ (w.heap.size) = w1.heap.size := Nat.ne_of_lt hlt1
      have t1c := t1.cell0
      have t1d := t1.cell1
      rw [ht']
      have hn1 := hnil.below hb1
      have hB1 := hB0.trans (hb1.mono hB0.size)
      go_wp2
      go_ret
      exact ⟨_, rfl, hn1.mono (b' := w.heap.size) (by omega), hB1⟩
end Go.Proofs.Ytkhnnbgmckeoaaa
