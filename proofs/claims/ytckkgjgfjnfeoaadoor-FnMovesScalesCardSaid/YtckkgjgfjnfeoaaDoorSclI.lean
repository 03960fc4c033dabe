/- Contracts of chapter 12's functions of the program. -/
import Derived.Test.YtckkgjgfjnfeoaaDoorGSclS
import Derived.Test.YtckkgjgfjnfeoaaDoorFarI
import Derived.Test.YtckkgjgfjnfeoaaDoorGCodeI
import Derived.Test.YtckkgjgfjnfeoaaDoorWher
import Derived.Test.YtckkgjgfjnfeoaaDoorRev
set_option linter.unusedVariables false
namespace Go.Proofs.YtckkgjgfjnfeoaaDoor
set_option maxRecDepth 4000

set_option maxRecDepth 4000
open Go.ChangeShapes Go.WideShapes Go.ChangeAt Go.RowKit Go.Joins N

set_option maxHeartbeats 2000000 in
theorem scaleOk_any (n s m : Int) (w : World) :
    Calls Tryd.prog 54 #[(.agg #[.int .i64 (n), .int .i64 (s)]), .int .i64 m] w fun e w' => e = .returned (.bool (scaleF n s m)) ∧ Below w.heap.size w w' := by
  have h1 := fun w => nearAbove_any n s m w
  have h2 := fun w => nearBelow_any n s m w
  unfold IntPost at h1 h2
  have hb := near_bds n s m
  unfold scaleF
  generalize nearA n s m = p at *
  generalize nearB n s m = q at *
  have hw : IntKind.i64.wrap (p + q) = p + q := IntWalk.i64_in _ (by omega)
  have tn : Two (w.alloc (.cells #[.int .i64 n, .int .i64 s] 28)) w.heap.size (.int .i64 n) (.int .i64 s) 28 := Two.new _ _ _ _
  have tnc := tn.cell0
  have tnd := tn.cell1
  by_cases hp : 0 < p
  · rw [decide_eq_true hp]
    by_cases he : p + q = m
    · have he' : ((p + q) == m) = true := by simpa using he
      rw [decide_eq_true he]
      clear he
      go_enter Tryd.func54, Tryd.ntmps54
      go_wp2_with fail
      go_region_held3 (fun w' => w'.cell? ⟨w.heap.size, 0, none⟩ = some (.int .i64 n) ∧ w'.cell? ⟨w.heap.size, 1, none⟩ = some (.int .i64 s)) (first | go_keep | exact ⟨t'c, t'd⟩ | exact ⟨((t'.set (b := _) (by omega) 0 _).set (b := _) (by omega) 1 _).cell0, ((t'.set (b := _) (by omega) 0 _).set (b := _) (by omega) 1 _).cell1⟩) (first | (go_at_call 73; refine (h1 _).mono ?_; rintro e w' ⟨rfl, hb'⟩; have t' := Two.below (b := w.heap.size) (x := .int .i64 n) (y := .int .i64 s) (T := 28) (by repeat (first | assumption | refine Two.alloc ?_ _)) hb' (by first | omega | (simp <;> omega)); have lt' := t'.lt; have t'c := t'.cell0; have t'd := t'.cell1; skip) | (go_at_call 74; refine (h2 _).mono ?_; rintro e w' ⟨rfl, hb'⟩; have t' := Two.below (b := w.heap.size) (x := .int .i64 n) (y := .int .i64 s) (T := 28) (by repeat (first | assumption | refine Two.alloc ?_ _)) hb' (by first | omega | (simp <;> omega)); have lt' := t'.lt; have t'c := t'.cell0; have t'd := t'.cell1; skip))
      go_wp2
      go_ret
      exact ⟨rfl, (by repeat (first | exact Below.refl _ _ | assumption | (refine Below.trans ?_ (Below.mono (by assumption) (by first | omega | (simp <;> omega)))) | (refine Below.alloc ?_ (by first | omega | (simp <;> omega)) _) | (refine below_drewN ?_ _) | (refine Below.drew ?_) | (refine Below.setCell ?_ (by first | omega | (simp <;> omega)) _)))⟩
    · have he' : ((p + q) == m) = false := by simpa using he
      rw [decide_eq_false he]
      clear he
      go_enter Tryd.func54, Tryd.ntmps54
      go_wp2_with fail
      go_region_held3 (fun w' => w'.cell? ⟨w.heap.size, 0, none⟩ = some (.int .i64 n) ∧ w'.cell? ⟨w.heap.size, 1, none⟩ = some (.int .i64 s)) (first | go_keep | exact ⟨t'c, t'd⟩ | exact ⟨((t'.set (b := _) (by omega) 0 _).set (b := _) (by omega) 1 _).cell0, ((t'.set (b := _) (by omega) 0 _).set (b := _) (by omega) 1 _).cell1⟩) (first | (go_at_call 73; refine (h1 _).mono ?_; rintro e w' ⟨rfl, hb'⟩; have t' := Two.below (b := w.heap.size) (x := .int .i64 n) (y := .int .i64 s) (T := 28) (by repeat (first | assumption | refine Two.alloc ?_ _)) hb' (by first | omega | (simp <;> omega)); have lt' := t'.lt; have t'c := t'.cell0; have t'd := t'.cell1; skip) | (go_at_call 74; refine (h2 _).mono ?_; rintro e w' ⟨rfl, hb'⟩; have t' := Two.below (b := w.heap.size) (x := .int .i64 n) (y := .int .i64 s) (T := 28) (by repeat (first | assumption | refine Two.alloc ?_ _)) hb' (by first | omega | (simp <;> omega)); have lt' := t'.lt; have t'c := t'.cell0; have t'd := t'.cell1; skip))
      go_wp2
      go_ret
      exact ⟨rfl, (by repeat (first | exact Below.refl _ _ | assumption | (refine Below.trans ?_ (Below.mono (by assumption) (by first | omega | (simp <;> omega)))) | (refine Below.alloc ?_ (by first | omega | (simp <;> omega)) _) | (refine below_drewN ?_ _) | (refine Below.drew ?_) | (refine Below.setCell ?_ (by first | omega | (simp <;> omega)) _)))⟩
  · have hp' : decide (0 < p) = false := decide_eq_false hp
    rw [hp']
    go_enter Tryd.func54, Tryd.ntmps54
    go_wp2_with fail
    go_region_held3 (fun w' => w'.cell? ⟨w.heap.size, 0, none⟩ = some (.int .i64 n) ∧ w'.cell? ⟨w.heap.size, 1, none⟩ = some (.int .i64 s)) (first | go_keep | exact ⟨t'c, t'd⟩ | exact ⟨((t'.set (b := _) (by omega) 0 _).set (b := _) (by omega) 1 _).cell0, ((t'.set (b := _) (by omega) 0 _).set (b := _) (by omega) 1 _).cell1⟩) (first | (go_at_call 73; refine (h1 _).mono ?_; rintro e w' ⟨rfl, hb'⟩; have t' := Two.below (b := w.heap.size) (x := .int .i64 n) (y := .int .i64 s) (T := 28) (by repeat (first | assumption | refine Two.alloc ?_ _)) hb' (by first | omega | (simp <;> omega)); have lt' := t'.lt; have t'c := t'.cell0; have t'd := t'.cell1; skip) | (go_at_call 74; refine (h2 _).mono ?_; rintro e w' ⟨rfl, hb'⟩; have t' := Two.below (b := w.heap.size) (x := .int .i64 n) (y := .int .i64 s) (T := 28) (by repeat (first | assumption | refine Two.alloc ?_ _)) hb' (by first | omega | (simp <;> omega)); have lt' := t'.lt; have t'c := t'.cell0; have t'd := t'.cell1; skip))
    go_wp2
    go_ret
    exact ⟨rfl, (by repeat (first | exact Below.refl _ _ | assumption | (refine Below.trans ?_ (Below.mono (by assumption) (by first | omega | (simp <;> omega)))) | (refine Below.alloc ?_ (by first | omega | (simp <;> omega)) _) | (refine below_drewN ?_ _) | (refine Below.drew ?_) | (refine Below.setCell ?_ (by first | omega | (simp <;> omega)) _)))⟩

set_option maxHeartbeats 4000000 in
theorem scaleSizes_any (n s : Int) (w : World) :
    Calls Tryd.prog 31 #[(.agg #[.int .i64 (n), .int .i64 (s)])] w (ListPost (scalesF n s) w) := by
  
  by_cases ht : tok n s = true
  · have hb := tok_bd ht
    obtain ⟨N, S, rfl, rfl, hN⟩ := tokN_of ht
    
    have HF : Hid (scalesF N S = scUp N S (N + 1)) := rfl
    have H2 : Hid (scUp (N : Int) S 2 = []) := scUp_two _ _
    have HY : Hid (∀ k : Nat, scaleF (N : Int) S k = true → scUp (N : Int) S (k + 1) = scUp N S k ++ [(k : Int)]) := fun k h => scUp_yes h
    have HNo : Hid (∀ k : Nat, scaleF (N : Int) S k = false → scUp (N : Int) S (k + 1) = scUp N S k) := fun k h => scUp_no (by simp [h])
    have HLn : Hid (∀ k, (scUp (N : Int) S k).length ≤ k) := fun k => (scUp_facts _ _ k).2.2
    have HT := Lib.hid (turnOk_any (N : Int) (S : Int))
    rw [ht] at HT
    clear hN
    rw [HF.out]
    go_enter Tryd.func31, Tryd.ntmps31
    go_wp2_with fail
    refine (HT.out _).mono ?_; rintro e w1 ⟨rfl, hb1⟩
    have hz1 := hb1.size
    try simp at hz1
    have t1 : Two w1 (w.heap.size) (.int .i64 N) (.int .i64 S) 28 := Two.below (by repeat (first | assumption | exact Two.new' _ _ _ _ _ (by simp) | refine Two.alloc ?_ _ | refine Two.drewN ?_ _)) hb1 (by first | omega | (simp <;> omega))
    have hlt1 : (w.heap.size) < w1.heap.size := t1.lt
    have hnt1 : ¬ (w.heap.size) = w1.heap.size := Nat.ne_of_lt hlt1
    have t1c := t1.cell0
    have t1d := t1.cell1
    have hB1 : Below w.heap.size w w1 := (by repeat (first | exact Below.refl _ _ | assumption | (refine Below.trans ?_ (Below.mono (by assumption) (by first | omega | (simp <;> omega)))) | (refine Below.alloc ?_ (by first | omega | (simp <;> omega)) _) | (refine below_drewN ?_ _) | (refine Below.drew ?_) | (refine Below.setCell ?_ (by first | omega | (simp <;> omega)) _)))
    clear hb1 t1c t1d
    go_wp2_with fail
    go_loopw [3, 4] (fun o x wr => ∃ (k : Nat) (v0 : Value), x = .int .i64 k ∧ v0 = o ∧ 2 ≤ k ∧ k ≤ N + 1 ∧ OwnL wr (w.heap.size + 1) v0 (scUp N S k) ∧ Two wr w.heap.size (.int .i64 N) (.int .i64 S) 28 ∧ w.heap.size < wr.heap.size ∧ Below w.heap.size w wr) (fun _ x _ => N + 1 - (intOf x).toNat)
    case atStart => exact ⟨2, _, rfl, rfl, by omega, by omega, by rw [H2.out]; exact World.ownsRow_nil _ _ _ _, t1, t1.lt, hB1⟩
    case round =>
      obtain ⟨k, v0, rfl, rfl, hk2, hk, ho, t, hz, hB⟩ := hrel
      clear t1 hB1
      have c0 := t.cell0
      have c1 := t.cell1
      have lt := t.lt
      by_cases hkm : k ≤ N
      · have hkm' : (k : Int) ≤ N := by omega
        go_wp2_with fail
        refine (scaleOk_any _ _ _ _).mono ?_; rintro e w2 ⟨rfl, hb2⟩
        have t2 := t.below hb2 lt
        have ho2 := ho.below hb2
        have hz2 := hb2.size
        have hB2 := hB.trans (hb2.mono hB.size)
        clear hb2 t ho hB c0 c1 lt
        have hy := Lib.hid (HY.out k)
        have hno := Lib.hid (HNo.out k)
        have hln := HLn.out k
        obtain ⟨L, hL⟩ : ∃ L, (scUp (N : Int) S k).length = L := ⟨_, rfl⟩
        rw [hL] at hln
        have HL := Lib.hid hL
        clear hL
        cases hsc : scaleF (N : Int) S k with
        | true =>
          have hs1 := Lib.hid (hy.out hsc)
          clear hsc hy hno
          go_wp2_with (at_builtin; refine append_int rfl _ _ rfl (w.heap.size + 1) v0 (scUp (N : Int) S k) L HL (by omega) rfl ho2 (by omega) rfl ?_)
          intro v5 w5 ho5 hn5 hb5
          rw [← hs1.out] at ho5
          have t5 := t2.below hb5 (by omega)
          have hB5 := hB2.trans (hb5.mono (by omega))
          have hz5 := hb5.size
          clear ho2 hB2 hb5 t2
          go_wp2_with fail
          go_roundw
          case rel => exact ⟨k + 1, v5, by go_num, rfl, by omega, by omega, ho5, t5, by omega, hB5⟩
          case measure => simp only [intOf]; omega
        | false =>
          have hs1 := Lib.hid (hno.out hsc)
          clear hsc hy hno
          rw [← hs1.out] at ho2
          go_wp2_with fail
          go_roundw
          case rel => exact ⟨k + 1, v0, by go_num, rfl, by omega, by omega, ho2, t2, by omega, hB2⟩
          case measure => simp only [intOf]; omega
      · have hkm' : decide ((k : Int) ≤ N) = false := decide_eq_false (by omega)
        obtain rfl : k = N + 1 := by omega
        have ho' : OwnL wr w.heap.size v0 (scUp N S (N + 1)) := OwnL.mono (b := w.heap.size + 1) ho (by omega)
        clear ho
        go_wp2
        go_ret
        exact ⟨_, rfl, ho', hB⟩
  · have ht' : tok n s = false := by simpa using ht
    
    have HT := Lib.hid (turnOk_any n s)
    rw [ht'] at HT
    rw [scalesF_no ht]
    clear ht
    go_enter Tryd.func31, Tryd.ntmps31
    go_wp2_with fail
    refine (HT.out _).mono ?_; rintro e w1 ⟨rfl, hb1⟩
    have hz1 := hb1.size
    try simp at hz1
    have t1 : Two w1 (w.heap.size) (.int .i64 n) (.int .i64 s) 28 := Two.below (by repeat (first | assumption | exact Two.new' _ _ _ _ _ (by simp) | refine Two.alloc ?_ _ | refine Two.drewN ?_ _)) hb1 (by first | omega | (simp <;> omega))
    have hlt1 : (w.heap.size) < w1.heap.size := t1.lt
    have hnt1 : ¬ (w.heap.size) = w1.heap.size := Nat.ne_of_lt hlt1
    have t1c := t1.cell0
    have t1d := t1.cell1
    have hB1 : Below w.heap.size w w1 := (by repeat (first | exact Below.refl _ _ | assumption | (refine Below.trans ?_ (Below.mono (by assumption) (by first | omega | (simp <;> omega)))) | (refine Below.alloc ?_ (by first | omega | (simp <;> omega)) _) | (refine below_drewN ?_ _) | (refine Below.drew ?_) | (refine Below.setCell ?_ (by first | omega | (simp <;> omega)) _)))
    go_wp2
    go_ret
    exact ⟨_, rfl, World.ownsRow_nil _ _ _ _, hB1⟩

theorem spanS_next {G : List Int} {f N : Nat} (hN : G.length = N) (hf : f < N) (K : Nat) : spanS G (f + 1) K = spanS G f K + (G.getD ((f + K) % N) 0 - G.getD f 0) := by
  have h1 := spanS_from G f 1 K
  have h2 := spanS_succ G f K
  have h3 : spanS G f 1 = 0 + G.getD ((f + 0) % G.length) 0 := rfl
  rw [hN] at h2 h3
  rw [Nat.add_zero, Nat.mod_eq_of_lt hf] at h3
  rw [Nat.add_comm 1 K, h2, h3] at h1
  omega

theorem pat_where {n s m : Int} (h : scaleF n s m = true) : patF n s m = whereL (leastF n s m) (gapsF n s m) := by
  have hpos : ∀ j, j < (gapsF n s m).length → 1 ≤ (gapsF n s m).getD j 0 := by
    intro j hj
    by_cases h : tok n s = true ∧ 1 ≤ m ∧ m ≤ n
    · obtain ⟨M, rfl⟩ := Int.eq_ofNat_of_zero_le (by omega : 0 ≤ m)
      have e := gapsF_yes (n := n) (s := s) (m := M) h.1 (by omega) h.2.2
      have l := gapsT_length n s M
      rw [e] at hj ⊢
      exact (gaps_pos (turns_of h.1) h.2.2 (by omega) 0).1
    · rw [gapsF_no h] at hj
      simp at hj
  rw [patF_yes h]
  unfold whereL
  apply List.map_congr_left
  intro x hx
  obtain ⟨j, hj, rfl⟩ := List.getElem_of_mem hx
  have hl := (leK_is (gapsF n s m).length (by omega) hpos).2 j hj
  have e : (gapsF n s m).getD j 0 = (gapsF n s m)[j] := by rw [List.getD_eq_getElem?_getD, List.getElem?_eq_getElem hj]; rfl
  rw [e] at hl
  have hl : leastF n s m ≤ (gapsF n s m)[j] := hl
  rw [Bool.eq_iff_iff]; simp; omega

end Go.Proofs.YtckkgjgfjnfeoaaDoor
