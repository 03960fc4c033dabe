/- Contracts of TurnOfCode, of the program and of the model. -/
import Derived.Test.YtdkcodinlegheaaGOk
set_option linter.unusedVariables false
namespace Go.Proofs.Ytdkcodinlegheaa

set_option maxRecDepth 4000
open Go.ChangeShapes Go.WideShapes Go.ChangeAt Go.RowKit Go.Joins

def cnt (u : ByteArray) : Nat := Lib.countByte u.data.toList 49

/-- the word is that of the turn which has as many points as letters -/
def TocP (u : ByteArray) : Prop := tok u.size (cnt u) = true ∧ txtB (codeF u.size (cnt u) 0 u.size) = u

theorem tocP_code {u : ByteArray} (h : TocP u) : CodeP u := by rw [← h.2]; exact codeP_txt (codeF_len _ _ _ _)

/-- a turn comes back if its letters are the word, and else none -/
def TocPost (u : ByteArray) (w : World) (e : Ending) (w' : World) : Prop :=
  (TocP u ∧ e = .returned (.tuple #[(.agg #[.int .i64 ((u.size : Int)), .int .i64 ((cnt u : Int))]), .bool true]) ∨ ¬ TocP u ∧ e = .returned (.tuple #[(.agg #[.int .i64 (0), .int .i64 (0)]), .bool false])) ∧ Below w.heap.size w w'

set_option maxHeartbeats 2000000 in
theorem turnOfCode_any (u : ByteArray) (w : World) (hu : u.size ≤ 2000000) :
    Calls Try.prog 56 #[.string u] w (TocPost u w) := by
  have hc := countOnes_any u
  rw [show Lib.countByte u.data.toList 49 = cnt u from rfl] at hc
  have hcl : cnt u ≤ u.size := by rw [cnt, ← onesB_all]; exact onesB_le u u.size
  have hP : TocP u ↔ tok u.size (cnt u) = true ∧ txtB (codeF u.size (cnt u) 0 u.size) = u := Iff.rfl
  obtain ⟨c, hcc⟩ : ∃ c, cnt u = c := ⟨_, rfl⟩
  have hw1 : TocP u → Ending.returned (.tuple #[(.agg #[.int .i64 ((u.size : Int)), .int .i64 ((c : Int))]), .bool true]) = Ending.returned (.tuple #[(.agg #[.int .i64 ((u.size : Int)), .int .i64 ((cnt u : Int))]), .bool true]) := fun _ => by rw [hcc]
  rw [hcc] at hP hcl hc
  have HP := Lib.hid hP
  have HW := Lib.hid hw1
  clear hP hw1 hcc
  
  go_enter Try.func56, Try.ntmps56
  go_wp2_with fail
  refine (hc _).mono ?_; rintro e w1 ⟨rfl, rfl⟩
  clear hc
  go_wp2_with fail
  have u0 : Two ((w.alloc (.cells #[.int .i64 0, .int .i64 0] 29)).alloc (.cells #[.int .i64 u.size, .int .i64 c] 29)) w.heap.size (.int .i64 0) (.int .i64 0) 29 := (Two.new _ _ _ _).alloc _
  have t0 : Two ((w.alloc (.cells #[.int .i64 0, .int .i64 0] 29)).alloc (.cells #[.int .i64 u.size, .int .i64 c] 29)) (w.heap.size + 1) (.int .i64 u.size) (.int .i64 c) 29 := Two.new' _ _ _ _ _ (by simp)
  have hB0 : Below w.heap.size w ((w.alloc (.cells #[.int .i64 0, .int .i64 0] 29)).alloc (.cells #[.int .i64 u.size, .int .i64 c] 29)) := (by repeat (first | exact Below.refl _ _ | assumption | (refine Below.trans ?_ (Below.mono (by assumption) (by first | omega | (simp <;> omega)))) | (refine Below.alloc ?_ (by first | omega | (simp <;> omega)) _) | (refine below_drewN ?_ _) | (refine Below.drew ?_) | (refine Below.setCell ?_ (by first | omega | (simp <;> omega)) _)))
  refine (turnOk_any _ _ _).mono ?_; rintro e w2 ⟨rfl, hb2⟩
  have u2 := u0.below hb2 u0.lt
  have t2 := t0.below hb2 t0.lt
  have hB2 := hB0.trans (hb2.mono hB0.size)
  have c0 := t2.cell0
  have c1 := t2.cell1
  clear hb2 u0 t0 hB0
  cases ht : tok u.size c with
  | false =>
    have hn : Hid (¬ TocP u) := fun h => by have := (HP.out.1 h).1; rw [ht] at this; cases this
    have f0 := u2.free 0
    have f1 := u2.free 1
    have d0 := u2.cell0
    have d1 := u2.cell1
    have u5 := (u2.set0 (.int .i64 0)).set1 (.int .i64 0)
    have e0 := u5.cell0
    have e1 := u5.cell1
    go_wp2
    exact bodyPost_ret (v := .tuple #[(.agg #[.int .i64 (0), .int .i64 (0)]), .bool false]) (by simp [results, Try.results56, go_sem, e0, e1]) rfl ⟨.inr ⟨hn.out, rfl⟩, (hB2.setCell (Nat.le_refl _) _).setCell (Nat.le_refl _) _⟩
  | true =>
    have HT := Lib.hid ht
    go_wp2_with fail
    refine (codeOf_any _ _ _ _ _).mono ?_; rintro e w3 ⟨rfl, hb3⟩
    have u3 := u2.below hb3 u2.lt
    have t3 := t2.below hb3 t2.lt
    have hB3 := hB2.trans (hb3.mono hB2.size)
    clear hb3 u2 t2 c0 c1 hB2 ht
    generalize hV : txtB (codeF u.size c 0 u.size) = V at *
    have HV := Lib.hid hV
    clear hV
    have f0 := u3.free 0
    have f1 := u3.free 1
    have d0 := u3.cell0
    have d1 := u3.cell1
    have c0 := t3.cell0
    have c1 := t3.cell1
    by_cases he : V = u
    · have hy : Hid (TocP u) := HP.out.2 ⟨HT.out, he⟩
      subst he
      have u5 := (u3.set0 (.int .i64 V.size)).set1 (.int .i64 c)
      have e0 := u5.cell0
      have e1 := u5.cell1
      go_wp2
      exact bodyPost_ret (v := .tuple #[(.agg #[.int .i64 ((V.size : Int)), .int .i64 ((c : Int))]), .bool true]) (by simp [results, Try.results56, go_sem, e0, e1]) rfl ⟨.inl ⟨hy.out, HW.out hy.out⟩, (hB3.setCell (Nat.le_refl _) _).setCell (Nat.le_refl _) _⟩
    · have hn : Hid (¬ TocP u) := fun h => he (HP.out.1 h).2
      have hbq : (V.toList == u.toList) = false := by
        rw [beq_eq_false_iff_ne]
        intro h
        apply he
        apply ByteArray.ext
        have e1 : V.data = V.toList.toArray := by rw [ByteArray.toList_eq]
        have e2 : u.data = u.toList.toArray := by rw [ByteArray.toList_eq]
        rw [e1, e2, h]
      have u5 := (u3.set0 (.int .i64 0)).set1 (.int .i64 0)
      have e0 := u5.cell0
      have e1 := u5.cell1
      go_wp2
      exact bodyPost_ret (v := .tuple #[(.agg #[.int .i64 (0), .int .i64 (0)]), .bool false]) (by simp [results, Try.results56, go_sem, e0, e1]) rfl ⟨.inr ⟨hn.out, rfl⟩, (hB3.setCell (Nat.le_refl _) _).setCell (Nat.le_refl _) _⟩

end Go.Proofs.Ytdkcodinlegheaa
