/- Contracts of the model's InnerTurn, and of InnerTurns of both. -/
import Derived.Test.YtdkcodinlegheaaInn
import Derived.Test.YtdkcodinlegheaaTurns
set_option linter.unusedVariables false
namespace Go.Proofs.Ytdkcodinlegheaa

set_option maxRecDepth 4000
open Go.ChangeShapes Go.WideShapes Go.ChangeAt Go.RowKit Go.Joins

set_option maxHeartbeats 2000000 in
theorem specInnerTurn_any (n s : Int) (w : World) : Calls Try.prog 53 #[(.agg #[.int .i64 (n), .int .i64 (s)])] w (InnPost n s w) := by
  have t0 : Two ((w.alloc (.cells #[.int .i64 n, .int .i64 s] 29)).alloc (.cells #[.int .i64 0, .int .i64 0] 29)) w.heap.size (.int .i64 n) (.int .i64 s) 29 := (Two.new _ _ _ _).alloc _
  have u0 : Two ((w.alloc (.cells #[.int .i64 n, .int .i64 s] 29)).alloc (.cells #[.int .i64 0, .int .i64 0] 29)) (w.heap.size + 1) (.int .i64 0) (.int .i64 0) 29 := Two.new' _ _ _ _ _ (by simp)
  have hB0 : Below w.heap.size w ((w.alloc (.cells #[.int .i64 n, .int .i64 s] 29)).alloc (.cells #[.int .i64 0, .int .i64 0] 29)) := (by repeat (first | exact Below.refl _ _ | assumption | (refine Below.trans ?_ (Below.mono (by assumption) (by first | omega | (simp <;> omega)))) | (refine Below.alloc ?_ (by first | omega | (simp <;> omega)) _) | (refine below_drewN ?_ _) | (refine Below.drew ?_) | (refine Below.setCell ?_ (by first | omega | (simp <;> omega)) _)))
  have c0 := t0.cell0
  have c1 := t0.cell1
  by_cases hc : tok n s = true ∧ 2 ≤ s
  · obtain ⟨ht, h2⟩ := hc
    have hb := tok_bd ht
    unfold InnPost
    rw [innF_yes ht h2, innP_yes ht h2]
    have h2' : ¬ s < 2 := by omega
    have m1 : n.tmod s = n % s := Int.tmod_eq_emod_of_nonneg (by omega)
    have m2 := Int.emod_lt_of_pos n (show 0 < s by omega)
    have m3 := Int.emod_nonneg n (show s ≠ 0 by omega)
    have hne : ¬ s = 0 := by omega
    generalize n % s = r at *
    have hwr : IntKind.i64.wrap r = r := IntWalk.i64_in _ (by omega)
    go_enter Try.func53, Try.ntmps53
    go_wp2_with fail
    refine (specTurnOk_any _ _ _).mono ?_; rintro e w2 ⟨rfl, hb2⟩
    rw [ht]
    have t2 := t0.below hb2 t0.lt
    have u2 := u0.below hb2 u0.lt
    have hB2 := hB0.trans (hb2.mono hB0.size)
    clear hb2 t0 u0 hB0 c0 c1 ht
    have c0 := t2.cell0
    have c1 := t2.cell1
    have d0 := u2.cell0
    have d1 := u2.cell1
    have f0 := u2.free 0
    have f1 := u2.free 1
    have u5 := (u2.set0 (.int .i64 s)).set1 (.int .i64 r)
    have e0 := u5.cell0
    have e1 := u5.cell1
    go_wp2_with fail
    go_region
    all_goals go_wp2
    all_goals exact bodyPost_ret (v := .tuple #[(.agg #[.int .i64 (s), .int .i64 (r)]), .bool true]) (by simp [results, Try.results53, go_sem, e0, e1]) rfl ⟨rfl, Below.drewS ((hB2.setCell (by simp) _).setCell (by simp) _)⟩
  · have hI := innF_no hc
    have hP := innP_no hc
    unfold InnPost
    rw [hI, hP]
    by_cases ht : tok n s = true
    · have h2 : s < 2 := by
        by_cases c : s < 2
        · exact c
        · exact absurd ⟨ht, by omega⟩ hc
      go_enter Try.func53, Try.ntmps53
      go_wp2_with fail
      refine (specTurnOk_any _ _ _).mono ?_; rintro e w2 ⟨rfl, hb2⟩
      rw [ht]
      have t2 := t0.below hb2 t0.lt
      have u2 := u0.below hb2 u0.lt
      have hB2 := hB0.trans (hb2.mono hB0.size)
      clear hb2 t0 u0 hB0 c0 c1
      have c0 := t2.cell0
      have c1 := t2.cell1
      have f0 := u2.free 0
      have f1 := u2.free 1
      have d0 := u2.cell0
      have d1 := u2.cell1
      have u5 := (u2.set0 (.int .i64 0)).set1 (.int .i64 0)
      have e0 := u5.cell0
      have e1 := u5.cell1
      go_wp2
      exact bodyPost_ret (v := .tuple #[(.agg #[.int .i64 (0), .int .i64 (0)]), .bool false]) (by simp [results, Try.results53, go_sem, e0, e1]) rfl ⟨rfl, (hB2.setCell (by simp) _).setCell (by simp) _⟩
    · have ht' : tok n s = false := by simpa using ht
      go_enter Try.func53, Try.ntmps53
      go_wp2_with fail
      refine (specTurnOk_any _ _ _).mono ?_; rintro e w2 ⟨rfl, hb2⟩
      rw [ht']
      have t2 := t0.below hb2 t0.lt
      have u2 := u0.below hb2 u0.lt
      have hB2 := hB0.trans (hb2.mono hB0.size)
      clear hb2 t0 u0 hB0 c0 c1
      have f0 := u2.free 0
      have f1 := u2.free 1
      have d0 := u2.cell0
      have d1 := u2.cell1
      have u5 := (u2.set0 (.int .i64 0)).set1 (.int .i64 0)
      have e0 := u5.cell0
      have e1 := u5.cell1
      go_wp2
      exact bodyPost_ret (v := .tuple #[(.agg #[.int .i64 (0), .int .i64 (0)]), .bool false]) (by simp [results, Try.results53, go_sem, e0, e1]) rfl ⟨rfl, (hB2.setCell (by simp) _).setCell (by simp) _⟩

def ListTPost (ts : List (Int × Int)) (w : World) (e : Ending) (w' : World) : Prop := ∃ v, e = .returned v ∧ OwnT w' w.heap.size v ts ∧ Below w.heap.size w w'

def lenV : Value → Nat
  | .slice _ n _ => n
  | _ => 0

/-- on the way: D is done, and if there is a further turn, it is (p, q) -/
def OnWay (R : List (Int × Int)) (D : List (Int × Int)) (ok : Bool) (p q : Int) : Prop := (ok = true → tok p q = true ∧ D ++ innersF p q = R) ∧ (ok = false → D = R)

theorem OnWay.lt {R D : List (Int × Int)} {p q : Int} (h : OnWay R D true p q) : D.length < R.length := by
  obtain ⟨ht, e⟩ := h.1 rfl
  rw [← e, List.length_append]
  by_cases c : 2 ≤ q
  · rw [innersF_succ ht c]; simp
  · rw [innersF_last ht c]; simp

theorem OnWay.next {R D : List (Int × Int)} {p q : Int} (h : OnWay R D true p q) : OnWay R (D ++ [(p, q)]) (innP p q) (innF p q).1 (innF p q).2 := by
  obtain ⟨ht, e⟩ := h.1 rfl
  by_cases c : 2 ≤ q
  · rw [innP_yes ht c, innF_yes ht c]
    refine ⟨fun _ => ⟨tok_inn ht c, ?_⟩, fun h => by cases h⟩
    rw [innersF_succ ht c] at e
    rw [List.append_assoc]; exact e
  · rw [innP_no (fun k => c k.2)]
    refine ⟨fun h => (by cases h), fun _ => ?_⟩
    rw [innersF_last ht c] at e
    exact e

theorem OwnT.len {w : World} {b : Nat} {v : Value} {xs : List (Int × Int)} (h : OwnT w b v xs) : lenV v = xs.length := by
  obtain ⟨a, cap, rfl, _⟩ := h.cells rfl
  rfl

theorem onWay_start (n s : Int) : OnWay (innersF n s) [] (tok n s) n s := by
  cases h : tok n s with
  | true => exact ⟨fun _ => ⟨h, rfl⟩, fun h => (by cases h)⟩
  | false => exact ⟨fun h => (by cases h), fun _ => (innersF_no (n := n) (s := s) (by rw [h]; simp)).symm⟩

end Go.Proofs.Ytdkcodinlegheaa
