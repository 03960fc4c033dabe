/- Contracts of NextAfter of the model, and of GapsBy of the program and of the model. -/
import Derived.Test.YtkhnnbgmckeoaaaNear3
import Derived.Test.YtkhnnbgmckeoaaaFun1
set_option linter.unusedVariables false
namespace Go.Proofs.Ytkhnnbgmckeoaaa
open Go.ChangeShapes Go.WideShapes Go.ChangeAt Go.RowKit Go.Joins N

/-- what is told by both times alone -/
def gapsByF (n s m : Int) : List Int :=
  if tok n s = true ∧ 2 ≤ m ∧ m ≤ n then
    [pt n s (nearA n s m), m - nearA n s m, n - pt n s (nearB n s m), m - nearB n s m, pt n s (nearA n s m) + (n - pt n s (nearB n s m)), nearA n s m + nearB n s m - m]
  else []

theorem gapsByF_yes {n s m p q : Int} (h : tok n s = true) (h2 : 2 ≤ m) (hm : m ≤ n) (hp : nearA n s m = p) (hq : nearB n s m = q) :
    gapsByF n s m = [pt n s p, m - p, n - pt n s q, m - q, pt n s p + (n - pt n s q), p + q - m] := by
  subst hp hq; exact if_pos ⟨h, h2, hm⟩

theorem gapsByF_no {n s m : Int} (h : ¬ (tok n s = true ∧ 2 ≤ m ∧ m ≤ n)) : gapsByF n s m = [] := if_neg h

theorem gapsByF_len (n s m : Int) : (gapsByF n s m).length ≤ 60 := by
  unfold gapsByF; split <;> simp

/-- a new row of six integers -/
theorem row6 (w : World) (b : Nat) (x0 x1 x2 x3 x4 x5 : Int) (hb : b ≤ w.heap.size) :
    OwnL (w.alloc (.cells #[.int .i64 x0, .int .i64 x1, .int .i64 x2, .int .i64 x3, .int .i64 x4, .int .i64 x5] 3)) b (.slice (some ⟨w.heap.size, 0, none⟩) 6 6) [x0, x1, x2, x3, x4, x5] := by
  refine ⟨by simp, .inr ⟨w.heap.size, 6, _, rfl, hb, heap_alloc_new w _, by simp, by unfold maxLen; omega, by simp, by simp⟩⟩

set_option maxHeartbeats 1000000 in
theorem gapsBy_any (n s m : Int) (w : World) :
    Calls Try.prog 57 #[(.agg #[.int .i64 (n), .int .i64 (s)]), .int .i64 m] w (ListPost (gapsByF n s m) w) := by
  
  by_cases hc : tok n s = true ∧ 2 ≤ m ∧ m ≤ n
  · obtain ⟨ht, h2, hm⟩ := hc
    have hb := tok_bd ht
    obtain ⟨p1, p2, _⟩ := nearA_is ht h2 hm
    obtain ⟨q1, q2, _⟩ := nearB_is ht h2 hm
    obtain ⟨p, hP⟩ : ∃ p, nearA n s m = p := ⟨_, rfl⟩
    obtain ⟨q, hQ⟩ : ∃ q, nearB n s m = q := ⟨_, rfl⟩
    rw [hP] at p1 p2
    rw [hQ] at q1 q2
    rw [gapsByF_yes ht h2 hm hP hQ]
    have HP := Lib.hid hP
    have HQ := Lib.hid hQ
    have Hp := Lib.hid (show pointF n s p = pt n s p from pointF_yes ht (by omega) (by omega))
    have Hq := Lib.hid (show pointF n s q = pt n s q from pointF_yes ht (by omega) (by omega))
    have b1 := pt_lo (n := n) s p (by omega)
    have b2 := pt_hi (n := n) s p (by omega)
    have b3 := pt_lo (n := n) s q (by omega)
    have b4 := pt_hi (n := n) s q (by omega)
    have tn : Two (w.alloc (.cells #[.int .i64 n, .int .i64 s] 24)) w.heap.size (.int .i64 n) (.int .i64 s) 24 := Two.new _ _ _ _
    have tnc := tn.cell0
    have tnd := tn.cell1
    clear ht hP hQ
    go_enter Try.func57, Try.ntmps57
    go_wp2_with fail
    go_region_held3 (fun w' => w'.cell? ⟨w.heap.size, 0, none⟩ = some (.int .i64 n) ∧ w'.cell? ⟨w.heap.size, 1, none⟩ = some (.int .i64 s)) (first | go_keep | exact ⟨t'c, t'd⟩ | exact ⟨((t'.set (b := _) (by omega) 0 _).set (b := _) (by omega) 1 _).cell0, ((t'.set (b := _) (by omega) 0 _).set (b := _) (by omega) 1 _).cell1⟩) (first | (go_at_call 84; refine (nearAbove_any n s m _).mono ?_; rintro e w' ⟨rfl, hb'⟩; have t' := Two.below (b := w.heap.size) (x := .int .i64 n) (y := .int .i64 s) (T := 24) (by repeat (first | assumption | refine Two.alloc ?_ _)) hb' (by first | omega | (simp <;> omega)); have lt' := t'.lt; have t'c := t'.cell0; have t'd := t'.cell1; rw [HP.out]) | (go_at_call 85; refine (nearBelow_any n s m _).mono ?_; rintro e w' ⟨rfl, hb'⟩; have t' := Two.below (b := w.heap.size) (x := .int .i64 n) (y := .int .i64 s) (T := 24) (by repeat (first | assumption | refine Two.alloc ?_ _)) hb' (by first | omega | (simp <;> omega)); have lt' := t'.lt; have t'c := t'.cell0; have t'd := t'.cell1; rw [HQ.out]))
    have p0 : ¬ p < 0 := by omega
    have q0 : ¬ q < 0 := by omega
    go_wp2_with fail
    go_region_held3 (fun w' => w'.cell? ⟨w.heap.size, 0, none⟩ = some (.int .i64 n) ∧ w'.cell? ⟨w.heap.size, 1, none⟩ = some (.int .i64 s)) (first | go_keep | exact ⟨t'c, t'd⟩ | exact ⟨((t'.set (b := _) (by omega) 0 _).set (b := _) (by omega) 1 _).cell0, ((t'.set (b := _) (by omega) 0 _).set (b := _) (by omega) 1 _).cell1⟩) (first | (go_at_call 73; refine (pointOf_any _ _ _ _).mono ?_; rintro e w' ⟨rfl, hb'⟩; have t' := Two.below (b := w.heap.size) (x := .int .i64 n) (y := .int .i64 s) (T := 24) (by repeat (first | assumption | refine Two.alloc ?_ _)) hb' (by first | omega | (simp <;> omega)); have lt' := t'.lt; have t'c := t'.cell0; have t'd := t'.cell1; first | rw [Hp.out] | rw [Hq.out]))
    go_wp2
    go_ret
    exact ⟨_, rfl, row6 _ _ _ _ _ _ _ _ (by first | omega | (simp <;> omega)), (by repeat (first | exact Below.refl _ _ | assumption | (refine Below.trans ?_ (Below.mono (by assumption) (by first | omega | (simp <;> omega)))) | (refine Below.alloc ?_ (by first | omega | (simp <;> omega)) _) | (refine below_drewN ?_ _) | (refine Below.drew ?_) | (refine Below.setCell ?_ (by first | omega | (simp <;> omega)) _)))⟩
  · rw [gapsByF_no hc]
    have HP := Lib.hid (nearA_no hc)
    have HQ := Lib.hid (nearB_no hc)
    have tn : Two (w.alloc (.cells #[.int .i64 n, .int .i64 s] 24)) w.heap.size (.int .i64 n) (.int .i64 s) 24 := Two.new _ _ _ _
    have tnc := tn.cell0
    have tnd := tn.cell1
    clear hc
    go_enter Try.func57, Try.ntmps57
    go_wp2_with fail
    go_region_held3 (fun w' => w'.cell? ⟨w.heap.size, 0, none⟩ = some (.int .i64 n) ∧ w'.cell? ⟨w.heap.size, 1, none⟩ = some (.int .i64 s)) (first | go_keep | exact ⟨t'c, t'd⟩ | exact ⟨((t'.set (b := _) (by omega) 0 _).set (b := _) (by omega) 1 _).cell0, ((t'.set (b := _) (by omega) 0 _).set (b := _) (by omega) 1 _).cell1⟩) (first | (go_at_call 84; refine (nearAbove_any n s m _).mono ?_; rintro e w' ⟨rfl, hb'⟩; have t' := Two.below (b := w.heap.size) (x := .int .i64 n) (y := .int .i64 s) (T := 24) (by repeat (first | assumption | refine Two.alloc ?_ _)) hb' (by first | omega | (simp <;> omega)); have lt' := t'.lt; have t'c := t'.cell0; have t'd := t'.cell1; rw [HP.out]) | (go_at_call 85; refine (nearBelow_any n s m _).mono ?_; rintro e w' ⟨rfl, hb'⟩; have t' := Two.below (b := w.heap.size) (x := .int .i64 n) (y := .int .i64 s) (T := 24) (by repeat (first | assumption | refine Two.alloc ?_ _)) hb' (by first | omega | (simp <;> omega)); have lt' := t'.lt; have t'c := t'.cell0; have t'd := t'.cell1; rw [HQ.out]))
    go_wp2
    go_ret
    exact ⟨_, rfl, World.ownsRow_nil _ _ _ _, (by repeat (first | exact Below.refl _ _ | assumption | (refine Below.trans ?_ (Below.mono (by assumption) (by first | omega | (simp <;> omega)))) | (refine Below.alloc ?_ (by first | omega | (simp <;> omega)) _) | (refine below_drewN ?_ _) | (refine Below.drew ?_) | (refine Below.setCell ?_ (by first | omega | (simp <;> omega)) _)))⟩

end Go.Proofs.Ytkhnnbgmckeoaaa
