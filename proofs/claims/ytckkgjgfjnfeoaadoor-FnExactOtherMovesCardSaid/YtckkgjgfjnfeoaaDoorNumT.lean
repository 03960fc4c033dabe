/- Contract of the model's l1Number at numbers from 0 on. -/
import Derived.Test.YtckkgjgfjnfeoaaDoorGMov
import Derived.Test.YtckkgjgfjnfeoaaDoorGKit
import Derived.BigQuiet
import Derived.Test.YtckkgjgfjnfeoaaDoorOne
import Derived.Laws.Concat
import Derived.Laws.BytesArg
import Derived.Deep.RegionHeld3
import Derived.Deep.RegionWith
set_option linter.unusedVariables false
namespace Go.Proofs.YtckkgjgfjnfeoaaDoor
set_option maxRecDepth 4000

set_option maxRecDepth 4000
open Go.ChangeShapes Go.WideShapes Go.ChangeAt Go.RowKit Go.Joins

/-- a slice of one byte as a text -/
theorem conv_one (w : World) (g c : Nat) (h : w.cell? ⟨g, 0, none⟩ = some (.int .u8 (c : Int))) :
    (convert 22 9 (.slice (some ⟨g, 0, none⟩) 1 1)).run Tryd.prog w = .ok (.string (txtL [UInt8.ofNat c])) w := by
  rw [run_convert_bytes_arg w 22 5 Tryd.underlying22 Tryd.underlying5 g 0 1 1 [(c : Int)] rfl (fun i hi => by
    obtain rfl : i = 0 := by omega
    exact h) _ Tryd.underlying9]
  rfl

theorem tdivN (a b : Nat) : (a : Int).tdiv (b : Int) = ((a / b : Nat) : Int) := by rw [Int.tdiv_eq_ediv_of_nonneg (by omega)]; simp

theorem tmodN (a b : Nat) : (a : Int).tmod (b : Int) = ((a % b : Nat) : Int) := by rw [Int.tmod_eq_emod_of_nonneg (by omega)]; simp

def byteObj (c : Nat) : Obj := .cells #[.int .u8 (c : Int)] 5

theorem byteObj_cell (w : World) (c : Nat) : (w.alloc (byteObj c)).cell? ⟨w.heap.size, 0, none⟩ = some (.int .u8 (c : Int)) := by
  unfold World.cell?
  rw [show (w.alloc (byteObj c)).heap = w.heap.push (byteObj c) from rfl]
  simp [byteObj]

set_option maxHeartbeats 4000000 in
theorem specNumber_any (n : Nat) : ∀ (w : World), n < 10 ^ 18 → Calls Tryd.prog 49 #[.int .i64 n] w fun e w' => e = .returned (.string (txtL (decN n))) ∧ Below w.heap.size w w' := by
  induction n using Nat.strongRecOn with
  | _ n ih =>
  intro w hn
  have hn0 : decide ((n : Int) < 0) = false := decide_eq_false (by omega)
  by_cases c : n < 10
  · rw [decN_small c]
    have c1 : (n : Int) < 10 := by omega
    have w1 : IntKind.i64.wrap (48 + (n : Int)) = ((48 + n : Nat) : Int) := by rw [show 48 + (n : Int) = ((48 + n : Nat) : Int) by omega]; exact IntWalk.i64_in _ (by omega)
    have w2 : IntKind.u8.wrap ((48 + n : Nat) : Int) = ((48 + n : Nat) : Int) := IntWalk.u8_in _ (by omega)
    have kc := conv_one (w.alloc (byteObj (48 + n))) w.heap.size (48 + n) (byteObj_cell w (48 + n))
    have kc2 : digB n = UInt8.ofNat (48 + n) := rfl
    rw [kc2]
    unfold byteObj at kc
    generalize UInt8.ofNat (48 + n) = D at *
    generalize txtL [D] = DD at *
    generalize ((48 + n : Nat) : Int) = X at *
    clear kc2 ih
    go_enter Tryd.func49, Tryd.ntmps49
    go_wp2
    go_ret
    exact ⟨rfl, (by repeat (first | exact Below.refl _ _ | assumption | (refine Below.trans ?_ (Below.mono (by assumption) (by first | omega | (simp <;> omega)))) | (refine Below.alloc ?_ (by first | omega | (simp <;> omega)) _) | (refine below_drewN ?_ _) | (refine Below.drew ?_) | (refine Below.setCell ?_ (by first | omega | (simp <;> omega)) _)))⟩
  · rw [decN_big c (by omega)]
    have hi := ih (n / 10) (by omega)
    have c1 : decide ((n : Int) < 10) = false := decide_eq_false (by omega)
    have d1 : (n : Int).tdiv 10 = ((n / 10 : Nat) : Int) := tdivN n 10
    have d2 : (n : Int).tmod 10 = ((n % 10 : Nat) : Int) := tmodN n 10
    have w0 : IntKind.i64.wrap ((n / 10 : Nat) : Int) = ((n / 10 : Nat) : Int) := IntWalk.i64_in _ (by omega)
    have w00 : IntKind.i64.wrap ((n % 10 : Nat) : Int) = ((n % 10 : Nat) : Int) := IntWalk.i64_in _ (by omega)
    have w1 : IntKind.i64.wrap (48 + ((n % 10 : Nat) : Int)) = ((48 + n % 10 : Nat) : Int) := by rw [show 48 + ((n % 10 : Nat) : Int) = ((48 + n % 10 : Nat) : Int) by omega]; exact IntWalk.i64_in _ (by omega)
    have w2 : IntKind.u8.wrap ((48 + n % 10 : Nat) : Int) = ((48 + n % 10 : Nat) : Int) := IntWalk.u8_in _ (by omega)
    have hA := Lib.hid (fun w' : World => byteObj_cell w' (48 + n % 10))
    have hC := Lib.hid (fun (w' : World) g h => conv_one w' g (48 + n % 10) h)
    have kD : digB (n % 10) = UInt8.ofNat (48 + n % 10) := rfl
    rw [← txtL_append, kD]
    generalize UInt8.ofNat (48 + n % 10) = D at *
    have hsz : (txtL (decN (n / 10))).size ≤ 20 := by
      rw [txtL_size]
      exact Nat.le_trans (decN_len 18 (by omega) (by omega)) (by omega)
    have hsD : (txtL [D]).size = 1 := txtL_size _
    generalize txtL (decN (n / 10)) = A at *
    unfold byteObj at hA
    generalize ((48 + n % 10 : Nat) : Int) = X at *
    generalize ((n % 10 : Nat) : Int) = Y at *
    generalize hZ : ((n / 10 : Nat) : Int) = Z at *
    have hi' : Hid (∀ w, Calls Tryd.prog 49 #[.int .i64 Z] w fun e w' => e = .returned (.string A) ∧ Below w.heap.size w w') := fun w => hi w (by omega)
    clear hi ih hZ hn kD c
    generalize txtL [D] = DD at *
    have k0 := hC.out (w.alloc (.cells #[.int .u8 X] 5)) _ (hA.out w)
    have k1 := hC.out (w.alloc (.cells #[.int .u8 X] 5)).drew _ (hA.out w)
    go_enter Tryd.func49, Tryd.ntmps49
    go_wp2_with fail
    go_region_with (go_at_call 49; refine (hi'.out _).mono ?_; rintro e w' ⟨rfl, hb'⟩; have kn := hC.out (w'.alloc (.cells #[.int .u8 X] 5)) _ (hA.out w'); try (have ky := hC.out w' w.heap.size ((hb'.cell (p := ⟨w.heap.size, 0, none⟩) (by simp)).trans (hA.out w))))
    all_goals (
      go_wp2_with fail
      go_ret
      refine ⟨rfl, ?_⟩
      first
        | exact ((below_drewN (Below.refl w.heap.size w) 1).trans hb').alloc ((below_drewN (Below.refl w.heap.size w) 1).trans hb').size _
        | exact (below_drewN ((Below.refl w.heap.size w).alloc (Nat.le_refl _) _) 1).trans (hb'.mono (by simp)))
end Go.Proofs.YtckkgjgfjnfeoaaDoor
