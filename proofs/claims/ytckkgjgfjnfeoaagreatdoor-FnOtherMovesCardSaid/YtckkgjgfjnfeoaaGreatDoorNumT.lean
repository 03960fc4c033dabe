/- Contract of the model's l1Number at numbers from 0 on. -/
import Derived.Test.YtckkgjgfjnfeoaaGreatDoorGMov
import Derived.Test.YtckkgjgfjnfeoaaGreatDoorGKit
import Derived.BigQuiet
import Derived.Test.YtckkgjgfjnfeoaaGreatDoorOne
import Derived.Laws.Concat
import Derived.Laws.BytesArg
import Derived.Deep.RegionHeld3
import Derived.Deep.RegionWith
set_option linter.unusedVariables false
namespace Go.Proofs.YtckkgjgfjnfeoaaGreatDoor
set_option maxRecDepth 4000

set_option maxRecDepth 4000
open Go.ChangeShapes Go.WideShapes Go.ChangeAt Go.RowKit Go.Joins

/-- a slice of one byte as a text -/
theorem conv_one (w : World) (g c : Nat) (h : w.cell? ⟨g, 0, none⟩ = some (.int .u8 (c : Int))) :
    (convert 22 9 (.slice (some ⟨g, 0, none⟩) 1 1)).run Tryz.prog w = .ok (.string (txtL [UInt8.ofNat c])) w := by
  rw [run_convert_bytes_arg w 22 5 Tryz.underlying22 Tryz.underlying5 g 0 1 1 [(c : Int)] rfl (fun i hi => by
    obtain rfl : i = 0 := by omega
    exact h) _ Tryz.underlying9]
  rfl

theorem tdivN (a b : Nat) : (a : Int).tdiv (b : Int) = ((a / b : Nat) : Int) := by rw [Int.tdiv_eq_ediv_of_nonneg (by omega)]; simp

theorem tmodN (a b : Nat) : (a : Int).tmod (b : Int) = ((a % b : Nat) : Int) := by rw [Int.tmod_eq_emod_of_nonneg (by omega)]; simp

def byteObj (c : Nat) : Obj := .cells #[.int .u8 (c : Int)] 5

theorem byteObj_cell (w : World) (c : Nat) : (w.alloc (byteObj c)).cell? ⟨w.heap.size, 0, none⟩ = some (.int .u8 (c : Int)) := by
  unfold World.cell?
  rw [show (w.alloc (byteObj c)).heap = w.heap.push (byteObj c) from rfl]
  simp [byteObj]

end Go.Proofs.YtckkgjgfjnfeoaaGreatDoor
