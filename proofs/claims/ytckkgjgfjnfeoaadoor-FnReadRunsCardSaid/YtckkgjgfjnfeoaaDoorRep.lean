/- The library's Repeat, by its contract, at the program's numbers. -/
import Derived.Test.YtckkgjgfjnfeoaaDoorGMov
import Derived.Test.YtckkgjgfjnfeoaaDoorOne
import Derived.Shelf.Strings.Repeat
set_option linter.unusedVariables false
namespace Go.Proofs.YtckkgjgfjnfeoaaDoor
set_option maxRecDepth 4000

set_option maxRecDepth 100000
open Go.ChangeShapes Go.WideShapes Go.ChangeAt Go.RowKit Go.Joins Go.Shelf

def rhoR : Ren := { f := fun x => if x = 99 then 83 else if x = 105 then 72 else if x = 165 then 84 else if x = 166 then 85 else if x = 169 then 87 else if x = 170 then 86 else if x = 206 then 102 else if x = 212 then 82 else if x = 240 then 103 else if x = 241 then 104 else if x = 263 then 100 else if x = 264 then 101 else if x = 276 then 121 else if x = 277 then 122 else x, t := fun x => if x = 0 then 0 else if x = 3 then 3 else if x = 4 then 4 else if x = 5 then 5 else if x = 9 then 9 else if x = 20 then 20 else if x = 37 then 22 else if x = 46 then 104 else if x = 51 then 86 else if x = 53 then 123 else if x = 70 then 108 else if x = 72 then 110 else if x = 75 then 113 else if x = 76 then 114 else if x = 80 then 59 else if x = 109 then 105 else if x = 127 then 132 else if x = 146 then 128 else if x = 148 then 130 else if x = 164 then 158 else x, g := fun x => x }

theorem laysR : Lays.n105 Tryd.prog rhoR :=
  { mixed := by kernel_rfl
    f99 := by kernel_rfl
    f105 := by kernel_rfl
    f165 := by kernel_rfl
    f166 := by kernel_rfl
    f169 := by kernel_rfl
    f170 := by kernel_rfl
    f206 := by kernel_rfl
    f212 := by kernel_rfl
    f240 := by kernel_rfl
    f241 := by kernel_rfl
    f263 := by kernel_rfl
    f264 := by kernel_rfl
    f276 := by kernel_rfl
    f277 := by kernel_rfl
    t0 := by kernel_rfl
    a0 := fun w => by kernel_rfl
    z0 := fun w => by kernel_rfl
    v0 := fun w => by kernel_rfl
    t3 := by kernel_rfl
    a3 := fun w => by kernel_rfl
    z3 := fun w => by kernel_rfl
    v3 := fun w => by kernel_rfl
    t4 := by kernel_rfl
    a4 := fun w => by kernel_rfl
    z4 := fun w => by kernel_rfl
    v4 := fun w => by kernel_rfl
    t5 := by kernel_rfl
    a5 := fun w => by kernel_rfl
    z5 := fun w => by kernel_rfl
    v5 := fun w => by kernel_rfl
    t9 := by kernel_rfl
    a9 := fun w => by kernel_rfl
    z9 := fun w => by kernel_rfl
    v9 := fun w => by kernel_rfl
    t20 := by kernel_rfl
    a20 := fun w => by kernel_rfl
    z20 := fun w => by kernel_rfl
    v20 := fun w => by kernel_rfl
    t37 := by kernel_rfl
    a37 := fun w => by kernel_rfl
    z37 := fun w => by kernel_rfl
    v37 := fun w => by kernel_rfl
    t46 := by kernel_rfl
    a46 := fun w => by kernel_rfl
    z46 := fun w => by kernel_rfl
    v46 := fun w => by kernel_rfl
    t51 := by kernel_rfl
    a51 := fun w => by kernel_rfl
    z51 := fun w => by kernel_rfl
    v51 := fun w => by kernel_rfl
    t53 := by kernel_rfl
    a53 := fun w => by kernel_rfl
    z53 := fun w => by kernel_rfl
    v53 := fun w => by kernel_rfl
    t70 := by kernel_rfl
    a70 := fun w => by kernel_rfl
    z70 := fun w => by kernel_rfl
    v70 := fun w => by kernel_rfl
    t72 := by kernel_rfl
    a72 := fun w => by kernel_rfl
    z72 := fun w => by kernel_rfl
    v72 := fun w => by kernel_rfl
    t75 := by kernel_rfl
    a75 := fun w => by kernel_rfl
    z75 := fun w => by kernel_rfl
    v75 := fun w => by kernel_rfl
    t76 := by kernel_rfl
    a76 := fun w => by kernel_rfl
    z76 := fun w => by kernel_rfl
    v76 := fun w => by kernel_rfl
    t109 := by kernel_rfl
    a109 := fun w => by kernel_rfl
    z109 := fun w => by kernel_rfl
    v109 := fun w => by kernel_rfl
    t127 := by kernel_rfl
    a127 := fun w => by kernel_rfl
    z127 := fun w => by kernel_rfl
    v127 := fun w => by kernel_rfl
    t146 := by kernel_rfl
    a146 := fun w => by kernel_rfl
    z146 := fun w => by kernel_rfl
    v146 := fun w => by kernel_rfl
    t148 := by kernel_rfl
    a148 := fun w => by kernel_rfl
    z148 := fun w => by kernel_rfl
    v148 := fun w => by kernel_rfl
    t164 := by kernel_rfl
    a164 := fun w => by kernel_rfl
    z164 := fun w => by kernel_rfl
    v164 := fun w => by kernel_rfl }

theorem extraR : Builder.Extra Tryd.prog rhoR where
  sizeBuilder := by kernel_rfl
  liesBuilder := by kernel_rfl
  t5 := laysR.t5
  a5 := laysR.a5
  z5 := laysR.z5
  v5 := laysR.v5
  infoByte := by kernel_rfl
  cellsByte := by kernel_rfl
  sizeByte := by kernel_rfl
  neB5 := by decide

/-- so many equal bytes -/
theorem repeat_any (c : UInt8) (m : Nat) (w : World) (hm : m ≤ 1000) :
    Calls Tryd.prog 72 #[.string (txtL [c]), .int .i64 m] w fun e w' => e = .returned (.string (txtL (List.replicate m c))) ∧ Below w.heap.size w w' := by
  have h := Any.strings_Repeat laysR extraR (txtL [c]) m w (by omega) (by rw [txtL_size]; simp; omega)
  have e : Lib.repeatL (txtL [c]).data.toList m = List.replicate m c := by
    have := Lib.repeatL_replicate c 1 m
    simpa [txtL] using this
  rw [e] at h
  exact h
end Go.Proofs.YtckkgjgfjnfeoaaDoor
