/- Contracts of the program's CodeOf, countOnes and OnesUpTo. Contracts of the program's CodeOf, countOnes and OnesUpTo, continued. -/
import Derived.Test.YtckkgjgfjnfeoaaDoorGWord
import Derived.Laws.BytesArg
import Derived.Lib.Bytealg
import Derived.Lib.Strings
import Derived.Lib.Slices
import Derived.Lib.Walk
set_option linter.unusedVariables false
namespace Go.Proofs.YtckkgjgfjnfeoaaDoor
set_option maxRecDepth 4000
open Go.ChangeShapes Go.WideShapes Go.ChangeAt Go.RowKit Go.Joins

theorem infoByte : (Tryd.prog.info? 5).map (fun i => (i.zero, i.size, i.bytes)) = some (some (.int .u8 0), 1, 1) := by kernel_rfl

/-- block g holds the cells cur of bytes -/
def RowB (w : World) (g : Nat) (cur : Array Value) : Prop := w.heap[g]? = some (.cells cur 5 (0, 0))

theorem RowB.cell {w : World} {g : Nat} {cur : Array Value} (h : RowB w g cur) (i : Nat) : w.cell? ⟨g, i, none⟩ = cur[i]? := by unfold RowB at h; simp [World.cell?, h]

theorem RowB.free {w : World} {g : Nat} {cur : Array Value} (h : RowB w g cur) (i : Nat) : w.frozen? ⟨g, i, none⟩ = false := by unfold RowB at h; simp [World.frozen?, h]

theorem RowB.lt {w : World} {g : Nat} {cur : Array Value} (h : RowB w g cur) : g < w.heap.size := by unfold RowB at h; exact (Array.getElem?_eq_some_iff.1 h).1

theorem RowB.below {w w' : World} {g B : Nat} {cur : Array Value} (h : RowB w g cur) (hb : Below B w w') (hg : g < B) : RowB w' g cur := by unfold RowB at *; rw [hb.block g hg]; exact h

theorem RowB.set {w : World} {g : Nat} {cur : Array Value} (h : RowB w g cur) (i : Nat) (v : Value) : RowB (w.setCell ⟨g, i, none⟩ v) g (cur.setIfInBounds i v) := by
  unfold RowB at *
  simp [World.setCell, Array.getElem?_modify, h]

theorem RowB.of_own {w : World} {g b n cap : Nat} {xs : List Value} (h : w.ownsRow b 5 1 (.slice (some ⟨g, 0, none⟩) n cap) n xs) : ∃ cur, RowB w g cur ∧ cur.size = cap ∧ n ≤ cap := by
  obtain ⟨_, h⟩ := h
  rcases h with ⟨h, _⟩ | ⟨g', cap', cur, hv, hb, hg, hn, hm, hs, ht⟩
  · cases h
  · injection hv with h1 h2 h3
    injection h1 with h1
    injection h1 with h1
    subst h1 h3
    exact ⟨cur, hg, by omega, hn⟩

def bI (b : Bool) : Int := if b then 49 else 48

theorem str_bits (u : List Bool) : strOfNums (u.map bI) = txtB u := by
  unfold strOfNums txtB
  congr 2
  rw [List.map_map]
  refine List.map_congr_left fun b _ => ?_
  cases b <;> rfl

theorem conv_bits (w : World) (g m : Nat) (u : List Bool) (cur : Array Value) (hu : u.length = m) (hr : RowB w g cur) (hc : ∀ i, i < m → cur[i]? = some (.int .u8 (bI (u.getD i false)))) :
    (convert 22 9 (.slice (some ⟨g, 0, none⟩) m m)).run Tryd.prog w = .ok (.string (txtB u)) w := by
  rw [run_convert_bytes_arg w 22 5 Tryd.underlying22 Tryd.underlying5 g 0 m m (u.map bI) (by simp [hu]) (fun i hi => by
    rw [Nat.zero_add, hr.cell, hc i hi]
    simp [List.getD_eq_getElem?_getD, List.getElem?_map, List.getElem?_eq_getElem (show i < u.length by omega)]) _ Tryd.underlying9, str_bits]

def ptN (n s a : Nat) : Nat := a * s % n

theorem pt_next {n s a : Nat} (h0 : 0 < n) (hs : s ≤ n) : ptN n s (a + 1) = if n ≤ ptN n s a + s then ptN n s a + s - n else ptN n s a + s := mod_next h0 hs

theorem let_pt (n s a : Nat) : letN n s a = decide (n ≤ ptN n s a + s) := rfl

end Go.Proofs.YtckkgjgfjnfeoaaDoor

set_option linter.unusedVariables false
namespace Go.Proofs.YtckkgjgfjnfeoaaDoor
open Go.ChangeShapes Go.WideShapes Go.ChangeAt Go.RowKit Go.Joins

theorem tokN_nat {n s : Int} (h : tok n s = true) : tokN n.toNat s.toNat = true := by
  obtain ⟨N, S, rfl, rfl, h'⟩ := tokN_of h
  exact h'

theorem count_txt (u : List Bool) : Lib.countByte (txtB u).data.toList 49 = u.count true := by
  have e : (txtB u).data.toList = u.map byteB := by simp [txtB]
  rw [e]
  clear e
  unfold Lib.countByte
  induction u with
  | nil => rfl
  | cons b r ih =>
    rw [List.map_cons, List.count_cons, List.count_cons, ih]
    cases b <;> rfl

end Go.Proofs.YtckkgjgfjnfeoaaDoor
