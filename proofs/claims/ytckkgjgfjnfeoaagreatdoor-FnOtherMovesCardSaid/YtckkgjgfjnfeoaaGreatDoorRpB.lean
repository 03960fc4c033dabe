/- The library's Replacer of single bytes: the table that it builds. -/
import Derived.Test.YtckkgjgfjnfeoaaGreatDoorTrM
import Derived.Test.YtckkgjgfjnfeoaaGreatDoorOnce
set_option linter.unusedVariables false
namespace Go.Proofs.YtckkgjgfjnfeoaaGreatDoor
set_option maxRecDepth 4000

set_option maxRecDepth 4000
open Go.ChangeShapes Go.WideShapes Go.ChangeAt Go.RowKit Go.Joins Go.Shelf

theorem infoTab : (Tryz.prog.info? 93).map (fun i => (i.zero, i.size)) = some (some (.agg (Array.replicate 256 (.int .u8 0))), 256) := by kernel_rfl

/-- block g holds 256 bytes -/
def RowT (w : World) (g : Nat) (cur : Array Value) : Prop := w.heap[g]? = some (.cells cur 93 (0, 0))

theorem RowT.cell {w : World} {g : Nat} {cur : Array Value} (h : RowT w g cur) (i : Nat) : w.cell? ⟨g, i, none⟩ = cur[i]? := by unfold RowT at h; simp [World.cell?, h]

theorem RowT.free {w : World} {g : Nat} {cur : Array Value} (h : RowT w g cur) (i : Nat) : w.frozen? ⟨g, i, none⟩ = false := by unfold RowT at h; simp [World.frozen?, h]

theorem RowT.lt {w : World} {g : Nat} {cur : Array Value} (h : RowT w g cur) : g < w.heap.size := by unfold RowT at h; exact (Array.getElem?_eq_some_iff.1 h).1

theorem RowT.set {w : World} {g : Nat} {cur : Array Value} (h : RowT w g cur) (i : Nat) (v : Value) : RowT (w.setCell ⟨g, i, none⟩ v) g (cur.setIfInBounds i v) := by
  unfold RowT at *
  simp [World.setCell, Array.getElem?_modify, h]

theorem RowT.below {w w' : World} {g B : Nat} {cur : Array Value} (h : RowT w g cur) (hb : Below B w w') (hg : g < B) : RowT w' g cur := by unfold RowT at *; rw [hb.block g hg]; exact h

/-- both letters exchanged -/
def swB (j : Nat) : Nat := if j = 76 then 82 else if j = 82 then 76 else j

/-- the table as it comes to be, in three steps -/
def stB (s j : Nat) : Nat := if s = 0 then j else if s = 1 then (if j = 82 then 76 else j) else swB j

theorem stB_one (j : Nat) : stB 1 j = if j = 82 then 76 else stB 0 j := by unfold stB; simp

theorem stB_two (j : Nat) : stB 2 j = if j = 76 then 82 else stB 1 j := by unfold stB swB; simp

def TabAt (w : World) (g : Nat) : Prop := ∃ cur, RowT w g cur ∧ cur.size = 256 ∧ ∀ j, j < 256 → cur[j]? = some (.int .u8 (swB j : Nat))

set_option maxHeartbeats 4000000 in
theorem build_any (b q cap : Nat) (w : World) (h4 : w.cell? ⟨b, 4, none⟩ = some (.slice (some ⟨q, 0, none⟩) 4 cap))
    (c0 : w.cell? ⟨q, 0, none⟩ = some (.string ⟨#[76]⟩)) (c1 : w.cell? ⟨q, 1, none⟩ = some (.string ⟨#[82]⟩)) (c2 : w.cell? ⟨q, 2, none⟩ = some (.string ⟨#[82]⟩)) (c3 : w.cell? ⟨q, 3, none⟩ = some (.string ⟨#[76]⟩)) :
    Calls Tryz.prog 49 #[.pointer (some ⟨b, 0, none⟩)] w fun e w' => ∃ g, e = .returned (.iface 94 (.pointer (some ⟨g, 0, none⟩))) ∧ w.heap.size ≤ g ∧ TabAt w' g ∧ Below w.heap.size w w' := by
  go_enter Tryz.func49, Tryz.ntmps49
  go_wp2_with fail
  go_loopw [4, 5] (fun x y wr => x = .bool true ∧ wr = w ∧ ∃ i : Nat, y = .int .i64 (2 * i : Nat) ∧ i ≤ 2) (fun _ y _ => 4 - (intOf y).toNat)
  case atStart => exact ⟨rfl, rfl, 0, rfl, by omega⟩
  case round =>
    obtain ⟨rfl, rfl, i, rfl, hi⟩ := hrel
    match i, hi with
    | 0, _ =>
      go_wp2_with fail
      go_roundw
      case rel => exact ⟨by trivial, by trivial, 1, rfl, by omega⟩
      case measure => simp only [intOf]; omega
    | 1, _ =>
      go_wp2_with fail
      go_roundw
      case rel => exact ⟨by trivial, by trivial, 2, rfl, by omega⟩
      case measure => simp only [intOf]; omega
    | 2, _ =>
      obtain ⟨w0, rfl⟩ : ∃ w0, w0 = wr := ⟨_, rfl⟩
      go_wp2_with fail
      rw [show Tryz.zeroCells93 = Array.replicate 256 (.int .u8 0) from by kernel_rfl]
      have hsc : (storeCells ⟨w0.heap.size, 0, none⟩ (Array.replicate 256 (Value.int .u8 0)).toList 0).run Tryz.prog (w0.alloc (.cells (Array.replicate 256 (.int .u8 0)) 93)) = .ok () (w0.alloc (.cells (Array.replicate 256 (.int .u8 0)) 93)) := by
        have := run_storeCells_new (P := Tryz.prog) w0 93 (Array.replicate 256 (.int .u8 0)) (Array.replicate 256 (.int .u8 0)) (by rw [Array.size_replicate]; exact (zero_of_info infoTab).2) rfl (by kernel_rfl)
        simpa using this
      rw [hsc]
      simp only [Result.andThen]
      rw [Oper.upon_skip]
      have r0 : RowT (w0.alloc (.cells (Array.replicate 256 (.int .u8 0)) 93)) w0.heap.size (Array.replicate 256 (.int .u8 0)) := heap_alloc_new w0 _
      have hB0 : Below w0.heap.size w0 (w0.alloc (.cells (Array.replicate 256 (.int .u8 0)) 93)) := (by repeat (first | exact Below.refl _ _ | assumption | (refine Below.trans ?_ (Below.mono (by assumption) (by first | omega | (simp <;> omega)))) | (refine Below.alloc ?_ (by first | omega | (simp <;> omega)) _) | (refine below_drewN ?_ _) | (refine Below.drew ?_) | (refine Below.setCell ?_ (by first | omega | (simp <;> omega)) _)))
      clear hsc
      go_wp2_with fail
      generalize w0.alloc (.cells (Array.replicate 256 (.int .u8 0)) 93) = W0 at *
      go_loopw [61] (fun x wq => ∃ (i : Nat) (c : Array Value), x = .int .i64 i ∧ i ≤ 256 ∧ RowT wq w0.heap.size c ∧ c.size = 256 ∧ Hid (∀ j, j < 256 → c[j]? = some (.int .u8 ((if j < i then j else 0 : Nat) : Int))) ∧ Below w0.heap.size w0 wq) (fun x _ => 256 - (intOf x).toNat)
      case atStart => exact ⟨0, _, rfl, by omega, r0, by simp, fun j hj => by simp [hj], hB0⟩
      case round =>
        obtain ⟨i, c, rfl, hi, hr, hs, hd, hB⟩ := hrel
        clear r0 hB0
        by_cases hin : i < 256
        · have hin' : (i : Int) < 256 := by omega
          have ci := hr.cell i
          rw [hd.out i hin] at ci
          have fi := hr.free i
          have hwu : IntKind.u8.wrap (i : Int) = (i : Int) := IntWalk.u8_in _ (by omega)
          have hwi : IntKind.i64.wrap ((i : Int) + 1) = (i : Int) + 1 := IntWalk.i64_in _ (by omega)
          have r2 := hr.set i (.int .u8 (i : Int))
          have hB2 := hB.setCell (p := ⟨w0.heap.size, i, none⟩) (Nat.le_refl _) (.int .u8 (i : Int))
          have HS := Lib.hid hs
          clear hs
          go_wp2_with fail
          go_roundw
          case rel =>
            refine ⟨i + 1, _, by go_num, by omega, r2, by simp [HS.out], fun j hj => ?_, hB2⟩
            rw [Array.getElem?_setIfInBounds]
            by_cases e : i = j
            · subst e
              rw [if_pos rfl, if_pos (by rw [HS.out]; exact hin), if_pos (by omega)]
            · rw [if_neg e, hd.out j hj]
              by_cases e2 : j < i
              · rw [if_pos e2, if_pos (by omega)]
              · rw [if_neg e2, if_neg (by omega)]
          case measure => simp only [intOf]; omega
        · obtain rfl : i = 256 := by omega
          have hin' : ¬ ((256 : Nat) : Int) < 256 := by omega
          go_wp2_with fail
          have hd2 : Hid (∀ j, j < 256 → c[j]? = some (.int .u8 ((stB 0 j : Nat) : Int))) := fun j hj => by rw [hd.out j hj, if_pos hj]; rfl
          have l1 := World.block_lt_of_cell? w0 _ c0
          clear hd
          go_loopw [8] (fun x wr => ∃ (s : Nat) (c : Array Value), x = .int .i64 (2 - 2 * (s : Int)) ∧ s ≤ 2 ∧ RowT wr w0.heap.size c ∧ c.size = 256 ∧ Hid (∀ j, j < 256 → c[j]? = some (.int .u8 ((stB s j : Nat) : Int))) ∧ Below w0.heap.size w0 wr) (fun x _ => (intOf x + 4).toNat)
          case atStart => exact ⟨0, c, rfl, by omega, hr, hs, hd2.out, hB⟩
          case round =>
            obtain ⟨s, c', rfl, hs2, hr3, hs3, hd3, hB3⟩ := hrel
            have k0 := (hB3.cell (p := ⟨q, 0, none⟩) l1).trans c0
            have k1 := (hB3.cell (p := ⟨q, 1, none⟩) l1).trans c1
            have k2 := (hB3.cell (p := ⟨q, 2, none⟩) l1).trans c2
            have k3 := (hB3.cell (p := ⟨q, 3, none⟩) l1).trans c3
            clear hr hs hd2 hB
            have e82 : ((⟨#[82]⟩ : ByteArray)[0]'(by decide)).toNat = 82 := rfl
            have e76 : ((⟨#[76]⟩ : ByteArray)[0]'(by decide)).toNat = 76 := rfl
            match s, hs2 with
            | 0, _ =>
              rw [show (2 - 2 * ((0 : Nat) : Int)) = 2 from rfl]
              have b82 := k2
              have b76 := k3
              have cX := hr3.cell 82
              rw [hd3.out 82 (by omega)] at cX
              have fX := hr3.free 82
              have r4 := hr3.set 82 (.int .u8 76)
              have hB4 := hB3.setCell (p := ⟨w0.heap.size, 82, none⟩) (Nat.le_refl _) (.int .u8 76)
              have HS3 := Lib.hid hs3
              clear hs3
              go_wp2_with fail
              go_roundw
              case rel =>
                refine ⟨1, _, rfl, by omega, r4, by simp [HS3.out], fun j hj => ?_, hB4⟩
                rw [Array.getElem?_setIfInBounds, stB_one]
                by_cases e : 82 = j
                · subst e
                  rw [if_pos rfl, if_pos (by rw [HS3.out]; omega), if_pos rfl]; rfl
                · rw [if_neg e, if_neg (Ne.symm e)]
                  exact hd3.out j hj
              case measure => simp only [intOf]; omega
            | 1, _ =>
              rw [show (2 - 2 * ((1 : Nat) : Int)) = 0 from rfl]
              have b76 := k0
              have b82 := k1
              have cX := hr3.cell 76
              rw [hd3.out 76 (by omega)] at cX
              have fX := hr3.free 76
              have r4 := hr3.set 76 (.int .u8 82)
              have hB4 := hB3.setCell (p := ⟨w0.heap.size, 76, none⟩) (Nat.le_refl _) (.int .u8 82)
              have HS3 := Lib.hid hs3
              clear hs3
              go_wp2_with fail
              go_roundw
              case rel =>
                refine ⟨2, _, rfl, by omega, r4, by simp [HS3.out], fun j hj => ?_, hB4⟩
                rw [Array.getElem?_setIfInBounds, stB_two]
                by_cases e : 76 = j
                · subst e
                  rw [if_pos rfl, if_pos (by rw [HS3.out]; omega), if_pos rfl]; rfl
                · rw [if_neg e, if_neg (Ne.symm e)]
                  exact hd3.out j hj
              case measure => simp only [intOf]; omega
            | 2, _ =>
              rw [show (2 - 2 * ((2 : Nat) : Int)) = -2 from rfl]
              go_wp2
              go_ret
              exact ⟨_, rfl, Nat.le_refl _, ⟨c', hr3, hs3, hd3.out⟩, hB3⟩
end Go.Proofs.YtckkgjgfjnfeoaaGreatDoor
