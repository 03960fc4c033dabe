/- The library's Replacer of single bytes: a text through its table. -/
import Derived.Test.YtckkgjgfjnfeoaaGreatDoorRpB
import Derived.Test.YtckkgjgfjnfeoaaGreatDoorMvB
import Derived.Lib.SliceRun
set_option linter.unusedVariables false
namespace Go.Proofs.YtckkgjgfjnfeoaaGreatDoor
set_option maxRecDepth 4000

set_option maxRecDepth 4000
open Go.ChangeShapes Go.WideShapes Go.ChangeAt Go.RowKit Go.Joins Go.Shelf

theorem TabAt.cells {w : World} {g : Nat} (h : TabAt w g) : w.cell? ⟨g, 76, none⟩ = some (.int .u8 82) ∧ w.cell? ⟨g, 82, none⟩ = some (.int .u8 76) ∧ g < w.heap.size := by
  obtain ⟨c, hr, hs, hc⟩ := h
  have h1 := hr.cell 76
  have h2 := hr.cell 82
  rw [hc 76 (by omega)] at h1
  rw [hc 82 (by omega)] at h2
  exact ⟨h1, h2, hr.lt⟩

/-- the first i letters exchanged -/
def swA (v : List Bool) (i j : Nat) : UInt8 := if j < i then byteM (!(v.getD j false)) else byteM (v.getD j false)

theorem swA_next (v : List Bool) (i j : Nat) : swA v (i + 1) j = if j = i then byteM (!(v.getD i false)) else swA v i j := by
  unfold swA
  by_cases e : j = i
  · subst e; rw [if_pos (by omega), if_pos rfl]
  · rw [if_neg e]
    by_cases h : j < i
    · rw [if_pos h, if_pos (by omega)]
    · rw [if_neg h, if_neg (by omega)]

theorem row_step {v : List Bool} {n i : Nat} {c : Array Value} {x : Value} (hx : x = byteW (byteM (!(v.getD i false)))) (hi : i < n) (hs : n ≤ c.size) (hd : ∀ j, j < n → c[j]? = some (byteW (swA v i j))) :
    ∀ j, j < n → (c.setIfInBounds i x)[j]? = some (byteW (swA v (i + 1) j)) := by
  intro j hj
  rw [Array.getElem?_setIfInBounds, swA_next]
  by_cases e : i = j
  · subst e
    rw [if_pos rfl, if_pos (by omega), if_pos rfl, hx]
  · rw [if_neg e, if_neg (Ne.symm e)]
    exact hd j hj

set_option maxHeartbeats 4000000 in
theorem tabReplace_any (g : Nat) (v : List Bool) (w : World) (hT : TabAt w g) (hv : v.length ≤ 58) :
    Calls Tryz.prog 122 #[.pointer (some ⟨g, 0, none⟩), .string (txtM v)] w fun e w' => e = .returned (.string (txtM (v.map (!·)))) ∧ Below w.heap.size w w' := by
  obtain ⟨t1, t2, hg⟩ := hT.cells
  have qT : ∀ (w : World) (a : Option Addr) (n c n' c' : Nat), (binOp .eql 22 (.slice a n c) (.slice none n' c')).run Tryz.prog w = .ok (.bool a.isNone) w := fun w a n c n' c' => Lib.run_eql_slice_nil w _ _ a n c n' c' Tryz.underlying22
  have hsz := txtM_size v
  have HG : Hid (∀ k (h : k < (txtM v).size), (txtM v)[k].toNat = if v.getD k false = true then 82 else 76) := fun k h => by have := mv_bytes v h; split at this <;> rename_i e <;> simp only [e] <;> simp <;> omega
  have HC := Lib.hid (fun w => conv_str w (v.map byteM))
  have HR := Lib.hid (fun w => row_str w (v.map byteM))
  have HX : Hid (txtL (v.map byteM) = txtM v) := rfl
  have HL : Hid ((v.map byteM).length = v.length) := List.length_map _
  have HA0 : Hid (∀ j, j < v.length → (v.map byteM).getD j 0 = swA v 0 j) := fun j hj => by
    unfold swA
    rw [if_neg (by omega), List.getD_eq_getElem?_getD, List.getElem?_map, List.getElem?_eq_getElem hj, List.getD_eq_getElem?_getD, List.getElem?_eq_getElem hj]; rfl
  obtain ⟨n, hn⟩ : ∃ n, v.length = n := ⟨_, rfl⟩
  have HN := Lib.hid hn
  have HE : Hid (∀ c : Array Value, (∀ j, j < n → c[j]? = some (byteW (swA v n j))) → ∀ i, i < n → c[i]? = some (byteW (((v.map (!·)).map byteM).getD i 0))) := fun c h i hi => by
    rw [h i hi]
    congr 1
    unfold swA
    rw [if_pos hi, List.getD_eq_getElem?_getD, List.getD_eq_getElem?_getD, List.getElem?_map, List.getElem?_map, List.getElem?_eq_getElem (by omega)]; rfl
  have HM : Hid (((v.map (!·)).map byteM).length = n) := by show _ = _; rw [List.length_map, List.length_map]; exact hn
  have HEq : Hid (txtL ((v.map (!·)).map byteM) = txtM (v.map (!·))) := rfl
  have HE0 : Hid (n = 0 → txtM v = txtM (v.map (!·))) := fun h => by
    have : v = [] := List.length_eq_zero_iff.1 (by omega)
    subst this; rfl
  generalize txtM (v.map (!·)) = R at *
  rw [hn] at hsz hv HL HA0
  generalize txtM v = U at *
  clear hn
  go_enter Tryz.func122, Tryz.ntmps122
  go_wp2_with fail
  go_loopw [5, 6] (fun y x wr => ∃ (i : Nat) (v0 : Value), v0 = y ∧ x = .int .i64 i ∧ i ≤ n ∧ Below w.heap.size w wr ∧ ((i = 0 ∧ v0 = .slice none 0 0 ∧ wr = w) ∨ (1 ≤ i ∧ ∃ cap c, v0 = .slice (some ⟨w.heap.size, 0, none⟩) n cap ∧ RowF wr w.heap.size c ∧ n ≤ c.size ∧ Hid (∀ j, j < n → c[j]? = some (byteW (swA v i j)))))) (fun _ x _ => n - (intOf x).toNat)
  case atStart => exact ⟨0, _, rfl, rfl, by omega, Below.refl _ _, .inl ⟨rfl, rfl, rfl⟩⟩
  case round =>
    obtain ⟨i, v0, rfl, rfl, hi, hB, h⟩ := hrel
    rcases h with ⟨rfl, rfl, rfl⟩ | ⟨hi1, cap, c, rfl, hr, hsz2, hd⟩
    · by_cases h0n : 0 < n
      · have h0U : (0 : Int) < U.size := by omega
        have hb := HG.out 0 (by omega)
        have hcv := HC.out wr
        obtain ⟨c, hr, hsz2, hcc⟩ := HR.out wr
        rw [HX.out] at hcv hr
        rw [HL.out] at hcv hsz2 hcc
        have hd : Hid (∀ j, j < n → c[j]? = some (byteW (swA v 0 j))) := fun j hj => by rw [hcc j hj, HA0.out j hj]
        have hB2 : Below wr.heap.size wr (Lib.bytesWorld wr 5 U) := ⟨rfl, rfl, rfl, by rw [Lib.bytesWorld_size]; omega, fun j hj => Lib.bytesWorld_at_old _ _ _ _ hj⟩
        have s1 := (hB2.cell (p := ⟨g, 76, none⟩) hg).trans t1
        have s2 := (hB2.cell (p := ⟨g, 82, none⟩) hg).trans t2
        have k0 := hr.cell 0
        rw [hd.out 0 h0n] at k0
        have kf := hr.free 0 (by omega)
        obtain ⟨X, hX⟩ : ∃ X, swA v 0 0 = X := ⟨_, rfl⟩
        rw [hX] at k0
        have e0 : (0 : Int) < (n : Int) := by omega
        generalize Lib.bytesWorld wr 5 U = W2 at *
        generalize grownCap wr n 0 5 = cap at *
        clear hX hcc
        cases hx : v.getD 0 false with
          | false =>
            rw [hx] at hb
            have hb1 : U[0].toNat = 76 := hb
            have hb2 : ((82 : Int) != 76) = true := rfl
            have ks := hr.set 0 (.int .u8 82)
            have hst := Lib.hid (row_step (v := v) (x := .int .u8 82) (by rw [hx]; rfl) h0n hsz2 hd.out)
            have hB4 := hB2.setCell (p := ⟨wr.heap.size, 0, none⟩) (Nat.le_refl _) (.int .u8 82)
            have hz4 : n ≤ (c.setIfInBounds 0 (.int .u8 82)).size := by rw [Array.size_setIfInBounds]; exact hsz2
            clear hb hx hr hd hsz2 hB2
            go_wp2_with fail
            go_roundw
            case rel => exact ⟨1, _, rfl, by go_num, by omega, hB4, .inr ⟨by omega, _, _, rfl, ks, hz4, hst.out⟩⟩
            case measure => simp only [intOf]; omega
          | true =>
            rw [hx] at hb
            have hb1 : U[0].toNat = 82 := hb
            have hb2 : ((76 : Int) != 82) = true := rfl
            have ks := hr.set 0 (.int .u8 76)
            have hst := Lib.hid (row_step (v := v) (x := .int .u8 76) (by rw [hx]; rfl) h0n hsz2 hd.out)
            have hB4 := hB2.setCell (p := ⟨wr.heap.size, 0, none⟩) (Nat.le_refl _) (.int .u8 76)
            have hz4 : n ≤ (c.setIfInBounds 0 (.int .u8 76)).size := by rw [Array.size_setIfInBounds]; exact hsz2
            clear hb hx hr hd hsz2 hB2
            go_wp2_with fail
            go_roundw
            case rel => exact ⟨1, _, rfl, by go_num, by omega, hB4, .inr ⟨by omega, _, _, rfl, ks, hz4, hst.out⟩⟩
            case measure => simp only [intOf]; omega
      · have h0 : n = 0 := by omega
        have h0U : ¬ (0 : Int) < U.size := by omega
        have h0V : ¬ (0 : Int) < (n : Int) := by omega
        have hE := Lib.hid (HE0.out h0)
        clear h0
        go_wp2
        go_ret
        exact ⟨by rw [← hE.out]; rfl, Below.refl _ _⟩
    · by_cases hin : i < n
      · have hin' : (i : Int) < U.size := by omega
        have hin2 : (i : Int) < n := by omega
        have hb := HG.out i (by omega)
        have s1 := (hB.cell (p := ⟨g, 76, none⟩) hg).trans t1
        have s2 := (hB.cell (p := ⟨g, 82, none⟩) hg).trans t2
        have k0 := hr.cell i
        rw [hd.out i hin] at k0
        have kf := hr.free i (by omega)
        have hwi : IntKind.i64.wrap ((i : Int) + 1) = (i : Int) + 1 := IntWalk.i64_in _ (by omega)
        generalize swA v i i = X at *
        cases hx : v.getD i false with
        | false =>
          rw [hx] at hb
          have hb1 : U[i].toNat = 76 := hb
          have hb2 : ((82 : Int) != 76) = true := rfl
          have ks := hr.set i (.int .u8 82)
          have hst := Lib.hid (row_step (v := v) (x := .int .u8 82) (by rw [hx]; rfl) hin hsz2 hd.out)
          have hB4 := hB.setCell (p := ⟨w.heap.size, i, none⟩) (Nat.le_refl _) (.int .u8 82)
          have hz4 : n ≤ (c.setIfInBounds i (.int .u8 82)).size := by rw [Array.size_setIfInBounds]; exact hsz2
          clear hb hx hr hd hsz2 hB
          go_wp2_with fail
          go_roundw
          case rel => exact ⟨i + 1, _, rfl, by go_num, by omega, hB4, .inr ⟨by omega, _, _, rfl, ks, hz4, hst.out⟩⟩
          case measure => simp only [intOf]; omega
        | true =>
          rw [hx] at hb
          have hb1 : U[i].toNat = 82 := hb
          have hb2 : ((76 : Int) != 82) = true := rfl
          have ks := hr.set i (.int .u8 76)
          have hst := Lib.hid (row_step (v := v) (x := .int .u8 76) (by rw [hx]; rfl) hin hsz2 hd.out)
          have hB4 := hB.setCell (p := ⟨w.heap.size, i, none⟩) (Nat.le_refl _) (.int .u8 76)
          have hz4 : n ≤ (c.setIfInBounds i (.int .u8 76)).size := by rw [Array.size_setIfInBounds]; exact hsz2
          clear hb hx hr hd hsz2 hB
          go_wp2_with fail
          go_roundw
          case rel => exact ⟨i + 1, _, rfl, by go_num, by omega, hB4, .inr ⟨by omega, _, _, rfl, ks, hz4, hst.out⟩⟩
          case measure => simp only [intOf]; omega
      · obtain rfl : i = n := by omega
        have hin' : decide ((i : Int) < U.size) = false := by simp; omega
        have hin2 : ¬ (i : Int) < U.size := by omega
        have hcv := conv_row wr w.heap.size i cap c ((v.map (!·)).map byteM) HM.out hr (HE.out c hd.out)
        rw [HEq.out] at hcv
        clear hr hd
        go_wp2
        go_ret
        exact ⟨rfl, hB⟩
end Go.Proofs.YtckkgjgfjnfeoaaGreatDoor
