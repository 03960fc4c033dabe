/- The moves from behind: a text as bytes, turned about in place, and as a text again. -/
import Derived.Test.YtckkgjgfjnfeoaaGreatDoorTrM
import Derived.Test.YtckkgjgfjnfeoaaGreatDoorMovS
import Derived.Lib.ConvBytes
import Derived.Laws.BytesArg
set_option linter.unusedVariables false
namespace Go.Proofs.YtckkgjgfjnfeoaaGreatDoor
set_option maxRecDepth 4000

set_option maxRecDepth 4000
open Go.ChangeShapes Go.WideShapes Go.ChangeAt Go.RowKit Go.Joins

abbrev byteW (c : UInt8) : Value := .int .u8 c.toNat

/-- block g holds the cells cur of bytes, made of a text -/
def RowF (w : World) (g : Nat) (cur : Array Value) : Prop := w.heap[g]? = some (.cells cur 5 (cur.size, cur.size + 1))

theorem RowF.cell {w : World} {g : Nat} {cur : Array Value} (h : RowF w g cur) (i : Nat) : w.cell? ⟨g, i, none⟩ = cur[i]? := by unfold RowF at h; simp [World.cell?, h]

theorem RowF.free {w : World} {g : Nat} {cur : Array Value} (h : RowF w g cur) (i : Nat) (hi : i < cur.size) : w.frozen? ⟨g, i, none⟩ = false := by unfold RowF at h; simp [World.frozen?, h]; omega

theorem RowF.lt {w : World} {g : Nat} {cur : Array Value} (h : RowF w g cur) : g < w.heap.size := by unfold RowF at h; exact (Array.getElem?_eq_some_iff.1 h).1

theorem RowF.set {w : World} {g : Nat} {cur : Array Value} (h : RowF w g cur) (i : Nat) (v : Value) : RowF (w.setCell ⟨g, i, none⟩ v) g (cur.setIfInBounds i v) := by
  unfold RowF at *
  simp [World.setCell, Array.getElem?_modify, h]

theorem str_bytesW (xs : List UInt8) : strOfNums (xs.map fun c => (c.toNat : Int)) = txtL xs := by
  unfold strOfNums txtL
  congr 2
  rw [List.map_map]
  conv => rhs; rw [← List.map_id xs]
  refine List.map_congr_left fun b _ => ?_
  simp

theorem conv_row (w : World) (g n cap : Nat) (cur : Array Value) (xs : List UInt8) (hn : xs.length = n) (hr : RowF w g cur) (hc : ∀ i, i < n → cur[i]? = some (byteW (xs.getD i 0))) :
    (convert 22 9 (.slice (some ⟨g, 0, none⟩) n cap)).run Tryz.prog w = .ok (.string (txtL xs)) w := by
  rw [run_convert_bytes_arg w 22 5 Tryz.underlying22 Tryz.underlying5 g 0 n cap (xs.map fun c => (c.toNat : Int)) (by simp [hn]) (fun i hi => by
      rw [Nat.zero_add, hr.cell, hc i hi]
      simp [List.getD_eq_getElem?_getD, List.getElem?_map, List.getElem?_eq_getElem (show i < xs.length by omega), byteW]) _ Tryz.underlying9, str_bytesW]

/-- a text as bytes -/
theorem conv_str (w : World) (xs : List UInt8) :
    (convert 9 22 (.string (txtL xs))).run Tryz.prog w = .ok (.slice (some ⟨w.heap.size, 0, none⟩) xs.length (grownCap w xs.length 0 5)) (Lib.bytesWorld w 5 (txtL xs)) := by
  have h := Lib.run_convert_string_bytes (P := Tryz.prog) w 9 22 5 (txtL xs) Tryz.underlying9 Tryz.underlying22 Tryz.underlying5
  rwa [txtL_size] at h

theorem row_str (w : World) (xs : List UInt8) : ∃ cur, RowF (Lib.bytesWorld w 5 (txtL xs)) w.heap.size cur ∧ xs.length ≤ cur.size ∧ ∀ i, i < xs.length → cur[i]? = some (byteW (xs.getD i 0)) := by
  refine ⟨_, Lib.bytesWorld_at_new w 5 (txtL xs), ?_, fun i hi => ?_⟩
  · simp [Lib.bytesCells, txtL]
  · have h1 := Lib.bytesWorld_cell w 5 (txtL xs) i (by rw [txtL_size]; exact hi)
    have h2 := (show RowF (Lib.bytesWorld w 5 (txtL xs)) w.heap.size _ from Lib.bytesWorld_at_new w 5 (txtL xs)).cell i
    rw [← h2, h1]
    simp [byteW, txtL]

/-- the list with its first and last i numbers turned about -/
def revB (xs : List UInt8) (i j : Nat) : UInt8 := if j < i ∨ xs.length ≤ j + i then xs.getD (xs.length - 1 - j) 0 else xs.getD j 0

theorem revB_zero (xs : List UInt8) (j : Nat) (h : j < xs.length) : revB xs 0 j = xs.getD j 0 := by unfold revB; rw [if_neg (by omega)]

theorem revB_end (xs : List UInt8) (i j : Nat) (h : xs.length ≤ 2 * i + 1) (hj : j < xs.length) : revB xs i j = xs.reverse.getD j 0 := by
  have e : xs.reverse.getD j 0 = xs.getD (xs.length - 1 - j) 0 := by
    rw [List.getD_eq_getElem?_getD, List.getD_eq_getElem?_getD, List.getElem?_reverse hj]
  rw [e]
  unfold revB
  by_cases c : j < i ∨ xs.length ≤ j + i
  · rw [if_pos c]
  · rw [if_neg c, show xs.length - 1 - j = j by omega]

theorem revB_lo (xs : List UInt8) (i : Nat) (h : 2 * i + 1 < xs.length) : revB xs i i = xs.getD i 0 ∧ revB xs i (xs.length - 1 - i) = xs.getD (xs.length - 1 - i) 0 := by
  unfold revB
  exact ⟨if_neg (by omega), if_neg (by omega)⟩

theorem revB_next (xs : List UInt8) (i j : Nat) (h : 2 * i + 1 < xs.length) (hj : j < xs.length) :
    revB xs (i + 1) j = if j = i then xs.getD (xs.length - 1 - i) 0 else if j = xs.length - 1 - i then xs.getD i 0 else revB xs i j := by
  unfold revB
  by_cases c1 : j = i
  · subst c1; rw [if_pos rfl, if_pos (by omega)]
  · rw [if_neg c1]
    by_cases c2 : j = xs.length - 1 - i
    · subst c2
      rw [if_pos rfl, if_pos (by omega), show xs.length - 1 - (xs.length - 1 - i) = i by omega]
    · rw [if_neg c2]
      by_cases c3 : j < i ∨ xs.length ≤ j + i
      · rw [if_pos c3, if_pos (by omega)]
      · rw [if_neg c3, if_neg (by omega)]


set_option maxHeartbeats 2000000 in
theorem reverseB_any (g n cap : Nat) (cur : Array Value) (xs : List UInt8) (w : World) (hn : xs.length = n) (hr0 : RowF w g cur) (hnc : n ≤ cur.size) (hc0 : ∀ i, i < n → cur[i]? = some (byteW (xs.getD i 0))) (h0 : 1 ≤ n) (hx : n ≤ 1000) :
    Calls Tryz.prog 26 #[.slice (some ⟨g, 0, none⟩) n cap] w fun e w' => e = .returned (.tuple #[]) ∧ (∃ c, RowF w' g c ∧ ∀ i, i < n → c[i]? = some (byteW (xs.reverse.getD i 0))) ∧ Below g w w' := by
  obtain ⟨Z, hs0⟩ : ∃ Z, cur.size = Z := ⟨_, rfl⟩
  rw [hs0] at hnc
  have hlast : Hid (∀ i, n ≤ 2 * i + 1 → ∀ j, j < n → revB xs i j = xs.reverse.getD j 0) := fun i h j hj => revB_end xs i j (by omega) (by omega)
  have hnext : Hid (∀ i j, 2 * i + 1 < n → j < n → revB xs (i + 1) j = if j = i then xs.getD (n - 1 - i) 0 else if j = n - 1 - i then xs.getD i 0 else revB xs i j) := fun i j h hj => by
    have := revB_next xs i j (by omega) (by omega)
    rwa [hn] at this
  have hlo : Hid (∀ i, 2 * i + 1 < n → revB xs i i = xs.getD i 0 ∧ revB xs i (n - 1 - i) = xs.getD (n - 1 - i) 0) := fun i h => by
    have := revB_lo xs i (by omega)
    rwa [hn] at this
  have hst : Hid (∀ j, j < n → cur[j]? = some (byteW (revB xs 0 j))) := fun j hj => by rw [hc0 j hj, revB_zero xs j (by omega)]
  have HN := Lib.hid hn
  have hB0 := Below.refl g w
  have hw0 : IntKind.i64.wrap ((n : Int) - 1) = (n : Int) - 1 := IntWalk.i64_in _ (by omega)
  clear hc0 hn
  go_enter Tryz.func26, Tryz.ntmps26
  go_wp2_with fail
  go_loopw [2, 3] (fun x y wr => ∃ (i : Nat) (c : Array Value), x = .int .i64 i ∧ y = .int .i64 ((n : Int) - 1 - i) ∧ 2 * i ≤ n + 1 ∧ RowF wr g c ∧ c.size = Z ∧ Hid (∀ j, j < n → c[j]? = some (byteW (revB xs i j))) ∧ Below g w wr) (fun x _ _ => n - (intOf x).toNat)
  case atStart => exact ⟨0, cur, rfl, by simp, by omega, hr0, hs0, hst, hB0⟩
  case round =>
    obtain ⟨i, c, rfl, rfl, hi, hr, hs, hd, hB⟩ := hrel
    clear hr0 hs0 hst hB0
    by_cases hin : 2 * i + 1 < n
    · have hin' : (i : Int) < (n : Int) - 1 - i := by omega
      obtain ⟨d, hdd⟩ : ∃ d, n - 1 - i = d := ⟨_, rfl⟩
      have hdi : (n : Int) - 1 - i = d := by omega
      obtain ⟨l1, l2⟩ := hlo.out i hin
      have hnx := hnext.out i
      rw [hdd] at l2 hnx
      have a1 := hd.out i (by omega)
      have a2 := hd.out d (by omega)
      rw [l1] at a1
      rw [l2] at a2
      have c1 := hr.cell i
      have c2 := hr.cell d
      rw [a1] at c1
      rw [a2] at c2
      have f1 := hr.free i (by omega)
      have f2 := hr.free d (by omega)
      have hlt := hr.lt
      generalize hX : xs.getD i 0 = X at *
      generalize hY : xs.getD d 0 = Y at *
      have hid : i ≠ d := by omega
      have r5 := (hr.set i (byteW Y)).set d (byteW X)
      have hB5 := (hB.setCell (p := ⟨g, i, none⟩) (by simp) (byteW Y)).setCell (p := ⟨g, d, none⟩) (by simp) (byteW X)
      have r6 := (hr.set d (byteW X)).set i (byteW Y)
      have hnx' : Hid (∀ j, j < n → revB xs (i + 1) j = if j = i then Y else if j = d then X else revB xs i j) := fun j hj => hnx j hin hj
      have HX := Lib.hid hX
      have HY := Lib.hid hY
      have HD := Lib.hid hdd
      have HS := Lib.hid hs
      rw [hdi]
      have e1 : (d : Int) < n := by omega
      have e2 : (i : Int) < d := by omega
      have e3 : (i : Int) < n := by omega
      have hwd : IntKind.i64.wrap ((d : Int) - 1) = (d : Int) - 1 := IntWalk.i64_in _ (by omega)
      have hwi : IntKind.i64.wrap ((i : Int) + 1) = (i : Int) + 1 := IntWalk.i64_in _ (by omega)
      clear hnx l1 l2 hX hY hs hin'
      go_wp2_with fail
      go_region
      go_wp2_with fail
      go_roundw
      case rel =>
        refine ⟨i + 1, _, by go_num, ?_, by omega, r5, by simp [HS.out], fun j hj => ?_, Below.drew hB5⟩
        · rw [show (n : Int) - 1 - ((i + 1 : Nat) : Int) = (d : Int) - 1 by omega]
        · rw [hnx'.out j hj]
          by_cases j1 : j = i
          · subst j1
            rw [if_pos rfl, Array.getElem?_setIfInBounds, if_neg (by omega), Array.getElem?_setIfInBounds, if_pos rfl, if_pos (by rw [HS.out]; omega)]
          · rw [if_neg j1]
            by_cases j2 : j = d
            · subst j2
              rw [if_pos rfl, Array.getElem?_setIfInBounds, if_pos rfl, if_pos (by simp [HS.out]; omega)]
            · rw [if_neg j2, Array.getElem?_setIfInBounds, if_neg (by omega), Array.getElem?_setIfInBounds, if_neg (by omega)]
              exact hd.out j hj
      case measure => simp only [intOf]; omega
    · have hin' : ¬ (i : Int) < (n : Int) - 1 - i := by omega
      have ho : ∃ c, RowF wr g c ∧ ∀ i, i < n → c[i]? = some (byteW (xs.reverse.getD i 0)) := ⟨c, hr, fun j hj => by rw [hd.out j hj, hlast.out i (by omega) j hj]⟩
      clear hr hs hd
      go_wp2
      go_end0
      exact ⟨rfl, ho, hB⟩

set_option maxHeartbeats 2000000 in
theorem reverseB_nil (g cap : Nat) (w : World) :
    Calls Tryz.prog 26 #[.slice (some ⟨g, 0, none⟩) 0 cap] w fun e w' => e = .returned (.tuple #[]) ∧ w = w' := by
  have h1 : ¬ (0 : Int) < -1 := by omega
  go_enter Tryz.func26, Tryz.ntmps26
  go_wp2_with fail
  go_loopw [2, 3] (fun x y wr => x = .int .i64 0 ∧ y = .int .i64 (-1) ∧ wr = w) (fun _ _ _ => 0)
  case atStart => exact ⟨rfl, rfl, rfl⟩
  case round =>
    obtain ⟨rfl, rfl, rfl⟩ := hrel
    go_wp2
    go_end0
    exact ⟨rfl, rfl⟩

set_option maxHeartbeats 2000000 in
theorem backMoves_any (u : ByteArray) (w : World) (hu : u.size ≤ 2000000) :
    Calls Tryz.prog 11 #[.string u] w fun e w' => e = .returned (.string (backM u)) ∧ Below w.heap.size w w' := by
  have hmo := Lib.hid (fun w => movesOk_any u w hu)
  rcases mvOk_cases u with ⟨v, hv, rfl, hok⟩ | ⟨hno, hok⟩
  · rw [hok] at hmo
    have hX : backM (txtM v) = txtL (v.map byteM).reverse := by rw [← List.map_reverse]; exact onM_yes hv
    rw [hX]
    have hlen : (v.map byteM).length ≤ 58 := by rw [List.length_map]; exact hv
    unfold txtM at hmo ⊢
    generalize v.map byteM = xs at *
    clear hX hok
    go_enter Tryz.func11, Tryz.ntmps11
    go_wp2_with fail
    refine (hmo.out _).mono ?_; rintro e w1 ⟨rfl, hb1⟩
    have hcv := conv_str w1 xs
    obtain ⟨cur, hr, hc, hcc⟩ := row_str w1 xs
    have hB2 : Below w1.heap.size w1 (Lib.bytesWorld w1 5 (txtL xs)) := ⟨rfl, rfl, rfl, by rw [Lib.bytesWorld_size]; omega, fun j hj => Lib.bytesWorld_at_old _ _ _ _ hj⟩
    have hB3 := hb1.trans (hB2.mono hb1.size)
    generalize Lib.bytesWorld w1 5 (txtL xs) = w2 at *
    generalize grownCap w1 xs.length 0 5 = cap at *
    obtain ⟨n, hn⟩ : ∃ n, xs.length = n := ⟨_, rfl⟩
    have hsz := hb1.size
    rw [hn] at hcv hc hcc hlen
    go_wp2_with fail
    by_cases h0 : n = 0
    · subst h0
      have e : xs = [] := List.length_eq_zero_iff.1 hn
      subst e
      refine (reverseB_nil _ _ _).mono ?_; rintro e w3 ⟨rfl, rfl⟩
      have hcv2 := conv_row w2 w1.heap.size 0 cap cur [] rfl hr (fun i hi => by omega)
      go_wp2
      go_ret
      exact ⟨rfl, hB3⟩
    · refine (reverseB_any w1.heap.size n cap cur xs _ hn hr hc hcc (by omega) (by omega)).mono ?_; rintro e w3 ⟨rfl, ⟨c, hr3, hc3⟩, hb3⟩
      have hcv2 := conv_row w3 w1.heap.size n cap c xs.reverse (by rw [List.length_reverse]; exact hn) hr3 hc3
      have hB4 := hB3.trans (hb3.mono hsz)
      clear hr hcc hcv hc3 hr3
      go_wp2
      go_ret
      exact ⟨rfl, hB4⟩
  · rw [hok] at hmo
    have hX : backM u = ⟨#[]⟩ := onM_no hno
    rw [hX]
    go_enter Tryz.func11, Tryz.ntmps11
    go_wp2_with fail
    refine (hmo.out _).mono ?_; rintro e w1 ⟨rfl, hb1⟩
    go_wp2
    go_ret
    exact ⟨rfl, hb1⟩
end Go.Proofs.YtckkgjgfjnfeoaaGreatDoor
