/- strings.Trim at the cutset of both letters, and the program's CodeOk. -/
import Derived.Test.YtejofckfnieolaaDoorOkS
import Derived.Shelf.Strings.AsciiSet
set_option linter.unusedVariables false
namespace Go.Proofs.YtejofckfnieolaaDoor

set_option maxRecDepth 100000
open Go.ChangeShapes Go.WideShapes Go.ChangeAt Go.RowKit Go.Joins Go.Shelf

def rhoT : Ren := { f := fun x => if x = 227 then 30 else x, t := fun x => if x = 116 then 52 else x, g := fun x => x }

theorem lays227 : Lays.n227 Tryd.prog rhoT :=
  { mixed := by kernel_rfl
    f227 := by kernel_rfl
    t0 := by kernel_rfl
    a0 := fun w => by kernel_rfl
    z0 := fun w => by kernel_rfl
    v0 := fun w => by kernel_rfl
    t3 := by kernel_rfl
    a3 := fun w => by kernel_rfl
    z3 := fun w => by kernel_rfl
    v3 := fun w => by kernel_rfl
    t4 := by kernel_rfl
    a4 := fun w => by kernel_rfl
    z4 := fun w => by kernel_rfl
    v4 := fun w => by kernel_rfl
    t5 := by kernel_rfl
    a5 := fun w => by kernel_rfl
    z5 := fun w => by kernel_rfl
    v5 := fun w => by kernel_rfl
    t9 := by kernel_rfl
    a9 := fun w => by kernel_rfl
    z9 := fun w => by kernel_rfl
    v9 := fun w => by kernel_rfl
    t116 := by kernel_rfl
    a116 := fun w => by kernel_rfl
    z116 := fun w => by kernel_rfl }

theorem infoSet : (Tryd.prog.info? 52).map (fun i => (i.zero, i.size)) = some (some (.agg (Array.replicate 256 (.bool false))), 256) := by kernel_rfl

def S01 : Array Value := Lib.setCells [48, 49]

def inS (c : UInt8) : Bool := ([48, 49] : List UInt8).contains c

theorem inS_iff (c : UInt8) : inS c = true ↔ c = 48 ∨ c = 49 := by unfold inS; simp

/-- block b holds the set -/
def SetAt (w : World) (b : Nat) : Prop := ∀ c : UInt8, w.cell? ⟨b, c.toNat, none⟩ = some (.bool (inS c))

theorem makeSet_any (w : World) :
    Calls Tryd.prog 30 #[.string ⟨#[48, 49]⟩] w fun e w' => e = .returned (.tuple #[.agg S01, .bool true]) ∧ w' = w.alloc (.cells S01 52) := by
  have h := Any.strings_makeASCIISet lays227 (zero_of_info infoSet).1 (zero_of_info infoSet).2 ⟨#[48, 49]⟩ w (by decide) (by
    intro j b hb
    match j, hb with
    | 0, hb => simp at hb; subst hb; decide
    | 1, hb => simp at hb; subst hb; decide
    | j + 2, hb => simp at hb)
  exact h

set_option maxHeartbeats 1000000 in
theorem setHas_any (b : Nat) (c : UInt8) (v : Bool) (w : World) (hc : w.cell? ⟨b, c.toNat, none⟩ = some (.bool v)) :
    Calls Tryd.prog 36 #[.pointer (some ⟨b, 0, none⟩), .int .u8 c.toNat] w fun e w' => e = .returned (.bool v) ∧ w = w' := by
  have hx256 : (c.toNat : Int) < 256 := by have := UInt8.toNat_lt c; omega
  go_enter Tryd.func36, Tryd.ntmps36
  go_wp2
  go_ret
  exact ⟨rfl, rfl⟩

def strSz : Value → Nat
  | .string s => s.size
  | _ => 0

theorem ext_get0 {t T : ByteArray} {j : Nat} (hT : T = t.extract j t.size) (h0 : 0 < T.size) (hj : j < t.size) : T[0] = t[j] := by
  subst hT
  rw [ByteArray.getElem_extract]
  simp

theorem ext_next {t T : ByteArray} {j : Nat} (hT : T = t.extract j t.size) (hj : j < t.size) : T.extract 1 T.size = t.extract (j + 1) t.size := by
  subst hT
  rw [ByteArray.extract_extract]
  congr 1
  rw [ByteArray.size_extract]
  omega

def LeftPost (t : ByteArray) (e : Ending) : Prop := ∃ j, j ≤ t.size ∧ (∀ i (h : i < t.size), i < j → inS t[i] = true) ∧ (∀ h : j < t.size, inS t[j] = false) ∧ e = .returned (.string (t.extract j t.size))

set_option maxHeartbeats 2000000 in
theorem trimLeft_any (t : ByteArray) (b : Nat) (w : World) (hs : SetAt w b) :
    Calls Tryd.prog 31 #[.string t, .pointer (some ⟨b, 0, none⟩)] w fun e w' => LeftPost t e ∧ w = w' := by
  have HS := Lib.hid hs
  clear hs
  go_enter Tryd.func31, Tryd.ntmps31
  go_wp2_with fail
  go_loop [0] (fun v => ∃ (j : Nat) (T : ByteArray), v = .string T ∧ Hid (T = t.extract j t.size) ∧ j ≤ t.size ∧ T.size + j ≤ t.size ∧ t.size ≤ T.size + j ∧ Hid (∀ i (h : i < t.size), i < j → inS t[i] = true)) (fun v => strSz v)
  case atStart => exact ⟨0, t, rfl, by show t = _; rw [ByteArray.extract_zero_size], by omega, by omega, by omega, fun i _ hi => by omega⟩
  case round =>
    obtain ⟨j, T, rfl, hT, hj, hz1, hz2, ha⟩ := hrel
    by_cases h0 : 0 < T.size
    · have h0' : (0 : Int) < T.size := by omega
      have h1' : (1 : Int) ≤ T.size := by omega
      have hjt : j < t.size := by omega
      have hg := ext_get0 hT.out h0 hjt
      have hc := HS.out T[0]
      have HG := Lib.hid hg
      clear hg
      cases hin : inS T[0] with
      | false =>
        rw [hin] at hc
        have HI := Lib.hid hin
        clear hin
        go_wp2_with fail
        refine (setHas_any b T[0] _ _ hc).mono ?_; rintro e w2 ⟨rfl, rfl⟩
        go_wp2
        go_ret
        exact ⟨⟨j, hj, ha.out, fun h => by rw [← HG.out]; exact HI.out, by rw [← hT.out]; rfl⟩, rfl⟩
      | true =>
        rw [hin] at hc
        have HI := Lib.hid hin
        clear hin
        go_wp2_with fail
        refine (setHas_any b T[0] _ _ hc).mono ?_; rintro e w2 ⟨rfl, rfl⟩
        go_wp2_with fail
        go_round
        case rel =>
          have hsz : (T.extract 1 T.size).size = T.size - 1 := by rw [ByteArray.size_extract]; omega
          refine ⟨j + 1, _, rfl, ext_next hT.out hjt, by omega, by omega, by omega, fun i hi hij => ?_⟩
          by_cases e : i = j
          · subst e; rw [← HG.out]; exact HI.out
          · exact ha.out i hi (by omega)
        case measure =>
          have hsz : (T.extract 1 T.size).size = T.size - 1 := by rw [ByteArray.size_extract]; omega
          show (T.extract 1 T.size).size < T.size
          omega
    · have h0' : ¬ (0 : Int) < T.size := by omega
      go_wp2
      go_ret
      exact ⟨⟨j, hj, ha.out, fun h => by omega, by rw [← hT.out]; rfl⟩, rfl⟩

def RightPost (t : ByteArray) (e : Ending) : Prop := ∃ k, k ≤ t.size ∧ (∀ i (h : i < t.size), k ≤ i → inS t[i] = true) ∧ (∀ (q : Nat) (h : q < t.size), k = q + 1 → inS t[q] = false) ∧ e = .returned (.string (t.extract 0 k))

theorem ext_get {t T : ByteArray} {k q : Nat} (hT : T = t.extract 0 k) (hq : q < T.size) (hq2 : q < t.size) : T[q] = t[q] := by
  subst hT
  rw [ByteArray.getElem_extract]
  simp

theorem ext_prev {t T : ByteArray} {k q : Nat} (hT : T = t.extract 0 k) (hk : k = q + 1) : T.extract 0 q = t.extract 0 q := by
  subst hT
  rw [ByteArray.extract_extract]
  congr 1
  omega

set_option maxHeartbeats 2000000 in
theorem trimRight_any (t : ByteArray) (b : Nat) (w : World) (hs : SetAt w b) (ht : t.size ≤ 2000000) :
    Calls Tryd.prog 32 #[.string t, .pointer (some ⟨b, 0, none⟩)] w fun e w' => RightPost t e ∧ w = w' := by
  have HS := Lib.hid hs
  clear hs
  go_enter Tryd.func32, Tryd.ntmps32
  go_wp2_with fail
  go_loop [0] (fun v => ∃ (k : Nat) (T : ByteArray), v = .string T ∧ Hid (T = t.extract 0 k) ∧ Hid (T.size = k) ∧ k ≤ t.size ∧ Hid (∀ i (h : i < t.size), k ≤ i → inS t[i] = true)) (fun v => strSz v)
  case atStart => exact ⟨t.size, t, rfl, by show t = _; rw [ByteArray.extract_zero_size], rfl, by omega, fun i hi hk => by omega⟩
  case round =>
    obtain ⟨k, T, rfl, hT, hz, hk, ha⟩ := hrel
    by_cases h0 : k = 0
    · have hz0 : T.size = 0 := by rw [hz.out]; exact h0
      have h0' : ¬ (0 : Int) < T.size := by omega
      go_wp2
      go_ret
      exact ⟨⟨k, hk, ha.out, fun q _ e => by omega, by rw [← hT.out]; rfl⟩, rfl⟩
    · obtain ⟨q, rfl⟩ : ∃ q, k = q + 1 := ⟨k - 1, by omega⟩
      have hzq : (T.size : Int) = (q : Int) + 1 := by have := hz.out; omega
      have hqT : q < T.size := by have := hz.out; omega
      have hqt : q < t.size := by omega
      have q0 : (0 : Int) < (q : Int) + 1 := by omega
      have q1 : (q : Int) < (q : Int) + 1 := by omega
      have q2 : (0 : Int) ≤ (q : Int) := by omega
      have q3 : (q : Int) ≤ (q : Int) + 1 := by omega
      have hg := ext_get hT.out hqT hqt
      have hc := HS.out T[q]
      have HG := Lib.hid hg
      clear hg
      cases hin : inS T[q] with
      | false =>
        rw [hin] at hc
        have HI := Lib.hid hin
        clear hin
        go_wp2_with fail
        refine (setHas_any b T[q] _ _ hc).mono ?_; rintro e w2 ⟨rfl, rfl⟩
        go_wp2
        go_ret
        exact ⟨⟨q + 1, hk, ha.out, fun q' h e => by
          have : q' = q := by omega
          subst this
          rw [← HG.out]; exact HI.out, by rw [← hT.out]; rfl⟩, rfl⟩
      | true =>
        rw [hin] at hc
        have HI := Lib.hid hin
        clear hin
        go_wp2_with fail
        refine (setHas_any b T[q] _ _ hc).mono ?_; rintro e w2 ⟨rfl, rfl⟩
        go_wp2_with fail
        go_round
        case rel =>
          have hsz : (T.extract 0 q).size = q := by rw [ByteArray.size_extract]; omega
          refine ⟨q, _, rfl, ext_prev hT.out rfl, hsz, by omega, fun i hi hij => ?_⟩
          by_cases e : i = q
          · subst e; rw [← HG.out]; exact HI.out
          · exact ha.out i hi (by omega)
        case measure =>
          have hsz : (T.extract 0 q).size = q := by rw [ByteArray.size_extract]; omega
          show (T.extract 0 q).size < T.size
          omega
end Go.Proofs.YtejofckfnieolaaDoor
