/- strings.Trim at the cutset of both moves. -/
import Derived.Test.YtckkgjgfjnfeoaaGreatDoorGMov
import Derived.Test.YtckkgjgfjnfeoaaGreatDoorGMath
import Derived.Shelf.Strings.AsciiSet
set_option linter.unusedVariables false
namespace Go.Proofs.YtckkgjgfjnfeoaaGreatDoor
set_option maxRecDepth 4000

set_option maxRecDepth 100000
open Go.ChangeShapes Go.WideShapes Go.ChangeAt Go.RowKit Go.Joins Go.Shelf

def rhoTM : Ren := { f := fun x => if x = 227 then 42 else x, t := fun x => if x = 116 then 73 else x, g := fun x => x }

theorem lays227M : Lays.n227 Tryz.prog rhoTM :=
  { mixed := by kernel_rfl
    f227 := by kernel_rfl
    t0 := by kernel_rfl
    a0 := fun w => by kernel_rfl
    z0 := fun w => by kernel_rfl
    v0 := fun w => by kernel_rfl
    t3 := by kernel_rfl
    a3 := fun w => by kernel_rfl
    z3 := fun w => by kernel_rfl
    v3 := fun w => by kernel_rfl
    t4 := by kernel_rfl
    a4 := fun w => by kernel_rfl
    z4 := fun w => by kernel_rfl
    v4 := fun w => by kernel_rfl
    t5 := by kernel_rfl
    a5 := fun w => by kernel_rfl
    z5 := fun w => by kernel_rfl
    v5 := fun w => by kernel_rfl
    t9 := by kernel_rfl
    a9 := fun w => by kernel_rfl
    z9 := fun w => by kernel_rfl
    v9 := fun w => by kernel_rfl
    t116 := by kernel_rfl
    a116 := fun w => by kernel_rfl
    z116 := fun w => by kernel_rfl }

theorem infoSetM : (Tryz.prog.info? 73).map (fun i => (i.zero, i.size)) = some (some (.agg (Array.replicate 256 (.bool false))), 256) := by kernel_rfl

def S01M : Array Value := Lib.setCells [76, 82]

def inSM (c : UInt8) : Bool := ([76, 82] : List UInt8).contains c

theorem inS_iffM (c : UInt8) : inSM c = true ↔ c = 76 ∨ c = 82 := by unfold inSM; simp

/-- block b holds the set -/
def SetAtM (w : World) (b : Nat) : Prop := ∀ c : UInt8, w.cell? ⟨b, c.toNat, none⟩ = some (.bool (inSM c))

theorem makeSet_anyM (w : World) :
    Calls Tryz.prog 42 #[.string ⟨#[76, 82]⟩] w fun e w' => e = .returned (.tuple #[.agg S01M, .bool true]) ∧ w' = w.alloc (.cells S01M 73) := by
  have h := Any.strings_makeASCIISet lays227M (zero_of_info infoSetM).1 (zero_of_info infoSetM).2 ⟨#[76, 82]⟩ w (by decide) (by
    intro j b hb
    match j, hb with
    | 0, hb => simp at hb; subst hb; decide
    | 1, hb => simp at hb; subst hb; decide
    | j + 2, hb => simp at hb)
  exact h

set_option maxHeartbeats 1000000 in
theorem setHas_anyM (b : Nat) (c : UInt8) (v : Bool) (w : World) (hc : w.cell? ⟨b, c.toNat, none⟩ = some (.bool v)) :
    Calls Tryz.prog 50 #[.pointer (some ⟨b, 0, none⟩), .int .u8 c.toNat] w fun e w' => e = .returned (.bool v) ∧ w = w' := by
  have hx256 : (c.toNat : Int) < 256 := by have := UInt8.toNat_lt c; omega
  go_enter Tryz.func50, Tryz.ntmps50
  go_wp2
  go_ret
  exact ⟨rfl, rfl⟩

def strSzM : Value → Nat
  | .string s => s.size
  | _ => 0

theorem ext_get0M {t T : ByteArray} {j : Nat} (hT : T = t.extract j t.size) (h0 : 0 < T.size) (hj : j < t.size) : T[0] = t[j] := by
  subst hT
  rw [ByteArray.getElem_extract]
  simp

theorem ext_nextM {t T : ByteArray} {j : Nat} (hT : T = t.extract j t.size) (hj : j < t.size) : T.extract 1 T.size = t.extract (j + 1) t.size := by
  subst hT
  rw [ByteArray.extract_extract]
  congr 1
  rw [ByteArray.size_extract]
  omega

def LeftPostM (t : ByteArray) (e : Ending) : Prop := ∃ j, j ≤ t.size ∧ (∀ i (h : i < t.size), i < j → inSM t[i] = true) ∧ (∀ h : j < t.size, inSM t[j] = false) ∧ e = .returned (.string (t.extract j t.size))

set_option maxHeartbeats 2000000 in
theorem trimLeft_anyM (t : ByteArray) (b : Nat) (w : World) (hs : SetAtM w b) :
    Calls Tryz.prog 43 #[.string t, .pointer (some ⟨b, 0, none⟩)] w fun e w' => LeftPostM t e ∧ w = w' := by
  have HS := Lib.hid hs
  clear hs
  go_enter Tryz.func43, Tryz.ntmps43
  go_wp2_with fail
  go_loop [0] (fun v => ∃ (j : Nat) (T : ByteArray), v = .string T ∧ Hid (T = t.extract j t.size) ∧ j ≤ t.size ∧ T.size + j ≤ t.size ∧ t.size ≤ T.size + j ∧ Hid (∀ i (h : i < t.size), i < j → inSM t[i] = true)) (fun v => strSzM v)
  case atStart => exact ⟨0, t, rfl, by show t = _; rw [ByteArray.extract_zero_size], by omega, by omega, by omega, fun i _ hi => by omega⟩
  case round =>
    obtain ⟨j, T, rfl, hT, hj, hz1, hz2, ha⟩ := hrel
    by_cases h0 : 0 < T.size
    · have h0' : (0 : Int) < T.size := by omega
      have h1' : (1 : Int) ≤ T.size := by omega
      have hjt : j < t.size := by omega
      have hg := ext_get0M hT.out h0 hjt
      have hc := HS.out T[0]
      have HG := Lib.hid hg
      clear hg
      cases hin : inSM T[0] with
      | false =>
        rw [hin] at hc
        have HI := Lib.hid hin
        clear hin
        go_wp2_with fail
        refine (setHas_anyM b T[0] _ _ hc).mono ?_; rintro e w2 ⟨rfl, rfl⟩
        go_wp2
        go_ret
        exact ⟨⟨j, hj, ha.out, fun h => by rw [← HG.out]; exact HI.out, by rw [← hT.out]; rfl⟩, rfl⟩
      | true =>
        rw [hin] at hc
        have HI := Lib.hid hin
        clear hin
        go_wp2_with fail
        refine (setHas_anyM b T[0] _ _ hc).mono ?_; rintro e w2 ⟨rfl, rfl⟩
        go_wp2_with fail
        go_round
        case rel =>
          have hsz : (T.extract 1 T.size).size = T.size - 1 := by rw [ByteArray.size_extract]; omega
          refine ⟨j + 1, _, rfl, ext_nextM hT.out hjt, by omega, by omega, by omega, fun i hi hij => ?_⟩
          by_cases e : i = j
          · subst e; rw [← HG.out]; exact HI.out
          · exact ha.out i hi (by omega)
        case measure =>
          have hsz : (T.extract 1 T.size).size = T.size - 1 := by rw [ByteArray.size_extract]; omega
          show (T.extract 1 T.size).size < T.size
          omega
    · have h0' : ¬ (0 : Int) < T.size := by omega
      go_wp2
      go_ret
      exact ⟨⟨j, hj, ha.out, fun h => by omega, by rw [← hT.out]; rfl⟩, rfl⟩

def RightPostM (t : ByteArray) (e : Ending) : Prop := ∃ k, k ≤ t.size ∧ (∀ i (h : i < t.size), k ≤ i → inSM t[i] = true) ∧ (∀ (q : Nat) (h : q < t.size), k = q + 1 → inSM t[q] = false) ∧ e = .returned (.string (t.extract 0 k))

theorem ext_getM {t T : ByteArray} {k q : Nat} (hT : T = t.extract 0 k) (hq : q < T.size) (hq2 : q < t.size) : T[q] = t[q] := by
  subst hT
  rw [ByteArray.getElem_extract]
  simp

theorem ext_prevM {t T : ByteArray} {k q : Nat} (hT : T = t.extract 0 k) (hk : k = q + 1) : T.extract 0 q = t.extract 0 q := by
  subst hT
  rw [ByteArray.extract_extract]
  congr 1
  omega

set_option maxHeartbeats 2000000 in
theorem trimRight_anyM (t : ByteArray) (b : Nat) (w : World) (hs : SetAtM w b) (ht : t.size ≤ 2000000) :
    Calls Tryz.prog 44 #[.string t, .pointer (some ⟨b, 0, none⟩)] w fun e w' => RightPostM t e ∧ w = w' := by
  have HS := Lib.hid hs
  clear hs
  go_enter Tryz.func44, Tryz.ntmps44
  go_wp2_with fail
  go_loop [0] (fun v => ∃ (k : Nat) (T : ByteArray), v = .string T ∧ Hid (T = t.extract 0 k) ∧ Hid (T.size = k) ∧ k ≤ t.size ∧ Hid (∀ i (h : i < t.size), k ≤ i → inSM t[i] = true)) (fun v => strSzM v)
  case atStart => exact ⟨t.size, t, rfl, by show t = _; rw [ByteArray.extract_zero_size], rfl, by omega, fun i hi hk => by omega⟩
  case round =>
    obtain ⟨k, T, rfl, hT, hz, hk, ha⟩ := hrel
    by_cases h0 : k = 0
    · have hz0 : T.size = 0 := by rw [hz.out]; exact h0
      have h0' : ¬ (0 : Int) < T.size := by omega
      go_wp2
      go_ret
      exact ⟨⟨k, hk, ha.out, fun q _ e => by omega, by rw [← hT.out]; rfl⟩, rfl⟩
    · obtain ⟨q, rfl⟩ : ∃ q, k = q + 1 := ⟨k - 1, by omega⟩
      have hzq : (T.size : Int) = (q : Int) + 1 := by have := hz.out; omega
      have hqT : q < T.size := by have := hz.out; omega
      have hqt : q < t.size := by omega
      have q0 : (0 : Int) < (q : Int) + 1 := by omega
      have q1 : (q : Int) < (q : Int) + 1 := by omega
      have q2 : (0 : Int) ≤ (q : Int) := by omega
      have q3 : (q : Int) ≤ (q : Int) + 1 := by omega
      have hg := ext_getM hT.out hqT hqt
      have hc := HS.out T[q]
      have HG := Lib.hid hg
      clear hg
      cases hin : inSM T[q] with
      | false =>
        rw [hin] at hc
        have HI := Lib.hid hin
        clear hin
        go_wp2_with fail
        refine (setHas_anyM b T[q] _ _ hc).mono ?_; rintro e w2 ⟨rfl, rfl⟩
        go_wp2
        go_ret
        exact ⟨⟨q + 1, hk, ha.out, fun q' h e => by
          have : q' = q := by omega
          subst this
          rw [← HG.out]; exact HI.out, by rw [← hT.out]; rfl⟩, rfl⟩
      | true =>
        rw [hin] at hc
        have HI := Lib.hid hin
        clear hin
        go_wp2_with fail
        refine (setHas_anyM b T[q] _ _ hc).mono ?_; rintro e w2 ⟨rfl, rfl⟩
        go_wp2_with fail
        go_round
        case rel =>
          have hsz : (T.extract 0 q).size = q := by rw [ByteArray.size_extract]; omega
          refine ⟨q, _, rfl, ext_prevM hT.out rfl, hsz, by omega, fun i hi hij => ?_⟩
          by_cases e : i = q
          · subst e; rw [← HG.out]; exact HI.out
          · exact ha.out i hi (by omega)
        case measure =>
          have hsz : (T.extract 0 q).size = q := by rw [ByteArray.size_extract]; omega
          show (T.extract 0 q).size < T.size
          omega

/-- what is left is nothing just where all bytes are letters -/
def TrimPostM (t : ByteArray) (w : World) (e : Ending) (w' : World) : Prop := (∃ r : ByteArray, e = .returned (.string r) ∧ (r.size = 0 ↔ AllM t t.size)) ∧ Below w.heap.size w w'

theorem trim_bothM {t T : ByteArray} {k j : Nat} (hk : k ≤ t.size) (h1 : ∀ i (h : i < t.size), k ≤ i → inSM t[i] = true) (h2 : ∀ (q : Nat) (h : q < t.size), k = q + 1 → inSM t[q] = false)
    (hT : T = t.extract 0 k) (hj : j ≤ T.size) (h3 : ∀ i (h : i < T.size), i < j → inSM T[i] = true) (h4 : ∀ h : j < T.size, inSM T[j] = false) :
    (T.extract j T.size).size = 0 ↔ AllM t t.size := by
  have hz : T.size = k := by rw [hT, ByteArray.size_extract]; omega
  rw [ByteArray.size_extract]
  constructor
  · intro h
    have hjk : j = k := by omega
    have hk0 : k = 0 := by
      by_cases c : k = 0
      · exact c
      · obtain ⟨q, rfl⟩ : ∃ q, k = q + 1 := ⟨k - 1, by omega⟩
        have a := h2 q (by omega) rfl
        have b := h3 q (by omega) (by omega)
        rw [ext_getM hT (by omega) (by omega), a] at b
        cases b
    intro i hi _
    exact (inS_iffM _).1 (h1 i hi (by omega))
  · intro h
    have hk0 : k = 0 := by
      by_cases c : k = 0
      · exact c
      · obtain ⟨q, rfl⟩ : ∃ q, k = q + 1 := ⟨k - 1, by omega⟩
        have a := h2 q (by omega) rfl
        rw [(inS_iffM _).2 (h q (by omega) (by omega))] at a
        cases a
    omega

theorem set_newM (w : World) (n : Nat) (hn : n = w.heap.size) : SetAtM (w.alloc (.cells S01M 73)) n := by
  subst hn
  intro c
  rw [World.cell?_alloc_at _ _ _ _ rfl]
  exact Lib.setCells_at [76, 82] c

set_option maxHeartbeats 2000000 in
theorem trim_anyM (t : ByteArray) (w : World) (h0 : 0 < t.size) (ht : t.size ≤ 2000000) :
    Calls Tryz.prog 33 #[.string t, .string ⟨#[76, 82]⟩] w (TrimPostM t w) := by
  have hM := makeSet_anyM w
  have hsc : (storeCells ⟨w.heap.size + 1, 0, none⟩ S01M.toList 0).run Tryz.prog ((w.alloc (.cells S01M 73)).alloc (.cells (Array.replicate 256 (.bool false)) 73)) = .ok () ((w.alloc (.cells S01M 73)).alloc (.cells S01M 73)) := by
    have := run_storeCells_new (P := Tryz.prog) (w.alloc (.cells S01M 73)) 73 (Array.replicate 256 (.bool false)) S01M (by rw [S01M, Lib.setCells_size]; exact (zero_of_info infoSetM).2) (by rw [S01M, Lib.setCells_size, Array.size_replicate]) (Lib.setCells_one _)
    simpa using this
  have hset : SetAtM ((w.alloc (.cells S01M 73)).alloc (.cells S01M 73)) (w.heap.size + 1) := set_newM _ _ (by simp)
  have hsz : S01M.size = 256 := Lib.setCells_size _
  have HS := Lib.hid hset
  have hemp : t.toList.isEmpty = false := by
    cases h : t.toList with
    | nil =>
      have : t.toList.length = t.size := by rw [ByteArray.toList_eq, Array.length_toList]; rfl
      rw [h] at this; simp at this; omega
    | cons _ _ => rfl
  clear hset
  go_enter Tryz.func33, Tryz.ntmps33
  go_wp2_with fail
  refine hM.mono ?_; rintro e w2 ⟨rfl, hw⟩
  rw [hw]
  go_wp2_with fail
  first
    | (rw [(zero_of_info infoSetM).1]; simp only [Result.andThen]; rw [Oper.upon_value]; go_wp2_with fail)
    | (rw [show Tryz.zeroCells73 = Array.replicate 256 (.bool false) from by kernel_rfl, hsc]; simp only [Result.andThen]; rw [Oper.upon_skip]; go_wp2_with fail)
  have hB : Below w.heap.size w ((w.alloc (.cells S01M 73)).alloc (.cells S01M 73)) := (by repeat (first | exact Below.refl _ _ | assumption | (refine Below.trans ?_ (Below.mono (by assumption) (by first | omega | (simp <;> omega)))) | (refine Below.alloc ?_ (by first | omega | (simp <;> omega)) _) | (refine below_drewN ?_ _) | (refine Below.drew ?_) | (refine Below.setCell ?_ (by first | omega | (simp <;> omega)) _)))
  clear hM hsc hsz hw
  generalize ((w.alloc (.cells S01M 73)).alloc (.cells S01M 73)) = w3 at *
  refine (trimRight_anyM t _ _ HS.out ht).mono ?_; rintro e w4 ⟨⟨k, hk, h1, h2, rfl⟩, rfl⟩
  obtain ⟨T, hT⟩ : ∃ T, t.extract 0 k = T := ⟨_, rfl⟩
  rw [hT]
  have HK := Lib.hid (show ∀ j, j ≤ T.size → (∀ i (h : i < T.size), i < j → inSM T[i] = true) → (∀ h : j < T.size, inSM T[j] = false) → ((T.extract j T.size).size = 0 ↔ AllM t t.size) from fun j a b c => trim_bothM hk h1 h2 hT.symm a b c)
  clear h1 h2 hT
  go_wp2_with fail
  refine (trimLeft_anyM T _ _ HS.out).mono ?_; rintro e w5 ⟨⟨j, hj, h3, h4, rfl⟩, rfl⟩
  have HR := Lib.hid (HK.out j hj h3 h4)
  clear h3 h4
  go_wp2
  go_ret
  exact ⟨⟨_, rfl, HR.out⟩, hB⟩


theorem toList_emptyM {r : ByteArray} (h : ¬ r.size = 0) : r.toList.isEmpty = false := by
  cases e : r.toList with
  | nil =>
    have : r.toList.length = r.size := by rw [ByteArray.toList_eq, Array.length_toList]; rfl
    rw [e] at this; simp at this; omega
  | cons _ _ => rfl

theorem empty_of_size {r : ByteArray} (h : r.size = 0) : r = ⟨#[]⟩ := by
  apply ByteArray.ext
  have : r.data.size = 0 := h
  exact Array.eq_empty_of_size_eq_zero this

set_option maxHeartbeats 1000000 in
theorem movesOk_any (u : ByteArray) (w : World) (hu : u.size ≤ 2000000) :
    Calls Tryz.prog 23 #[.string u] w fun e w' => e = .returned (.bool (mvOkF u)) ∧ Below w.heap.size w w' := by
  by_cases h6 : u.size ≤ 58
  · have h6' : (u.size : Int) ≤ 58 := by omega
    by_cases h0 : 0 < u.size
    · go_enter Tryz.func23, Tryz.ntmps23
      go_wp2_with fail
      refine (trim_anyM u _ h0 hu).mono ?_; rintro e w2 ⟨⟨r, rfl, hr⟩, hb⟩
      by_cases hr0 : r.size = 0
      · have e : r = ⟨#[]⟩ := empty_of_size hr0
        have HP := Lib.hid (mvOk_yes (t := u) ⟨h6, hr.1 hr0⟩)
        subst e
        clear hr hr0
        go_wp2
        go_ret
        exact ⟨by simp; exact HP.out, hb⟩
      · have HP := Lib.hid (mvOk_no (t := u) fun h => hr0 (hr.2 h.2))
        have hemp : r.toList.isEmpty = false := toList_emptyM hr0
        clear hr hr0
        go_wp2
        go_ret
        exact ⟨by simp; exact HP.out, hb⟩
    · have e : u = ⟨#[]⟩ := empty_of_size (by omega)
      have HP := Lib.hid (mvOk_yes (t := ⟨#[]⟩) ⟨by decide, fun i hi => absurd hi (Nat.not_lt_zero _)⟩)
      subst e
      clear h0 hu h6 h6'
      go_enter Tryz.func23, Tryz.ntmps23
      go_wp2_with (go_at_call 33; go_in)
      go_ret
      exact ⟨by simp; exact HP.out, (by repeat (first | exact Below.refl _ _ | assumption | (refine Below.trans ?_ (Below.mono (by assumption) (by first | omega | (simp <;> omega)))) | (refine Below.alloc ?_ (by first | omega | (simp <;> omega)) _) | (refine below_drewN ?_ _) | (refine Below.drew ?_) | (refine Below.setCell ?_ (by first | omega | (simp <;> omega)) _)))⟩
  · have h6' : decide ((u.size : Int) ≤ 58) = false := by simp; omega
    have HP := Lib.hid (mvOk_no (t := u) fun h => h6 h.1)
    go_enter Tryz.func23, Tryz.ntmps23
    go_wp2
    go_ret
    exact ⟨by simp; exact HP.out, (by repeat (first | exact Below.refl _ _ | assumption | (refine Below.trans ?_ (Below.mono (by assumption) (by first | omega | (simp <;> omega)))) | (refine Below.alloc ?_ (by first | omega | (simp <;> omega)) _) | (refine below_drewN ?_ _) | (refine Below.drew ?_) | (refine Below.setCell ?_ (by first | omega | (simp <;> omega)) _)))⟩
end Go.Proofs.YtckkgjgfjnfeoaaGreatDoor
