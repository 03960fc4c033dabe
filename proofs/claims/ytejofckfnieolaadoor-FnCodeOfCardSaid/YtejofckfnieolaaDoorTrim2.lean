/- strings.Trim at the cutset of both letters, and the program's CodeOk, continued. -/
import Derived.Test.YtejofckfnieolaaDoorTrim
set_option linter.unusedVariables false
namespace Go.Proofs.YtejofckfnieolaaDoor

set_option maxRecDepth 100000
open Go.ChangeShapes Go.WideShapes Go.ChangeAt Go.RowKit Go.Joins Go.Shelf

/-- what is left is nothing just where all bytes are letters -/
def TrimPost (t : ByteArray) (w : World) (e : Ending) (w' : World) : Prop := (∃ r : ByteArray, e = .returned (.string r) ∧ (r.size = 0 ↔ AllB t t.size)) ∧ Below w.heap.size w w'

theorem trim_both {t T : ByteArray} {k j : Nat} (hk : k ≤ t.size) (h1 : ∀ i (h : i < t.size), k ≤ i → inS t[i] = true) (h2 : ∀ (q : Nat) (h : q < t.size), k = q + 1 → inS t[q] = false)
    (hT : T = t.extract 0 k) (hj : j ≤ T.size) (h3 : ∀ i (h : i < T.size), i < j → inS T[i] = true) (h4 : ∀ h : j < T.size, inS T[j] = false) :
    (T.extract j T.size).size = 0 ↔ AllB t t.size := by
  have hz : T.size = k := by rw [hT, ByteArray.size_extract]; omega
  rw [ByteArray.size_extract]
  constructor
  · intro h
    have hjk : j = k := by omega
    have hk0 : k = 0 := by
      by_cases c : k = 0
      · exact c
      · obtain ⟨q, rfl⟩ : ∃ q, k = q + 1 := ⟨k - 1, by omega⟩
        have a := h2 q (by omega) rfl
        have b := h3 q (by omega) (by omega)
        rw [ext_get hT (by omega) (by omega), a] at b
        cases b
    intro i hi _
    exact (inS_iff _).1 (h1 i hi (by omega))
  · intro h
    have hk0 : k = 0 := by
      by_cases c : k = 0
      · exact c
      · obtain ⟨q, rfl⟩ : ∃ q, k = q + 1 := ⟨k - 1, by omega⟩
        have a := h2 q (by omega) rfl
        rw [(inS_iff _).2 (h q (by omega) (by omega))] at a
        cases a
    omega

theorem set_new (w : World) (n : Nat) (hn : n = w.heap.size) : SetAt (w.alloc (.cells S01 52)) n := by
  subst hn
  intro c
  rw [World.cell?_alloc_at _ _ _ _ rfl]
  exact Lib.setCells_at [48, 49] c

set_option maxHeartbeats 2000000 in
theorem trim_any (t : ByteArray) (w : World) (h0 : 0 < t.size) (ht : t.size ≤ 2000000) :
    Calls Tryd.prog 24 #[.string t, .string ⟨#[48, 49]⟩] w (TrimPost t w) := by
  have hM := makeSet_any w
  have hsc : (storeCells ⟨w.heap.size + 1, 0, none⟩ S01.toList 0).run Tryd.prog ((w.alloc (.cells S01 52)).alloc (.cells (Array.replicate 256 (.bool false)) 52)) = .ok () ((w.alloc (.cells S01 52)).alloc (.cells S01 52)) := by
    have := run_storeCells_new (P := Tryd.prog) (w.alloc (.cells S01 52)) 52 (Array.replicate 256 (.bool false)) S01 (by rw [S01, Lib.setCells_size]; exact (zero_of_info infoSet).2) (by rw [S01, Lib.setCells_size, Array.size_replicate]) (Lib.setCells_one _)
    simpa using this
  have hset : SetAt ((w.alloc (.cells S01 52)).alloc (.cells S01 52)) (w.heap.size + 1) := set_new _ _ (by simp)
  have hsz : S01.size = 256 := Lib.setCells_size _
  have HS := Lib.hid hset
  have hemp : t.toList.isEmpty = false := by
    cases h : t.toList with
    | nil =>
      have : t.toList.length = t.size := by rw [ByteArray.toList_eq, Array.length_toList]; rfl
      rw [h] at this; simp at this; omega
    | cons _ _ => rfl
  clear hset
  go_enter Tryd.func24, Tryd.ntmps24
  go_wp2_with fail
  refine hM.mono ?_; rintro e w2 ⟨rfl, hw⟩
  rw [hw]
  go_wp2_with fail
  rw [(zero_of_info infoSet).1]
  simp only [Result.andThen]
  rw [Oper.upon_value]
  go_wp2_with fail
  have hB : Below w.heap.size w ((w.alloc (.cells S01 52)).alloc (.cells S01 52)) := (by repeat (first | exact Below.refl _ _ | assumption | (refine Below.trans ?_ (Below.mono (by assumption) (by first | omega | (simp <;> omega)))) | (refine Below.alloc ?_ (by first | omega | (simp <;> omega)) _) | (refine below_drewN ?_ _) | (refine Below.drew ?_) | (refine Below.setCell ?_ (by first | omega | (simp <;> omega)) _)))
  clear hM hsc hsz hw
  generalize ((w.alloc (.cells S01 52)).alloc (.cells S01 52)) = w3 at *
  refine (trimRight_any t _ _ HS.out ht).mono ?_; rintro e w4 ⟨⟨k, hk, h1, h2, rfl⟩, rfl⟩
  obtain ⟨T, hT⟩ : ∃ T, t.extract 0 k = T := ⟨_, rfl⟩
  rw [hT]
  have HK := Lib.hid (show ∀ j, j ≤ T.size → (∀ i (h : i < T.size), i < j → inS T[i] = true) → (∀ h : j < T.size, inS T[j] = false) → ((T.extract j T.size).size = 0 ↔ AllB t t.size) from fun j a b c => trim_both hk h1 h2 hT.symm a b c)
  clear h1 h2 hT
  go_wp2_with fail
  refine (trimLeft_any T _ _ HS.out).mono ?_; rintro e w5 ⟨⟨j, hj, h3, h4, rfl⟩, rfl⟩
  have HR := Lib.hid (HK.out j hj h3 h4)
  clear h3 h4
  go_wp2
  go_ret
  exact ⟨⟨_, rfl, HR.out⟩, hB⟩

set_option maxHeartbeats 1000000 in
theorem codeOk_any (u : ByteArray) (w : World) (hu : u.size ≤ 2000000) :
    Calls Tryd.prog 18 #[.string u] w fun e w' => OkPost u e ∧ Below w.heap.size w w' := by
  by_cases h6 : u.size ≤ 60
  · have h6' : (u.size : Int) ≤ 60 := by omega
    by_cases h0 : 0 < u.size
    · go_enter Tryd.func18, Tryd.ntmps18
      go_wp2_with fail
      refine (trim_any u _ h0 hu).mono ?_; rintro e w2 ⟨⟨r, rfl, hr⟩, hb⟩
      by_cases hr0 : r.size = 0
      · have e : r = ⟨#[]⟩ := by
          apply ByteArray.ext
          have : r.data.size = 0 := hr0
          exact Array.eq_empty_of_size_eq_zero this
        have HP := Lib.hid (show CodeP u from ⟨h6, hr.1 hr0⟩)
        subst e
        clear hr hr0
        go_wp2
        go_ret
        exact ⟨⟨_, rfl, by simp; exact HP.out⟩, hb⟩
      · have HP := Lib.hid (show ¬ CodeP u from fun h => hr0 (hr.2 h.2))
        have hemp : r.toList.isEmpty = false := by
          cases h : r.toList with
          | nil =>
            have : r.toList.length = r.size := by rw [ByteArray.toList_eq, Array.length_toList]; rfl
            rw [h] at this; simp at this; omega
          | cons _ _ => rfl
        clear hr hr0
        go_wp2
        go_ret
        exact ⟨⟨_, rfl, by simp; exact HP.out⟩, hb⟩
    · have e : u = ⟨#[]⟩ := by
        apply ByteArray.ext
        have : u.data.size = 0 := by show u.size = 0; omega
        exact Array.eq_empty_of_size_eq_zero this
      have HP := Lib.hid (show CodeP ⟨#[]⟩ from ⟨by decide, fun i hi => absurd hi (Nat.not_lt_zero _)⟩)
      subst e
      clear h0 hu h6 h6'
      go_enter Tryd.func18, Tryd.ntmps18
      go_wp2_with (go_at_call 24; go_in)
      go_ret
      exact ⟨⟨_, rfl, by simp; exact HP.out⟩, (by repeat (first | exact Below.refl _ _ | assumption | (refine Below.trans ?_ (Below.mono (by assumption) (by first | omega | (simp <;> omega)))) | (refine Below.alloc ?_ (by first | omega | (simp <;> omega)) _) | (refine below_drewN ?_ _) | (refine Below.drew ?_) | (refine Below.setCell ?_ (by first | omega | (simp <;> omega)) _)))⟩
  · have h6' : decide ((u.size : Int) ≤ 60) = false := by simp; omega
    have HP := Lib.hid (show ¬ CodeP u from fun h => h6 h.1)
    go_enter Tryd.func18, Tryd.ntmps18
    go_wp2
    go_ret
    exact ⟨⟨_, rfl, by simp; exact HP.out⟩, (by repeat (first | exact Below.refl _ _ | assumption | (refine Below.trans ?_ (Below.mono (by assumption) (by first | omega | (simp <;> omega)))) | (refine Below.alloc ?_ (by first | omega | (simp <;> omega)) _) | (refine below_drewN ?_ _) | (refine Below.drew ?_) | (refine Below.setCell ?_ (by first | omega | (simp <;> omega)) _)))⟩
end Go.Proofs.YtejofckfnieolaaDoor
