/- Contracts of GapsLong, of the program and of the model, and of ascend. -/
import Derived.Test.YtcfhjkaemhhndaaGKinds
set_option linter.unusedVariables false
namespace Go.Proofs.Ytcfhjkaemhhndaa
open Go.ChangeShapes Go.WideShapes Go.ChangeAt Go.RowKit Go.Joins N

def longF (n s m x : Int) : Int := if gapsF n s m = [] then -1 else ((gapsF n s m).count x : Nat)

set_option maxHeartbeats 1000000 in
theorem countEqual_any (v : Value) (x : Int) (L : List Int) (w : World) (hv : Reads w v L) (hx : L.length ≤ 100000) :
    Calls Try.prog 44 #[v, .int .i64 x] w fun e w' => e = .returned (.int .i64 (L.count x : Nat)) ∧ w' = w := by
  obtain ⟨N, hN⟩ : ∃ N, L.length = N := ⟨_, rfl⟩
  rw [hN] at hx
  obtain ⟨a, cap, rfl, HC0⟩ := hv.cells hN
  have HC1 : Hid (∀ j, j < N → ∃ g off, a = some ⟨g, off, none⟩ ∧ w.cell? ⟨g, off + j, none⟩ = some (.int .i64 (L.getD j 0))) := fun j hj => by
    obtain ⟨g, off, e, h⟩ := HC0 (by omega)
    exact ⟨g, off, e, h.out j hj⟩
  have HN := Lib.hid hN
  clear HC0 hN hv
  go_enter Try.func44, Try.ntmps44
  go_wp2_with fail
  go_loopw [5, 10] (fun y x' wr => ∃ k c : Nat, x' = .int .i64 k ∧ y = .int .i64 c ∧ k ≤ N ∧ c ≤ k ∧ Hid ((L.take k).count x = c) ∧ wr = w) (fun _ x' _ => N - (intOf x').toNat)
  case atStart => exact ⟨0, 0, rfl, rfl, by omega, by omega, by show _ = _; simp, rfl⟩
  case round =>
    obtain ⟨k, c, rfl, rfl, hk, hc, HK, rfl⟩ := hrel
    by_cases hkm : k < N
    · have hkm' : (k : Int) < N := by omega
      obtain ⟨g, off, rfl, ck⟩ := HC1.out k hkm
      have hS := take_one L (k := k) (by rw [HN.out]; exact hkm)
      generalize L.getD k 0 = X at *
      have HS := Lib.hid hS
      clear hS HC1
      by_cases he : X = x
      · subst he
        have HK2 : Hid ((L.take (k + 1)).count X = c + 1) := by show _ = _; rw [HS.out, List.count_append, HK.out]; simp
        go_wp2_with fail
        go_roundw
        case rel => exact ⟨k + 1, c + 1, by go_num, by go_num, by omega, by omega, HK2.out, by trivial⟩
        case measure => simp only [intOf]; omega
      · have he' : (X == x) = false := by simpa using he
        have HK2 : Hid ((L.take (k + 1)).count x = c) := by show _ = _; rw [HS.out, List.count_append, HK.out]; simp [he]
        go_wp2_with fail
        go_roundw
        case rel => exact ⟨k + 1, c, by go_num, rfl, by omega, by omega, HK2.out, by trivial⟩
        case measure => simp only [intOf]; omega
    · obtain rfl : k = N := by omega
      have hkm' : decide ((k : Int) < k) = false := by simp
      have HK2 : Hid (L.count x = c) := by
        have h := HK.out
        rwa [List.take_of_length_le (by rw [HN.out]; omega)] at h
      clear HC1
      go_wp2
      go_ret
      exact ⟨ret_int (by rw [HK2.out]), rfl⟩

set_option maxHeartbeats 1000000 in
theorem gapsLong_any (n s m x : Int) (w : World) :
    Calls Try.prog 17 #[(.agg #[.int .i64 (n), .int .i64 (s)]), .int .i64 m, .int .i64 x] w (IntPost (longF n s m x) w) := by
  have hp := gapsOf_any n s m (w.alloc (.cells #[.int .i64 n, .int .i64 s] 24))
  have hlen := gapsF_len n s m
  unfold longF
  generalize gapsF n s m = L at hp hlen ⊢
  
  obtain ⟨N, hN⟩ : ∃ N, L.length = N := ⟨_, rfl⟩
  by_cases h0 : N = 0
  · subst h0
    obtain rfl := nil_of_len hN
    rw [if_pos rfl]
    go_enter Try.func17, Try.ntmps17
    go_wp2_with fail
    refine (hp).mono ?_; rintro e w1 ⟨v1, rfl, ho1, hb1⟩
    have hz1 := hb1.size
    try simp at hz1
    clear hp
    obtain ⟨a, cap, rfl⟩ := nil_cells ho1.reads
    go_wp2
    go_ret
    exact ⟨rfl, (by repeat (first | exact Below.refl _ _ | assumption | (refine Below.trans ?_ (Below.mono (by assumption) (by first | omega | (simp <;> omega)))) | (refine Below.alloc ?_ (by first | omega | (simp <;> omega)) _) | (refine below_drewN ?_ _) | (refine Below.drew ?_) | (refine Below.setCell ?_ (by first | omega | (simp <;> omega)) _)))⟩
  · have hne : L ≠ [] := fun e => h0 (by rw [e] at hN; simpa using hN.symm)
    rw [if_neg hne]
    have h0' : ((N : Int) == 0) = false := by simp; omega
    clear hne
    go_enter Try.func17, Try.ntmps17
    go_wp2_with fail
    refine (hp).mono ?_; rintro e w1 ⟨v1, rfl, ho1, hb1⟩
    have hz1 := hb1.size
    try simp at hz1
    clear hp
    have hr := ho1.reads
    obtain ⟨a, cap, e1, HC0⟩ := ho1.reads.cells hN
    obtain ⟨g, off, rfl, HC⟩ := HC0 h0
    have hB1 : Below w.heap.size w w1 := (by repeat (first | exact Below.refl _ _ | assumption | (refine Below.trans ?_ (Below.mono (by assumption) (by first | omega | (simp <;> omega)))) | (refine Below.alloc ?_ (by first | omega | (simp <;> omega)) _) | (refine below_drewN ?_ _) | (refine Below.drew ?_) | (refine Below.setCell ?_ (by first | omega | (simp <;> omega)) _)))
    have hK := countEqual_any v1 x L w1 hr (by omega)
    subst e1
    clear ho1 hb1 HC0 HC hN hr
    go_wp2_with fail
    refine hK.mono ?_; rintro e w2 ⟨rfl, rfl⟩
    go_wp2
    go_ret
    exact ⟨rfl, hB1⟩

/-- is each number less than the next one -/
def ascB (xs : List Int) (k : Nat) : Prop := ∀ i, i + 1 < k → xs.getD i 0 < xs.getD (i + 1) 0

theorem ascB_iff (xs : List Int) : ascB xs xs.length ↔ xs.Pairwise (· < ·) := by
  constructor
  · intro h
    refine List.pairwise_iff_getElem.2 fun i j hi hj hij => ?_
    have key : ∀ d, i + (d + 1) < xs.length → xs.getD i 0 < xs.getD (i + (d + 1)) 0 := by
      intro d
      induction d with
      | zero => intro hd; exact h i hd
      | succ d ih =>
        intro hd
        have a := ih (by omega)
        have b := h (i + (d + 1)) (by omega)
        rw [show i + (d + 1 + 1) = i + (d + 1) + 1 by omega]
        omega
    have := key (j - i - 1) (by omega)
    rw [show i + (j - i - 1 + 1) = j by omega, List.getD_eq_getElem?_getD, List.getD_eq_getElem?_getD, List.getElem?_eq_getElem hi, List.getElem?_eq_getElem hj] at this
    exact this
  · intro h i hi
    exact asc_getD h 0 (by omega) hi

set_option maxHeartbeats 1000000 in
theorem ascend_any (v : Value) (xs : List Int) (w : World) (hv : Reads w v xs) (hx : xs.length ≤ 1000000) (hasc : xs.Pairwise (· < ·)) :
    Calls Try.prog 26 #[v] w fun e w' => e = .returned (.bool true) ∧ ∃ n, w' = w.drewN n := by
  obtain ⟨N, hN⟩ : ∃ N, xs.length = N := ⟨_, rfl⟩
  obtain ⟨a, cap, rfl, HC0⟩ := hv.cells hN
  have HA := Lib.hid hasc
  rw [hN] at hx
  by_cases h0 : N = 0
  · subst h0
    clear HC0
    go_enter Try.func26, Try.ntmps26
    go_wp2_with fail
    go_loopw [3] (fun i wr => i = .int .i64 1 ∧ wr = w) (fun _ _ => 0)
    case atStart => exact ⟨rfl, rfl⟩
    case round =>
      obtain ⟨rfl, rfl⟩ := hrel
      go_wp2
      go_ret
      exact ⟨rfl, 0, rfl⟩
  · obtain ⟨g, off, rfl, HC⟩ := HC0 h0
    have HN := Lib.hid hN
    clear HC0 hN hasc
    go_enter Try.func26, Try.ntmps26
    go_wp2_with fail
    go_loopw [3] (fun i wr => ∃ k q : Nat, i = .int .i64 ((k : Int) + 1) ∧ k + 1 ≤ N ∧ wr = w.drewN q) (fun i _ => N - (intOf i).toNat)
    case atStart => exact ⟨0, 0, rfl, by omega, rfl⟩
    case round =>
      obtain ⟨k, q, rfl, hk, rfl⟩ := hrel
      by_cases hlt : k + 1 < N
      · have hlt' : (k : Int) + 1 < N := by omega
        have hlt2 : (k : Int) < N := by omega
        have c1 := HC.out k (by omega)
        have c2 := HC.out (k + 1) hlt
        have hd := asc_getD HA.out 0 (by omega : k < k + 1) (by rw [HN.out]; exact hlt)
        generalize xs.getD k 0 = X at *
        generalize xs.getD (k + 1) 0 = Y at *
        have hd' : decide (Y ≤ X) = false := by simp; omega
        go_wp2_with fail
        go_quiet (fail)
        go_wp2_with fail
        go_roundw
        case rel => exact ⟨k + 1, q + nq, by go_num, by omega, by simp⟩
        case measure => simp only [intOf]; omega
      · have hlt' : decide ((k : Int) + 1 < N) = false := by simp; omega
        go_wp2
        go_ret
        exact ⟨rfl, q, rfl⟩
end Go.Proofs.Ytcfhjkaemhhndaa
