/- Contract of hasInt. -/
import Derived.Test.YtnpaicdbmmfdhaaList
set_option linter.unusedVariables false
namespace Go.Proofs.Ytnpaicdbmmfdhaa
open Go.ChangeShapes Go.WideShapes Go.ChangeAt Go.RowKit Go.Joins

set_option maxHeartbeats 1000000 in
theorem hasInt_any (v : Value) (xs : List Int) (n : Int) (w : World) (hv : Reads w v xs) (hx : xs.length ≤ 1000000) :
    Calls Try.prog 16 #[v, .int .i64 n] w fun e w' => e = .returned (.bool (decide (n ∈ xs))) ∧ w = w' := by
  obtain ⟨a, cap, rfl, ha⟩ := hv
  by_cases h0 : xs = []
  · subst h0
    clear ha
    go_enter Try.func16, Try.ntmps16
    go_wp2_with fail
    go_loop [5] (fun i => i = .int .i64 0) (fun _ => 0)
    case atStart => rfl
    case round =>
      obtain rfl := hrel
      go_wp2
      go_ret
      exact ⟨ret_bool (by simp), rfl⟩
  · obtain ⟨g, off, rfl, hg⟩ := ha h0
    clear ha
    go_enter Try.func16, Try.ntmps16
    go_wp2_with fail
    go_loop [5] (fun i => ∃ k : Nat, i = .int .i64 k ∧ k ≤ xs.length ∧ Hid (n ∉ xs.take k)) (fun i => xs.length - (intOf i).toNat)
    case atStart => exact ⟨0, rfl, by omega, by show n ∉ xs.take 0; simp⟩
    case round =>
      obtain ⟨k, rfl, hk, hn⟩ := hrel
      by_cases hlt : k < xs.length
      · have hlt' : (k : Int) < xs.length := by omega
        have c1 := hg k hlt
        have hm : xs.getD k 0 ∈ xs := by rw [List.getD_eq_getElem?_getD, List.getElem?_eq_getElem hlt]; simp
        have hs : xs.take (k + 1) = xs.take k ++ [xs.getD k 0] := by
          rw [List.take_succ_eq_append_getElem hlt, List.getD_eq_getElem?_getD, List.getElem?_eq_getElem hlt]; simp
        generalize xs.getD k 0 = X at c1 hm hs
        have HM := Lib.hid hm
        have HS := Lib.hid hs
        clear hm hs hg
        by_cases he : X = n
        · subst he
          have hin : decide (X ∈ xs) = true := by simpa using HM.out
          have HI := Lib.hid hin
          clear hin
          go_wp2
          go_ret
          exact ⟨ret_bool HI.out.symm, rfl⟩
        · have he' : (X == n) = false := by simpa using he
          go_wp2_with fail
          go_round
          case rel => exact ⟨k + 1, by go_num, by omega, by show n ∉ xs.take (k + 1); rw [HS.out]; simp; exact ⟨hn.out, fun e => he e.symm⟩⟩
          case measure => simp only [intOf]; omega
      · have hlt' : decide ((k : Int) < xs.length) = false := by simp; omega
        have hin : decide (n ∈ xs) = false := by
          have := hn.out
          rw [List.take_of_length_le (by omega)] at this
          simpa using this
        have HI := Lib.hid hin
        clear hin hg
        go_wp2
        go_ret
        exact ⟨ret_bool HI.out.symm, rfl⟩
end Go.Proofs.Ytnpaicdbmmfdhaa
