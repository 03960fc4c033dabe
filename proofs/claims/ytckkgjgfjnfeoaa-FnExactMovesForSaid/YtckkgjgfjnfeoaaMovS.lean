/- Contracts of chapter 13's functions of the model: words of moves. -/
import Derived.Test.YtckkgjgfjnfeoaaGMov
import Derived.Test.YtckkgjgfjnfeoaaGKit
import Derived.BigQuiet
import Derived.Test.YtckkgjgfjnfeoaaOne
import Derived.Laws.Concat
set_option linter.unusedVariables false
namespace Go.Proofs.Ytckkgjgfjnfeoaa
set_option maxRecDepth 4000

set_option maxRecDepth 4000
open Go.ChangeShapes Go.WideShapes Go.ChangeAt Go.RowKit Go.Joins

theorem u8_is {c : UInt8} {n : Nat} (h : (c.toNat : Int) = n) (hn : n < 256) : c = UInt8.ofNat n := by
  apply UInt8.toNat_inj.1
  rw [UInt8.toNat_ofNat']
  omega

theorem u8_76 {c : UInt8} (h : (c.toNat : Int) = 76) : c = 76 := u8_is (n := 76) h (by omega)

theorem u8_82 {c : UInt8} (h : (c.toNat : Int) = 82) : c = 82 := u8_is (n := 82) h (by omega)

theorem byteM_int (b : Bool) : ((byteM b).toNat : Int) = if b then 82 else 76 := by cases b <;> rfl

set_option maxHeartbeats 1000000 in
theorem specMovesOk_any (u : ByteArray) (w : World) (hu : u.size ≤ 2000000) :
    Calls Try.prog 19 #[.string u] w fun e w' => e = .returned (.bool (mvOkF u)) ∧ w = w' := by
  obtain ⟨R, hR⟩ : ∃ R, mvOkF u = R := ⟨_, rfl⟩
  have HY := Lib.hid (fun h : mvP u => (mvOk_yes h).symm.trans hR)
  have HN := Lib.hid (fun h : ¬ mvP u => (mvOk_no h).symm.trans hR)
  rw [hR]
  clear hR
  go_enter Try.func19, Try.ntmps19
  go_wp2_with fail
  go_loop [3] (fun i => ∃ k : Nat, i = .int .i64 k ∧ k ≤ u.size ∧ Hid (AllM u k)) (fun i => u.size - (intOf i).toNat)
  case atStart => exact ⟨0, rfl, by omega, fun i _ hi => by omega⟩
  case round =>
    obtain ⟨k, rfl, hk, ha⟩ := hrel
    by_cases hlt : k < u.size
    · have hlt' : (k : Int) < u.size := by omega
      by_cases c48 : (u[k].toNat : Int) = 76
      · have h2 := Lib.hid (AllM.next ha.out hlt (.inl (u8_76 c48)))
        go_wp2_with fail
        go_round
        case rel => exact ⟨k + 1, by go_num, by omega, h2.out⟩
        case measure => simp only [intOf]; omega
      · by_cases c49 : (u[k].toNat : Int) = 82
        · have h2 := Lib.hid (AllM.next ha.out hlt (.inr (u8_82 c49)))
          go_wp2_with fail
          go_round
          case rel => exact ⟨k + 1, by go_num, by omega, h2.out⟩
          case measure => simp only [intOf]; omega
        · have n48 : ((u[k].toNat : Int) != 76) = true := by simpa using c48
          have n49 : ((u[k].toNat : Int) != 82) = true := by simpa using c49
          have hN := Lib.hid (HN.out (fun h => by
            rcases h.2 k hlt hlt with e | e
            · exact c48 (by rw [e]; rfl)
            · exact c49 (by rw [e]; rfl)))
          clear ha
          go_wp2
          go_ret
          exact ⟨ret_bool hN.out, rfl⟩
    · have hkn : k = u.size := by omega
      have hlt' : decide ((k : Int) < u.size) = false := by simp; omega
      have HA := Lib.hid (show AllM u u.size by rw [← hkn]; exact ha.out)
      clear ha
      by_cases c : u.size ≤ 58
      · have c' : (u.size : Int) ≤ 58 := by omega
        have hP := Lib.hid (HY.out ⟨c, HA.out⟩)
        go_wp2
        go_ret
        exact ⟨ret_bool hP.out, rfl⟩
      · have c' : decide ((u.size : Int) ≤ 58) = false := by simp; omega
        have hP := Lib.hid (HN.out (fun h => c h.1))
        go_wp2
        go_ret
        exact ⟨ret_bool hP.out, rfl⟩

theorem tok_eq (n s : Nat) : tok (n : Int) (s : Int) = tokN n s := by
  rw [Bool.eq_iff_iff]
  constructor
  · intro h
    obtain ⟨N, S, h1, h2, h3⟩ := tokN_of h
    have e1 : n = N := by omega
    have e2 : s = S := by omega
    rw [e1, e2]; exact h3
  · exact tok_of_tokN

theorem mv_tokI (u : List Bool) : tok (mvN u : Int) (mvS u : Int) = decide (mvN u ≤ 60) := by rw [tok_eq, mv_tok]

theorem mvS_le (u : List Bool) : 1 ≤ mvS u ∧ mvS u < mvN u := by
  have := mvVal_pos u
  unfold mvS mvN
  omega

/-- the bytes of a word, as numbers -/
theorem mv_bytes (v : List Bool) {k : Nat} (h : k < (txtM v).size) : ((txtM v)[k].toNat : Int) = if v.getD k false = true then 82 else 76 := by
  rw [txtM_get h]
  cases v.getD k false <;> rfl

theorem take_more {v : List Bool} {k : Nat} (h : k < v.length) : v.take (k + 1) = v.take k ++ [v.getD k false] := by
  rw [List.take_add_one, List.getElem?_eq_getElem h, Option.toList_some, List.getD_eq_getElem?_getD, List.getElem?_eq_getElem h]
  rfl

theorem take_letter {v : List Bool} {k : Nat} (h : k < v.length) : (txtM v).extract k (k + 1) = txtM [v.getD k false] := by
  rw [txtM_extract, show k + 1 - k = 1 by omega, List.take_one, List.head?_drop, List.getElem?_eq_getElem h, List.getD_eq_getElem?_getD, List.getElem?_eq_getElem h]
  rfl

/-- the state of both fractions after so many moves -/
theorem frac_facts (v : List Bool) (k : Nat) : (fracs Frac.first (v.take k)).b + (fracs Frac.first (v.take k)).d = mvN (v.take k) ∧ (fracs Frac.first (v.take k)).a + (fracs Frac.first (v.take k)).c = mvS (v.take k) ∧ mvS (v.take k) < mvN (v.take k) ∧ mvN (v.take k) ≤ mvN v := by
  refine ⟨(frac_step _).2, (frac_step _).1, (mvS_le _).2, ?_⟩
  have := mvN_mono (v.take k) (v.drop k)
  rwa [List.take_append_drop] at this

theorem frac_next {v : List Bool} {k : Nat} (h : k < v.length) : fracs Frac.first (v.take (k + 1)) = (fracs Frac.first (v.take k)).go (v.getD k false) := by rw [take_more h, fracs_snoc]

end Go.Proofs.Ytckkgjgfjnfeoaa
