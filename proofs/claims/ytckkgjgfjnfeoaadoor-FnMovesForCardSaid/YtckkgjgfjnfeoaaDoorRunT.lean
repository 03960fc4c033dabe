/- Contract of the model's RunsText. -/
import Derived.Test.YtckkgjgfjnfeoaaDoorMovT
import Derived.Test.YtckkgjgfjnfeoaaDoorNumT
set_option linter.unusedVariables false
namespace Go.Proofs.YtckkgjgfjnfeoaaDoor
set_option maxRecDepth 4000

set_option maxRecDepth 4000
open Go.ChangeShapes Go.WideShapes Go.ChangeAt Go.RowKit Go.Joins

/-- after k letters: the runs so far, and c letters of the run that goes on -/
def RunInv (u : List Bool) (k : Nat) (rs : List (Bool × Nat)) (c : Nat) : Prop :=
  runsM u = rs ++ runsM (List.replicate c (u.getD k false) ++ u.drop k) ∧ (k = u.length → c = 0) ∧ c ≤ k

theorem RunInv.first (u : List Bool) : RunInv u 0 [] 0 := ⟨rfl, fun _ => rfl, Nat.le_refl _⟩

theorem rep_more (x : Bool) (c : Nat) (d : List Bool) : List.replicate c x ++ x :: d = List.replicate (c + 1) x ++ d := by
  rw [List.replicate_succ', List.append_assoc]; rfl

theorem drop_more {u : List Bool} {k : Nat} (h : k < u.length) : u.drop k = u.getD k false :: u.drop (k + 1) := by
  rw [List.drop_eq_getElem_cons h, List.getD_eq_getElem?_getD, List.getElem?_eq_getElem h]; rfl

theorem RunInv.close {u : List Bool} {k c : Nat} {rs : List (Bool × Nat)} (h : RunInv u k rs c) (hk : k < u.length) (hd : k + 1 = u.length ∨ u.getD (k + 1) false ≠ u.getD k false) :
    RunInv u (k + 1) (rs ++ [(u.getD k false, c + 1)]) 0 := by
  obtain ⟨h1, h2, h3⟩ := h
  refine ⟨?_, fun _ => rfl, Nat.zero_le _⟩
  rw [h1, drop_more hk, rep_more, runsM_run]
  · rw [List.append_assoc]; rfl
  · by_cases e : k + 1 = u.length
    · exact .inl (by rw [e]; exact List.drop_length)
    · right
      have hk1 : k + 1 < u.length := by omega
      rw [drop_more hk1]
      have := hd.resolve_left e
      show some _ = some _
      congr 1
      cases hx : u.getD (k + 1) false <;> cases hy : u.getD k false <;> rw [hx, hy] at this <;> first | rfl | exact absurd rfl this

theorem RunInv.more {u : List Bool} {k c : Nat} {rs : List (Bool × Nat)} (h : RunInv u k rs c) (hk : k + 1 < u.length) (hd : u.getD (k + 1) false = u.getD k false) :
    RunInv u (k + 1) rs (c + 1) := by
  obtain ⟨h1, h2, h3⟩ := h
  refine ⟨?_, fun e => by omega, by omega⟩
  rw [h1, drop_more (by omega : k < u.length), rep_more, hd]

theorem RunInv.done {u : List Bool} {c : Nat} {rs : List (Bool × Nat)} (h : RunInv u u.length rs c) : runsM u = rs := by
  obtain ⟨h1, h2, h3⟩ := h
  rw [h2 rfl, List.drop_length] at h1
  rw [h1]; exact List.append_nil _

theorem RunInv.size {u : List Bool} {k c : Nat} {rs : List (Bool × Nat)} (h : RunInv u k rs c) (hu : u.length ≤ 58) : (txtL (runsB rs)).size ≤ 174 := by
  have a := runsB_len (runsM u) (runsM_pos u) (by rw [expR_runs]; exact hu)
  rw [expR_runs] at a
  rw [h.1, runsB_app, List.length_append] at a
  rw [txtL_size]
  omega

set_option maxHeartbeats 4000000 in
theorem specRunsText_any (u : ByteArray) (w : World) (hu : u.size ≤ 2000000) :
    Calls Tryd.prog 27 #[.string u] w fun e w' => e = .returned (.string (rtF u)) ∧ Below w.heap.size w w' := by
  have hB0 := Below.refl w.heap.size w
  have hmo := Lib.hid (fun w => specMovesOk_any u w hu)
  rcases mvOk_cases u with ⟨v, hv, rfl, hok⟩ | ⟨hno, hok⟩
  · rw [hok] at hmo
    rw [show rtF (txtM v) = runsTxt v from onM_yes hv]
    by_cases hv0 : v = []
    · subst hv0
      rw [show runsTxt [] = ⟨#[46]⟩ from rfl]
      rw [show txtM [] = ⟨#[]⟩ from rfl] at hmo ⊢
      clear hok hv hu
      go_enter Tryd.func27, Tryd.ntmps27
      go_wp2_with fail
      refine (hmo.out _).mono ?_; rintro e w1 ⟨rfl, rfl⟩
      go_wp2
      go_ret
      exact ⟨rfl, hB0⟩
    · have hsz := txtM_size v
      have hL0 : 0 < v.length := List.length_pos_iff.2 hv0
      have hRT : Hid (runsTxt v = txtL (runsB (runsM v))) := by show _ = _; unfold runsTxt; rw [if_neg hv0]
      have HG := Lib.hid (fun k (h : k < (txtM v).size) => mv_bytes v h)
      have HTk := Lib.hid (fun k (h : k < v.length) => take_letter (v := v) h)
      have HI0 := Lib.hid (RunInv.first v)
      have HS := Lib.hid (fun (k c : Nat) (rs : List (Bool × Nat)) (h : RunInv v k rs c) => h.size hv)
      have HLn := Lib.hid (show ∀ k c rs, RunInv v k rs c → c ≤ k from fun k c rs h => h.2.2)
      have HNum := Lib.hid (fun (c : Nat) (w : World) (h : c ≤ 60) => specNumber_any c w (by omega))
      have HNs : Hid (∀ c : Nat, c ≤ 60 → (txtL (decN c)).size ≤ 2) := fun c h => by
        rw [txtL_size]; exact decN_len 1 (by omega) (by omega)
      obtain ⟨R, hR⟩ : ∃ R, runsTxt v = R := ⟨_, rfl⟩
      rw [hR] at hRT ⊢
      obtain ⟨U, hU⟩ : ∃ U, txtM v = U := ⟨_, rfl⟩
      rw [hU] at hsz hmo HG HTk ⊢
      have HL : Hid (v.length = v.length) := rfl
      obtain ⟨L, hL⟩ : ∃ L, v.length = L := ⟨_, rfl⟩
      have HLv := Lib.hid hL
      rw [hL] at hv hsz HTk hL0
      have hne : U.toList.isEmpty = false := by
        cases e : U.toList with
        | nil => have := toList_len U; rw [e] at this; simp at this; omega
        | cons => rfl
      clear hR hU hL hok HL hv0 hu
      go_enter Tryd.func27, Tryd.ntmps27
      go_wp2_with fail
      refine (hmo.out _).mono ?_; rintro e w1 ⟨rfl, rfl⟩
      go_wp2_with fail
      go_loopw [3, 4, 5] (fun xo xn xk wr => ∃ (k c : Nat) (A : ByteArray) (rs : List (Bool × Nat)), xo = .string A ∧ xn = .int .i64 c ∧ xk = .int .i64 k ∧ k ≤ L ∧ c ≤ k ∧ A.size ≤ 174 ∧ Hid (A = txtL (runsB rs)) ∧ Hid (RunInv v k rs c) ∧ Below w.heap.size w wr) (fun _ _ xk _ => L - (intOf xk).toNat)
      case atStart => exact ⟨0, 0, ⟨#[]⟩, [], rfl, rfl, rfl, by omega, by omega, by decide, rfl, HI0.out, hB0⟩
      case round =>
        obtain ⟨k, c, A, rs, rfl, rfl, rfl, hk, hck, hA, HA, HI, hBr⟩ := hrel
        clear HI0 hB0
        by_cases hkL : k < L
        · have hkL' : (k : Int) < (L : Int) := by omega
          have hkU : k < U.size := by omega
          obtain ⟨j, hj⟩ : ∃ j, k + 1 = j := ⟨_, rfl⟩
          obtain ⟨d, hd⟩ : ∃ d, c + 1 = d := ⟨_, rfl⟩
          have wj : IntKind.i64.wrap ((k : Int) + 1) = (j : Int) := by rw [show (k : Int) + 1 = (j : Int) by omega]; exact IntWalk.i64_in _ (by omega)
          have wd : IntKind.i64.wrap ((c : Int) + 1) = (d : Int) := by rw [show (c : Int) + 1 = (d : Int) by omega]; exact IntWalk.i64_in _ (by omega)
          have b0 := HG.out k hkU
          have hex := HTk.out k hkL
          rw [hj] at hex
          have hes : (U.extract k j).size = 1 := by rw [hex]; exact txtM_size _
          have b1 : (j : Int) ≤ (L : Int) := by omega
          have b2 : (k : Int) ≤ (j : Int) := by omega
          have HNd := Lib.hid (fun w => HNum.out d w (by omega))
          have hNs := HNs.out d (by omega)
          by_cases hcl : k + 1 = L ∨ v.getD (k + 1) false ≠ v.getD k false
          · have HI2 := Lib.hid (RunInv.close HI.out (by rw [HLv.out]; exact hkL) (by rw [HLv.out]; exact hcl))
            have hS2 := HS.out _ _ _ HI2.out
            rw [hj, hd] at HI2
            rw [hd] at hS2
            have E : Hid (A ++ U.extract k j ++ txtL (decN d) = txtL (runsB (rs ++ [(v.getD k false, d)]))) := by
              show _ = _
              rw [HA.out, hex, runsB_snoc]
              show txtL _ ++ txtL [byteM _] ++ txtL _ = _
              rw [txtL_append, txtL_append, List.append_assoc]; rfl
            have hE2 : (A ++ U.extract k j ++ txtL (decN d)).size ≤ 174 := by rw [E.out]; exact hS2
            generalize txtL (decN d) = DT at *
            by_cases hl : k + 1 = L
            · obtain rfl : j = L := by omega
              clear b0 hex hcl
              go_wp2_with fail
              go_quiet (fail)
              have hB2 := below_drewN hBr nq
              generalize wr.drewN nq = wq at *
              go_wp2_with fail
              go_region_with (go_at_call 49; refine (HNd.out _).mono ?_; rintro e w' ⟨rfl, hb'⟩)
              all_goals
                go_wp2_with fail
                go_roundw
                case rel => exact ⟨j, 0, _, _, rfl, rfl, rfl, by omega, by omega, hE2, E.out, HI2.out, (below_drewN hB2 1).trans (hb'.mono (below_drewN hB2 1).size)⟩
                case measure => simp only [intOf]; omega
            · have hj2 : ¬ (j : Int) = (L : Int) := by omega
              have hj3 : ¬ j = L := by omega
              have hjU : j < U.size := by omega
              have hjL : (j : Int) < (L : Int) := by omega
              have b9 := HG.out j hjU
              have hx : v.getD j false = !(v.getD k false) := by
                have := hcl.resolve_left hl
                rw [hj] at this
                cases h1 : v.getD j false <;> cases h2 : v.getD k false <;> rw [h1, h2] at this <;> first | rfl | exact absurd rfl this
              rw [hx] at b9
              clear hex hcl hx
              cases hy : v.getD k false with
              | false =>
                rw [hy] at b0 b9 E HI2
                have b0' : (U[k].toNat : Int) = 76 := b0
                have b9' : (U[j].toNat : Int) = 82 := b9
                clear b0 b9
                go_wp2_with fail
                go_quiet (fail)
                have hB2 := below_drewN hBr nq
                generalize wr.drewN nq = wq at *
                go_wp2_with fail
                go_region_with (go_at_call 49; refine (HNd.out _).mono ?_; rintro e w' ⟨rfl, hb'⟩)
                all_goals
                  go_wp2_with fail
                  go_roundw
                  case rel => exact ⟨j, 0, _, _, rfl, rfl, rfl, by omega, by omega, hE2, E.out, HI2.out, (below_drewN hB2 1).trans (hb'.mono (below_drewN hB2 1).size)⟩
                  case measure => simp only [intOf]; omega
              | true =>
                rw [hy] at b0 b9 E HI2
                have b0' : (U[k].toNat : Int) = 82 := b0
                have b9' : (U[j].toNat : Int) = 76 := b9
                clear b0 b9
                go_wp2_with fail
                go_quiet (fail)
                have hB2 := below_drewN hBr nq
                generalize wr.drewN nq = wq at *
                go_wp2_with fail
                go_region_with (go_at_call 49; refine (HNd.out _).mono ?_; rintro e w' ⟨rfl, hb'⟩)
                all_goals
                  go_wp2_with fail
                  go_roundw
                  case rel => exact ⟨j, 0, _, _, rfl, rfl, rfl, by omega, by omega, hE2, E.out, HI2.out, (below_drewN hB2 1).trans (hb'.mono (below_drewN hB2 1).size)⟩
                  case measure => simp only [intOf]; omega
          · have hcl2 : k + 1 < L ∧ v.getD (k + 1) false = v.getD k false := by
              by_cases e : k + 1 = L
              · exact absurd (.inl e) hcl
              · refine ⟨by omega, ?_⟩
                by_cases e2 : v.getD (k + 1) false = v.getD k false
                · exact e2
                · exact absurd (.inr e2) hcl
            obtain ⟨hl, hx⟩ := hcl2
            have HI2 := Lib.hid (RunInv.more HI.out (by rw [HLv.out]; exact hl) hx)
            rw [hj, hd] at HI2
            rw [hj] at hx
            have hj2 : ¬ (j : Int) = (L : Int) := by omega
            have hj3 : ¬ j = L := by omega
            have hjU : j < U.size := by omega
            have hjL : (j : Int) < (L : Int) := by omega
            have b9 := HG.out j hjU
            rw [hx] at b9
            clear hex hcl hx
            generalize (if v.getD k false = true then (82 : Int) else 76) = X at b0 b9
            go_wp2_with fail
            go_quiet (fail)
            have hB2 := below_drewN hBr nq
            generalize wr.drewN nq = wq at *
            go_wp2_with fail
            go_roundw
            case rel => exact ⟨j, d, A, rs, rfl, rfl, rfl, by omega, by omega, hA, HA.out, HI2.out, hB2⟩
            case measure => simp only [intOf]; omega
        · obtain rfl : k = L := by omega
          have hkl' : ¬ (k : Int) < (k : Int) := by omega
          have hR2 : R = A := by rw [hRT.out, HA.out, RunInv.done (by rw [HLv.out]; exact HI.out)]
          subst hR2
          go_wp2
          go_ret
          exact ⟨rfl, hBr⟩
  · rw [show rtF u = ⟨#[]⟩ from onM_no hno]
    rw [hok] at hmo
    go_enter Tryd.func27, Tryd.ntmps27
    go_wp2_with fail
    refine (hmo.out _).mono ?_; rintro e w1 ⟨rfl, rfl⟩
    go_wp2
    go_ret
    exact ⟨rfl, hB0⟩
end Go.Proofs.YtckkgjgfjnfeoaaDoor
