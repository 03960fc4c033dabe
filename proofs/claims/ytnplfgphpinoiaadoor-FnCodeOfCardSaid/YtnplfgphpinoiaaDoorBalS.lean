/- Contract of the model's BalancedOk. -/
import Derived.Test.YtnplfgphpinoiaaDoorOkS
set_option linter.unusedVariables false
namespace Go.Proofs.YtnplfgphpinoiaaDoor

set_option maxRecDepth 4000
open Go.ChangeShapes Go.WideShapes Go.ChangeAt Go.RowKit Go.Joins

def BalP (u : ByteArray) : Prop := ∃ v : List Bool, v.length ≤ 60 ∧ txtB v = u ∧ Bal v

theorem balP_code {u : ByteArray} (h : BalP u) : CodeP u := by
  obtain ⟨v, hv, rfl, _⟩ := h
  exact codeP_txt hv

theorem txtB_inj' {u v : List Bool} (h : txtB u = txtB v) : u = v := by
  have := congrArg bitsOf h
  rwa [bits_txt, bits_txt] at this

theorem balP_txt {v : List Bool} (hv : v.length ≤ 60) : BalP (txtB v) ↔ Bal v := by
  constructor
  · rintro ⟨u, _, e, h⟩
    rwa [txtB_inj' e] at h
  · intro h
    exact ⟨v, hv, rfl, h⟩

def BalPost (u : ByteArray) (e : Ending) : Prop := ∃ c : Bool, e = .returned (.bool c) ∧ (c = true ↔ BalP u)

theorem winO_zero (v : List Bool) (i : Nat) : winO v i 0 = 0 := by unfold winO; simp

theorem winO_succ {v : List Bool} {i j : Nat} (h : i + j < v.length) : winO v i (j + 1) = winO v i j + (v.getD (i + j) false).toNat := by
  unfold winO
  rw [List.take_add_one, List.getElem?_drop, List.getElem?_eq_getElem h, List.count_append, List.getD_eq_getElem?_getD, List.getElem?_eq_getElem h]
  cases v[i + j] <;> rfl

/-- all shorter lengths are even -/
def EvenTo (v : List Bool) (l : Nat) : Prop := ∀ k, 1 ≤ k → k < l → mostW v k (v.length + 1 - k) ≤ leastW v k (v.length + 1 - k) + 1

theorem EvenTo.next {v : List Bool} {l : Nat} (h : EvenTo v l) (e : mostW v l (v.length + 1 - l) ≤ leastW v l (v.length + 1 - l) + 1) : EvenTo v (l + 1) := by
  intro k h1 h2
  by_cases c : k = l
  · subst c; exact e
  · exact h k h1 (by omega)

theorem EvenTo.bal {v : List Bool} {l : Nat} (h : EvenTo v l) (hl : v.length < l) : Bal v := (bal_iff v).2 fun k h1 h2 => h k h1 (by omega)

set_option maxHeartbeats 4000000 in
theorem specBalancedOk_any (u : ByteArray) (w : World) (hu : u.size ≤ 2000000) :
    Calls Tryd.prog 18 #[.string u] w fun e w' => BalPost u e ∧ w = w' := by
  have hk := specCodeOk_any u w hu
  by_cases hP : CodeP u
  · obtain ⟨v, hv, rfl⟩ := codeP_bits hP
    have hk' := hk.mono (R' := fun e w' => e = .returned (.bool true) ∧ w = w') (fun e w' ⟨⟨c, h1, h2⟩, h3⟩ => ⟨by rw [h1, h2.2 hP], h3⟩)
    clear hk hP hu
    have hz : (txtB v).size = v.length := txtB_size v
    obtain ⟨n, hn⟩ : ∃ n, v.length = n := ⟨_, rfl⟩
    have hzn : ((txtB v).size : Int) = n := by rw [hz, hn]
    have hzN : (txtB v).size = n := by rw [hz, hn]
    have HN := Lib.hid hn
    have HB := Lib.hid (balP_txt hv)
    rw [hn] at hv
    clear hn hz
    have hget : ∀ k, k < n → ∃ h : k < (txtB v).size, ((txtB v)[k].toNat : Int) = bI (v.getD k false) := fun k hk => by
      have h : k < (txtB v).size := by omega
      refine ⟨h, ?_⟩
      rw [txtB_get h]
      cases v.getD k false <;> rfl
    have HG := Lib.hid hget
    clear hget
    obtain ⟨U, hU⟩ : ∃ U, txtB v = U := ⟨_, rfl⟩
    rw [hU] at hk' hzn hzN HB HG ⊢
    clear hU
    go_enter Tryd.func18, Tryd.ntmps18
    go_wp2_with fail
    go_loop [3] (fun x => ∃ l : Nat, x = .int .i64 l ∧ 1 ≤ l ∧ l ≤ n + 1 ∧ Hid (EvenTo v l)) (fun x => n + 1 - (intOf x).toNat)
    case atStart => exact ⟨1, rfl, by omega, by omega, fun k h1 h2 => by omega⟩
    case round =>
      obtain ⟨l, rfl, hl1, hl2, hE⟩ := hrel
      by_cases hln : l ≤ n
      · have hln' : (l : Int) ≤ n := by omega
        go_wp2_with fail
        refine hk'.mono ?_; rintro e w2 ⟨rfl, rfl⟩
        go_wp2_with fail
        go_loop [4, 5, 6, 7, 8] (fun a b c d e => ∃ f : Nat, a = .int .i64 (leastW v l f : Nat) ∧ b = .int .i64 (mostW v l f : Nat) ∧ c = .int .i64 f ∧ f + l ≤ n + 1) (fun _ _ c _ _ => n + 1 - (intOf c).toNat)
        case atStart => exact ⟨0, by show _ = Value.int .i64 ((v.length : Nat) : Int); rw [HN.out], rfl, rfl, by omega⟩
        case round =>
          obtain ⟨f, rfl, rfl, rfl, hf⟩ := hrel
          by_cases hfl : f + l ≤ n
          · have hfl' : (f : Int) + l ≤ n := by omega
            have hwf : IntKind.i64.wrap ((f : Int) + l) = (f : Int) + l := IntWalk.i64_in _ (by omega)
            have hA := leastW_succ v l f
            have hB := mostW_succ v l f
            have hAb := leastW_bd v l f
            have hBb := mostW_bd v l f
            rw [HN.out] at hAb
            generalize leastW v l f = A at *
            generalize mostW v l f = B at *
            have HA := Lib.hid hA
            have HBm := Lib.hid hB
            clear hA hB
            go_wp2_with fail
            go_loop [7, 8] (fun a b => ∃ q : Nat, a = .int .i64 (winO v f (q - f) : Nat) ∧ b = .int .i64 q ∧ f ≤ q ∧ q ≤ f + l ∧ winO v f (q - f) ≤ 60) (fun _ b => n + 1 - (intOf b).toNat)
            case atStart => exact ⟨f, by rw [Nat.sub_self, winO_zero]; rfl, rfl, by omega, by omega, by rw [Nat.sub_self, winO_zero]; omega⟩
            case round =>
              obtain ⟨q, rfl, rfl, hq1, hq2, hq3⟩ := hrel
              by_cases hql : q < f + l
              · have hql' : (q : Int) < (f : Int) + l := by omega
                obtain ⟨hI, hval⟩ := HG.out q (by omega)
                have hqn : (q : Int) < n := by omega
                have hs := winO_succ (v := v) (i := f) (j := q - f) (by rw [HN.out]; omega)
                rw [show f + (q - f) = q by omega, show q - f + 1 = q + 1 - f by omega] at hs
                have hle := winO_le v f (q + 1 - f)
                cases hb : v.getD q false with
                | true =>
                  rw [hb] at hval hs
                  have c49 : (U[q].toNat : Int) = 49 := hval
                  have hs' : winO v f (q + 1 - f) = winO v f (q - f) + 1 := hs
                  clear hval hs hb
                  go_wp2_with fail
                  go_round
                  case rel => exact ⟨q + 1, by rw [hs']; go_num, by go_num, by omega, by omega, by omega⟩
                  case measure => simp only [intOf]; omega
                | false =>
                  rw [hb] at hval hs
                  have c48 : (U[q].toNat : Int) = 48 := hval
                  have hs' : winO v f (q + 1 - f) = winO v f (q - f) := hs
                  clear hval hs hb
                  go_wp2_with fail
                  go_round
                  case rel => exact ⟨q + 1, by rw [hs'], by go_num, by omega, by omega, by omega⟩
                  case measure => simp only [intOf]; omega
              · have hql' : ¬ (q : Int) < (f : Int) + l := by omega
                have eq : q - f = l := by omega
                rw [eq]
                have hC := HA.out
                have hD := HBm.out
                generalize winO v f l = C at *
                have E1 := Lib.hid (show (min (A : Int) C) = ((leastW v l (f + 1) : Nat) : Int) by rw [hC]; omega)
                have E2 := Lib.hid (show (max (B : Int) C) = ((mostW v l (f + 1) : Nat) : Int) by rw [hD]; omega)
                clear hC hD
                go_wp2_with fail
                go_round
                case rel => exact ⟨f + 1, by rw [← E1.out], by rw [← E2.out], by go_num, by omega⟩
                case measure => simp only [intOf]; omega
          · have hfl' : ¬ (f : Int) + l ≤ n := by omega
            have hwf : IntKind.i64.wrap ((f : Int) + l) = (f : Int) + l := IntWalk.i64_in _ (by omega)
            obtain rfl : f = n + 1 - l := by omega
            have hAb := leastW_bd v l (n + 1 - l)
            have hBb := mostW_bd v l (n + 1 - l)
            rw [HN.out] at hAb
            have HE2 := Lib.hid (fun h => EvenTo.next (v := v) (l := l) hE.out h)
            have HE3 := Lib.hid (fun h : Bal v => (bal_iff v).1 h l hl1 (by rw [HN.out]; exact hln))
            rw [HN.out] at HE2 HE3
            generalize leastW v l (n + 1 - l) = A at *
            generalize mostW v l (n + 1 - l) = B at *
            by_cases hev : B ≤ A + 1
            · have hev' : ¬ (A : Int) + 1 < B := by omega
              have HE := Lib.hid (HE2.out hev)
              go_wp2_with fail
              go_round
              case rel => exact ⟨l + 1, by go_num, by omega, by omega, HE.out⟩
              case measure => simp only [intOf]; omega
            · have hev' : (A : Int) + 1 < B := by omega
              have HX := Lib.hid (show ¬ BalP U from fun h => hev (HE3.out (HB.out.1 h)))
              go_wp2
              go_ret
              exact ⟨⟨_, rfl, by simp; exact HX.out⟩, rfl⟩
      · have hln' : ¬ (l : Int) ≤ n := by omega
        have HX := Lib.hid (show BalP U from HB.out.2 (hE.out.bal (by rw [HN.out]; omega)))
        go_wp2_with fail
        refine hk'.mono ?_; rintro e w2 ⟨rfl, rfl⟩
        go_wp2
        go_ret
        exact ⟨⟨_, rfl, by simp; exact HX.out⟩, rfl⟩
  · have h1 : 1 ≤ u.size := by
      by_cases c : 1 ≤ u.size
      · exact c
      · exact absurd ⟨by omega, fun i hi => by omega⟩ hP
    have h1' : (1 : Int) ≤ u.size := by omega
    have HX := Lib.hid (show ¬ BalP u from fun h => hP (balP_code h))
    have hk' := hk.mono (R' := fun e w' => e = .returned (.bool false) ∧ w = w') (fun e w' ⟨⟨c, h1, h2⟩, h3⟩ => ⟨by
      cases c with
      | true => exact absurd (h2.1 rfl) hP
      | false => exact h1, h3⟩)
    clear hk hP
    go_enter Tryd.func18, Tryd.ntmps18
    go_wp2_with fail
    go_loop [3] (fun x => x = .int .i64 1) (fun x => 0)
    case atStart => rfl
    case round =>
      obtain rfl := hrel
      go_wp2_with fail
      refine hk'.mono ?_; rintro e w2 ⟨rfl, rfl⟩
      go_wp2_with fail
      refine hk'.mono ?_; rintro e w3 ⟨rfl, rfl⟩
      go_wp2
      go_ret
      exact ⟨⟨_, rfl, by simp; exact HX.out⟩, rfl⟩
end Go.Proofs.YtnplfgphpinoiaaDoor
