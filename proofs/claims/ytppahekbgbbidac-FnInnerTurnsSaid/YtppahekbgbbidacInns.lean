/- Contracts of the model's InnerTurn, and of InnerTurns of both. -/
import Derived.Test.YtppahekbgbbidacInn
import Derived.Test.YtppahekbgbbidacTurns
set_option linter.unusedVariables false
namespace Go.Proofs.Ytppahekbgbbidac

set_option maxRecDepth 4000
open Go.ChangeShapes Go.WideShapes Go.ChangeAt Go.RowKit Go.Joins

set_option maxHeartbeats 2000000 in
theorem specInnerTurn_any (n s : Int) (w : World) : Calls Try.prog 41 #[(.agg #[.int .i64 (n), .int .i64 (s)])] w (InnPost n s w) := by
  have t0 : Two ((w.alloc (.cells #[.int .i64 n, .int .i64 s] 24)).alloc (.cells #[.int .i64 0, .int .i64 0] 24)) w.heap.size (.int .i64 n) (.int .i64 s) 24 := (Two.new _ _ _ _).alloc _
  have u0 : Two ((w.alloc (.cells #[.int .i64 n, .int .i64 s] 24)).alloc (.cells #[.int .i64 0, .int .i64 0] 24)) (w.heap.size + 1) (.int .i64 0) (.int .i64 0) 24 := Two.new' _ _ _ _ _ (by simp)
  have hB0 : Below w.heap.size w ((w.alloc (.cells #[.int .i64 n, .int .i64 s] 24)).alloc (.cells #[.int .i64 0, .int .i64 0] 24)) := (by repeat (first | exact Below.refl _ _ | assumption | (refine Below.trans ?_ (Below.mono (by assumption) (by first | omega | (simp <;> omega)))) | (refine Below.alloc ?_ (by first | omega | (simp <;> omega)) _) | (refine below_drewN ?_ _) | (refine Below.drew ?_) | (refine Below.setCell ?_ (by first | omega | (simp <;> omega)) _)))
  have c0 := t0.cell0
  have c1 := t0.cell1
  by_cases hc : tok n s = true ∧ 2 ≤ s
  · obtain ⟨ht, h2⟩ := hc
    have hb := tok_bd ht
    unfold InnPost
    rw [innF_yes ht h2, innP_yes ht h2]
    have h2' : ¬ s < 2 := by omega
    have m1 : n.tmod s = n % s := Int.tmod_eq_emod_of_nonneg (by omega)
    have m2 := Int.emod_lt_of_pos n (show 0 < s by omega)
    have m3 := Int.emod_nonneg n (show s ≠ 0 by omega)
    have hne : ¬ s = 0 := by omega
    generalize n % s = r at *
    have hwr : IntKind.i64.wrap r = r := IntWalk.i64_in _ (by omega)
    go_enter Try.func41, Try.ntmps41
    go_wp2_with fail
    refine (specTurnOk_any _ _ _).mono ?_; rintro e w2 ⟨rfl, hb2⟩
    rw [ht]
    have t2 := t0.below hb2 t0.lt
    have u2 := u0.below hb2 u0.lt
    have hB2 := hB0.trans (hb2.mono hB0.size)
    clear hb2 t0 u0 hB0 c0 c1 ht
    have c0 := t2.cell0
    have c1 := t2.cell1
    have d0 := u2.cell0
    have d1 := u2.cell1
    have f0 := u2.free 0
    have f1 := u2.free 1
    have u5 := (u2.set0 (.int .i64 s)).set1 (.int .i64 r)
    have e0 := u5.cell0
    have e1 := u5.cell1
    go_wp2_with fail
    go_region
    all_goals go_wp2
    all_goals exact bodyPost_ret (v := .tuple #[(.agg #[.int .i64 (s), .int .i64 (r)]), .bool true]) (by simp [results, Try.results41, go_sem, e0, e1]) rfl ⟨rfl, Below.drewS ((hB2.setCell (by simp) _).setCell (by simp) _)⟩
  · have hI := innF_no hc
    have hP := innP_no hc
    unfold InnPost
    rw [hI, hP]
    by_cases ht : tok n s = true
    · have h2 : s < 2 := by
        by_cases c : s < 2
        · exact c
        · exact absurd ⟨ht, by omega⟩ hc
      go_enter Try.func41, Try.ntmps41
      go_wp2_with fail
      refine (specTurnOk_any _ _ _).mono ?_; rintro e w2 ⟨rfl, hb2⟩
      rw [ht]
      have t2 := t0.below hb2 t0.lt
      have u2 := u0.below hb2 u0.lt
      have hB2 := hB0.trans (hb2.mono hB0.size)
      clear hb2 t0 u0 hB0 c0 c1
      have c0 := t2.cell0
      have c1 := t2.cell1
      have f0 := u2.free 0
      have f1 := u2.free 1
      have d0 := u2.cell0
      have d1 := u2.cell1
      have u5 := (u2.set0 (.int .i64 0)).set1 (.int .i64 0)
      have e0 := u5.cell0
      have e1 := u5.cell1
      go_wp2
      exact bodyPost_ret (v := .tuple #[(.agg #[.int .i64 (0), .int .i64 (0)]), .bool false]) (by simp [results, Try.results41, go_sem, e0, e1]) rfl ⟨rfl, (hB2.setCell (by simp) _).setCell (by simp) _⟩
    · have ht' : tok n s = false := by simpa using ht
      go_enter Try.func41, Try.ntmps41
      go_wp2_with fail
      refine (specTurnOk_any _ _ _).mono ?_; rintro e w2 ⟨rfl, hb2⟩
      rw [ht']
      have t2 := t0.below hb2 t0.lt
      have u2 := u0.below hb2 u0.lt
      have hB2 := hB0.trans (hb2.mono hB0.size)
      clear hb2 t0 u0 hB0 c0 c1
      have f0 := u2.free 0
      have f1 := u2.free 1
      have d0 := u2.cell0
      have d1 := u2.cell1
      have u5 := (u2.set0 (.int .i64 0)).set1 (.int .i64 0)
      have e0 := u5.cell0
      have e1 := u5.cell1
      go_wp2
      exact bodyPost_ret (v := .tuple #[(.agg #[.int .i64 (0), .int .i64 (0)]), .bool false]) (by simp [results, Try.results41, go_sem, e0, e1]) rfl ⟨rfl, (hB2.setCell (by simp) _).setCell (by simp) _⟩

def ListTPost (ts : List (Int × Int)) (w : World) (e : Ending) (w' : World) : Prop := ∃ v, e = .returned v ∧ OwnT w' w.heap.size v ts ∧ Below w.heap.size w w'

def lenV : Value → Nat
  | .slice _ n _ => n
  | _ => 0

/-- on the way: D is done, and if there is a further turn, it is (p, q) -/
def OnWay (R : List (Int × Int)) (D : List (Int × Int)) (ok : Bool) (p q : Int) : Prop := (ok = true → tok p q = true ∧ D ++ innersF p q = R) ∧ (ok = false → D = R)

theorem OnWay.lt {R D : List (Int × Int)} {p q : Int} (h : OnWay R D true p q) : D.length < R.length := by
  obtain ⟨ht, e⟩ := h.1 rfl
  rw [← e, List.length_append]
  by_cases c : 2 ≤ q
  · rw [innersF_succ ht c]; simp
  · rw [innersF_last ht c]; simp

theorem OnWay.next {R D : List (Int × Int)} {p q : Int} (h : OnWay R D true p q) : OnWay R (D ++ [(p, q)]) (innP p q) (innF p q).1 (innF p q).2 := by
  obtain ⟨ht, e⟩ := h.1 rfl
  by_cases c : 2 ≤ q
  · rw [innP_yes ht c, innF_yes ht c]
    refine ⟨fun _ => ⟨tok_inn ht c, ?_⟩, fun h => by cases h⟩
    rw [innersF_succ ht c] at e
    rw [List.append_assoc]; exact e
  · rw [innP_no (fun k => c k.2)]
    refine ⟨fun h => (by cases h), fun _ => ?_⟩
    rw [innersF_last ht c] at e
    exact e

theorem OwnT.len {w : World} {b : Nat} {v : Value} {xs : List (Int × Int)} (h : OwnT w b v xs) : lenV v = xs.length := by
  obtain ⟨a, cap, rfl, _⟩ := h.cells rfl
  rfl

theorem onWay_start (n s : Int) : OnWay (innersF n s) [] (tok n s) n s := by
  cases h : tok n s with
  | true => exact ⟨fun _ => ⟨h, rfl⟩, fun h => (by cases h)⟩
  | false => exact ⟨fun h => (by cases h), fun _ => (innersF_no (n := n) (s := s) (by rw [h]; simp)).symm⟩

set_option maxHeartbeats 4000000 in
theorem innerTurns_any (n s : Int) (w : World) : Calls Try.prog 45 #[(.agg #[.int .i64 (n), .int .i64 (s)])] w (ListTPost (innersF n s) w) := by
  
  have hl := inners_len n s
  have hw := onWay_start n s
  generalize innersF n s = R at *
  have hT := fun w => turnOk_any n s w
  generalize tok n s = K at *
  have HW := Lib.hid hw
  have HT := Lib.hid hT
  clear hw hT
  go_enter Try.func45, Try.ntmps45
  go_wp2_with fail
  refine (HT.out _).mono ?_; rintro e w1 ⟨rfl, hb1⟩
  have hz1 := hb1.size
  try simp at hz1
  have t1 : Two w1 (w.heap.size) (.int .i64 n) (.int .i64 s) 24 := Two.below (by repeat (first | assumption | exact Two.new' _ _ _ _ _ (by simp) | refine Two.alloc ?_ _ | refine Two.drewN ?_ _)) hb1 (by first | omega | (simp <;> omega))
  have hlt1 : (w.heap.size) < w1.heap.size := t1.lt
  have hnt1 : ¬ (w.heap.size) = w1.heap.size := Nat.ne_of_lt hlt1
  have t1c := t1.cell0
  have t1d := t1.cell1
  have hB1 : Below w.heap.size w w1 := (by repeat (first | exact Below.refl _ _ | assumption | (refine Below.trans ?_ (Below.mono (by assumption) (by first | omega | (simp <;> omega)))) | (refine Below.alloc ?_ (by first | omega | (simp <;> omega)) _) | (refine below_drewN ?_ _) | (refine Below.drew ?_) | (refine Below.setCell ?_ (by first | omega | (simp <;> omega)) _)))
  clear hb1 t1c t1d
  go_wp2_with fail
  go_loopw [3, 4] (fun x y wr => ∃ (p q : Int) (D : List (Int × Int)) (v0 : Value) (ok : Bool), v0 = x ∧ y = .bool ok ∧ Hid (OnWay R D ok p q) ∧ OwnT wr (w.heap.size + 1) v0 D ∧ Two wr w.heap.size (.int .i64 p) (.int .i64 q) 24 ∧ Below w.heap.size w wr) (fun x _ _ => R.length - lenV x)
  case atStart => exact ⟨n, s, [], _, K, rfl, rfl, HW, OwnT.nil _ _, t1, hB1⟩
  case round =>
    obtain ⟨p, q, D, v0, ok, rfl, rfl, HO, ho, t, hB⟩ := hrel
    clear t1 hB1 HT HW hlt1 hnt1 hz1
    have c0 := t.cell0
    have c1 := t.cell1
    have lt := t.lt
    cases ok with
    | true =>
      have hlt := HO.out.lt
      have HN := Lib.hid HO.out.next
      have HL : Hid (D.length = D.length) := Eq.refl _
      obtain ⟨d, hd⟩ : ∃ d, D.length = d := ⟨_, rfl⟩
      have HLd := Lib.hid hd
      have HV := Lib.hid ho.len
      have hd8 : d ≤ 8 := by omega
      have hdl : d < R.length := by omega
      clear hd hlt HO HL
      go_wp2_with (at_builtin; refine append_turn rfl _ _ rfl (w.heap.size + 1) v0 D d HLd (by omega) rfl ho (by omega) rfl ?_)
      intro v5 w5 ho5 hap5 hb5
      have t5 := t.below hb5 (by omega)
      have hB5 := hB.trans (hb5.mono (by omega))
      have hz5 := hb5.size
      clear ho hap5 hb5 t hB c0 c1 lt
      have c0 := t5.cell0
      have c1 := t5.cell1
      have lt := t5.lt
      go_wp2_with fail
      refine (innerTurn_any p q _).mono ?_; rintro e w6 ⟨rfl, hb6⟩
      have t6 := t5.below hb6 lt
      have ho6 := ho5.below hb6
      have hB6 := hB5.trans (hb6.mono hB5.size)
      have hz6 := hb6.size
      clear hb6 t5 ho5 hB5 c0 c1 lt
      generalize (innF p q).1 = P at *
      generalize (innF p q).2 = Q at *
      generalize innP p q = ok5 at *
      have f0 := t6.free 0
      have f1 := t6.free 1
      have c0 := t6.cell0
      have c1 := t6.cell1
      have t7 := (t6.set0 (.int .i64 P)).set1 (.int .i64 Q)
      have hB7 : Below w.heap.size w ((w6.setCell ⟨w.heap.size, 0, none⟩ (.int .i64 P)).setCell ⟨w.heap.size, 1, none⟩ (.int .i64 Q)) := (hB6.setCell (Nat.le_refl _) _).setCell (Nat.le_refl _) _
      have ho7 : OwnT ((w6.setCell ⟨w.heap.size, 0, none⟩ (.int .i64 P)).setCell ⟨w.heap.size, 1, none⟩ (.int .i64 Q)) (w.heap.size + 1) v5 (D ++ [(p, q)]) := OwnT.away (OwnT.away ho6 (by omega) 0 _) (by omega) 1 _
      clear ho6 t6 hB6
      go_wp2_with fail
      go_roundw
      case rel => exact ⟨P, Q, D ++ [(p, q)], v5, ok5, rfl, rfl, HN, ho7, t7, hB7⟩
      case measure =>
        have a1 := ho7.len
        have a2 := HV.out
        have a3 := HLd.out
        rw [List.length_append] at a1
        simp at a1 ⊢
        omega
    | false =>
      have hD := HO.out.2 rfl
      subst hD
      have ho' : OwnT wr w.heap.size v0 D := OwnT.mono (b := w.heap.size + 1) ho (by omega)
      clear ho HO
      go_wp2
      go_ret
      exact ⟨_, rfl, ho', hB⟩

set_option maxHeartbeats 4000000 in
theorem specInnerTurns_any (n s : Int) (w : World) : Calls Try.prog 44 #[(.agg #[.int .i64 (n), .int .i64 (s)])] w (ListTPost (innersF n s) w) := by
  have hnil := made_nilT (w.alloc (.cells #[.int .i64 n, .int .i64 s] 24))
  rw [World.size_alloc] at hnil
  have ht0 : Two ((w.alloc (.cells #[.int .i64 n, .int .i64 s] 24)).alloc (.cells #[] 24)) w.heap.size (.int .i64 n) (.int .i64 s) 24 := (Two.new _ _ _ _).alloc _
  have hB0 : Below w.heap.size w ((w.alloc (.cells #[.int .i64 n, .int .i64 s] 24)).alloc (.cells #[] 24)) := (by repeat (first | exact Below.refl _ _ | assumption | (refine Below.trans ?_ (Below.mono (by assumption) (by first | omega | (simp <;> omega)))) | (refine Below.alloc ?_ (by first | omega | (simp <;> omega)) _) | (refine below_drewN ?_ _) | (refine Below.drew ?_) | (refine Below.setCell ?_ (by first | omega | (simp <;> omega)) _)))
  have hsz0 : w.heap.size + 1 < ((w.alloc (.cells #[.int .i64 n, .int .i64 s] 24)).alloc (.cells #[] 24)).heap.size := by simp
  have c0 := ht0.cell0
  have c1 := ht0.cell1
  have hl := inners_len n s
  have hw := onWay_start n s
  by_cases ht : tok n s = true
  · rw [ht] at hw
    generalize innersF n s = R at *
    have hlt := hw.lt
    have HN := Lib.hid hw.next
    clear hw
    go_enter Try.func44, Try.ntmps44
    go_wp2_with fail
    refine (specTurnOk_any _ _ _).mono ?_; rintro e w1 ⟨rfl, hb1⟩
    rw [ht]
    have t1 := ht0.below hb1 ht0.lt
    have ho1 := hnil.below hb1
    have hB1 := hB0.trans (hb1.mono hB0.size)
    have hz1 := hb1.size
    clear hb1 ht0 hnil hB0 c0 c1
    have c0 := t1.cell0
    have c1 := t1.cell1
    go_wp2_with (at_builtin; refine append_turn rfl _ _ rfl (w.heap.size + 1) _ [] 0 (by show _ = _; rfl) (by omega) rfl ho1 (by omega) rfl ?_)
    intro v2 w2 ho2 hap2 hb2
    have t2 := t1.below hb2 (by omega)
    have hB2 := hB1.trans (hb2.mono (by omega))
    have hz2 := hb2.size
    clear hb2 t1 ho1 hB1 c0 c1 hap2
    have c0 := t2.cell0
    have c1 := t2.cell1
    have lt2 := t2.lt
    go_wp2_with fail
    refine (specInnerTurn_any n s _).mono ?_; rintro e w3 ⟨rfl, hb3⟩
    have ho3 := ho2.below hb3
    have hB3 := hB2.trans (hb3.mono hB2.size)
    have hz3 := hb3.size
    clear hb3 t2 ho2 hB2 c0 c1 lt2
    generalize (innF n s).1 = P at *
    generalize (innF n s).2 = Q at *
    generalize innP n s = ok3 at *
    have b4 : Two (w3.alloc (.cells #[.int .i64 P, .int .i64 Q] 24)) w3.heap.size (.int .i64 P) (.int .i64 Q) 24 := Two.new _ _ _ _
    have ho4 : OwnT (w3.alloc (.cells #[.int .i64 P, .int .i64 Q] 24)) (w.heap.size + 1) v2 ([] ++ [(n, s)]) := World.ownsRow.alloc ho3 _
    have hn4 : v2.ownBlock ≠ some w3.heap.size := fun e => by have := (World.ownsRow.lt ho3 _ e).2; omega
    have hB4 : Below w.heap.size w (w3.alloc (.cells #[.int .i64 P, .int .i64 Q] 24)) := hB3.alloc hB3.size _
    have hzB : w.heap.size + 1 < w3.heap.size := by omega
    go_wp2_with fail
    generalize w3.heap.size = B at *
    generalize w3.alloc (.cells #[.int .i64 P, .int .i64 Q] 24) = w4 at *
    clear ho3 hB3 hz3
    go_loopw [3, 5] (fun x y wr => ∃ (p q : Int) (D : List (Int × Int)) (v0 : Value) (ok : Bool), v0 = x ∧ y = .bool ok ∧ Hid (OnWay R D ok p q) ∧ OwnT wr (w.heap.size + 1) v0 D ∧ Hid (v0.ownBlock ≠ some B) ∧ Two wr B (.int .i64 p) (.int .i64 q) 24 ∧ Below w.heap.size w wr) (fun x _ _ => R.length - lenV x)
    case atStart => exact ⟨P, Q, [] ++ [(n, s)], _, ok3, rfl, rfl, HN, ho4, hn4, b4, hB4⟩
    case round =>
      obtain ⟨p, q, D, v0, ok, rfl, rfl, HO, ho, hne, t, hB⟩ := hrel
      clear b4 ho4 hn4 hB4 HN
      have c0 := t.cell0
      have c1 := t.cell1
      have lt := t.lt
      cases ok with
      | true =>
        have hlt := HO.out.lt
        have HN := Lib.hid HO.out.next
        obtain ⟨d, hd⟩ : ∃ d, D.length = d := ⟨_, rfl⟩
        have HLd := Lib.hid hd
        have HV := Lib.hid ho.len
        have hd8 : d ≤ 8 := by omega
        have hdl : d < R.length := by omega
        clear hd hlt HO
        go_wp2_with (at_builtin; refine append_turn rfl _ _ rfl (w.heap.size + 1) v0 D d HLd (by omega) rfl ho (by omega) rfl ?_)
        intro v5 w5 ho5 hap5 hb5
        obtain ⟨hn5, hk5⟩ := hap5 B lt hne.out
        have t5 := t.same hk5
        have Hn5 := Lib.hid hn5
        have hB5 := hB.trans (hb5.mono (by omega))
        have hz5 := hb5.size
        clear ho hap5 hb5 t hB c0 c1 lt hk5 hn5
        have c0 := t5.cell0
        have c1 := t5.cell1
        have lt := t5.lt
        go_wp2_with fail
        refine (specInnerTurn_any p q _).mono ?_; rintro e w6 ⟨rfl, hb6⟩
        have t6 := t5.below hb6 lt
        have ho6 := ho5.below hb6
        have hB6 := hB5.trans (hb6.mono hB5.size)
        have hz6 := hb6.size
        clear hb6 t5 ho5 hB5 c0 c1 lt
        generalize (innF p q).1 = P' at *
        generalize (innF p q).2 = Q' at *
        generalize innP p q = ok5 at *
        have f0 := t6.free 0
        have f1 := t6.free 1
        have c0 := t6.cell0
        have c1 := t6.cell1
        have t7 := (t6.set0 (.int .i64 P')).set1 (.int .i64 Q')
        have hB7 : Below w.heap.size w ((w6.setCell ⟨B, 0, none⟩ (.int .i64 P')).setCell ⟨B, 1, none⟩ (.int .i64 Q')) := (hB6.setCell (by simp; omega) _).setCell (by simp; omega) _
        have ho7 : OwnT ((w6.setCell ⟨B, 0, none⟩ (.int .i64 P')).setCell ⟨B, 1, none⟩ (.int .i64 Q')) (w.heap.size + 1) v5 (D ++ [(p, q)]) := OwnT.apart (OwnT.apart ho6 Hn5.out 0 _) Hn5.out 1 _
        clear ho6 t6 hB6
        go_wp2_with fail
        go_roundw
        case rel => exact ⟨P', Q', D ++ [(p, q)], v5, ok5, rfl, rfl, HN, ho7, Hn5, t7, hB7⟩
        case measure =>
          have a1 := ho7.len
          have a2 := HV.out
          have a3 := HLd.out
          rw [List.length_append] at a1
          simp at a1 ⊢
          omega
      | false =>
        have hD := HO.out.2 rfl
        subst hD
        have ho' : OwnT wr w.heap.size v0 D := OwnT.mono (b := w.heap.size + 1) ho (by omega)
        clear ho HO
        go_wp2
        go_ret
        exact ⟨_, rfl, ho', hB⟩
  · have ht' : tok n s = false := by simpa using ht
    rw [innersF_no ht]
    go_enter Try.func44, Try.ntmps44
    go_wp2_with fail
    refine (specTurnOk_any _ _ _).mono ?_; rintro e w1 ⟨rfl, hb1⟩
    rw [ht']
    have ho1 : OwnT w1 w.heap.size _ [] := (hnil.below hb1).mono (b' := w.heap.size) (by omega)
    have hB1 := hB0.trans (hb1.mono hB0.size)
    clear hb1 ht0 hnil hB0 c0 c1
    go_wp2
    go_ret
    exact ⟨_, rfl, ho1, hB1⟩
end Go.Proofs.Ytppahekbgbbidac
