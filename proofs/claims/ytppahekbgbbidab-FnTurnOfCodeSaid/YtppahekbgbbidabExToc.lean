/- Proves that FnExactTurnOfCode returns true for every text, and leaves it as it was. No conditions. -/
import Derived.Test.YtppahekbgbbidabHead
import Derived.Test.YtppahekbgbbidabToc
import Derived.Test.YtppahekbgbbidabGFun2
import Derived.ChangeMaps5
set_option linter.unusedVariables false
namespace Go.Proofs.Ytppahekbgbbidab
open Go.ChangeShapes Go.WideShapes Go.ChangeAt Go.RowKit Go.Joins

def TocIs (u : ByteArray) (p q : Int) (ok : Bool) : Prop := (TocP u ∧ p = u.size ∧ q = cnt u ∧ ok = true) ∨ (¬ TocP u ∧ p = 0 ∧ q = 0 ∧ ok = false)

theorem toc_is (u : ByteArray) : ∃ p q ok, TocIs u p q ok := by
  by_cases h : TocP u
  · exact ⟨_, _, _, .inl ⟨h, rfl, rfl, rfl⟩⟩
  · exact ⟨_, _, _, .inr ⟨h, rfl, rfl, rfl⟩⟩

theorem TocIs.post {u : ByteArray} {p q : Int} {ok : Bool} (h : TocIs u p q ok) {w w' : World} {e : Ending} (k : TocPost u w e w') : e = .returned (.tuple #[(.agg #[.int .i64 (p), .int .i64 (q)]), .bool ok]) ∧ Below w.heap.size w w' := by
  obtain ⟨k, hb⟩ := k
  refine ⟨?_, hb⟩
  rcases h with ⟨h, rfl, rfl, rfl⟩ | ⟨h, rfl, rfl, rfl⟩
  · rcases k with ⟨_, k⟩ | ⟨k, _⟩
    · exact k
    · exact absurd h k
  · rcases k with ⟨k, _⟩ | ⟨_, k⟩
    · exact absurd k h
    · exact k

theorem turnOfCode_is {u : ByteArray} {p q : Int} {ok : Bool} (h : TocIs u p q ok) (w : World) (hu : u.size ≤ 2000000) :
    Calls Try.prog 53 #[.string u] w fun e w' => e = .returned (.tuple #[(.agg #[.int .i64 (p), .int .i64 (q)]), .bool ok]) ∧ Below w.heap.size w w' := (turnOfCode_any u w hu).mono fun _ _ k => h.post k

theorem specTurnOfCode_is {u : ByteArray} {p q : Int} {ok : Bool} (h : TocIs u p q ok) (w : World) (hu : u.size ≤ 2000000) :
    Calls Try.prog 52 #[.string u] w fun e w' => e = .returned (.tuple #[(.agg #[.int .i64 (p), .int .i64 (q)]), .bool ok]) ∧ Below w.heap.size w w' := (specTurnOfCode_any u w hu).mono fun _ _ k => h.post k
end Go.Proofs.Ytppahekbgbbidab

namespace Go.Proofs.Ytppahekbgbbidab.exTurnOfCode
open Go.ChangeShapes Go.WideShapes Go.ChangeAt Go.RowKit Go.Joins

set_option maxHeartbeats 1000000 in
theorem walk (u : ByteArray) (w : World) (hm : u.size ≤ maxLen) :
    Calls Try.prog 12 #[.string u] w fun e w' => e = .returned (.bool true) ∧ Below w.heap.size w w' := by
  by_cases hl : 1048576 < u.size
  · have hl' : (1048576 : Int) < u.size := by omega
    go_enter Try.func12, Try.ntmps12
    go_wp2
    go_ret
    exact ⟨rfl, (by repeat (first | exact Below.refl _ _ | assumption | (refine Below.trans ?_ (Below.mono (by assumption) (by first | omega | (simp <;> omega)))) | (refine Below.alloc ?_ (by first | omega | (simp <;> omega)) _) | (refine below_drewN ?_ _) | (refine Below.drew ?_) | (refine Below.setCell ?_ (by first | omega | (simp <;> omega)) _)))⟩
  · have hl' : ¬ (1048576 : Int) < u.size := by omega
    have hu : u.size ≤ 2000000 := by omega
    obtain ⟨p, q, ok, hI⟩ := toc_is u
    go_enter Try.func12, Try.ntmps12
    go_wp2_with fail
    refine (specTurnOfCode_is hI _ hu).mono ?_; rintro e w2 ⟨rfl, hb2⟩
    have t3 : Two (w2.alloc (.cells #[.int .i64 p, .int .i64 q] 24)) w2.heap.size (.int .i64 p) (.int .i64 q) 24 := Two.new _ _ _ _
    have hB3 : Below w.heap.size w (w2.alloc (.cells #[.int .i64 p, .int .i64 q] 24)) := hb2.alloc hb2.size _
    go_wp2_with fail
    refine (turnOfCode_is hI _ hu).mono ?_; rintro e w5 ⟨rfl, hb5⟩
    have t5 := t3.below hb5 t3.lt
    have hB5 := hB3.trans (hb5.mono hB3.size)
    have g6 : Two (w5.alloc (.cells #[.int .i64 p, .int .i64 q] 24)) w5.heap.size (.int .i64 p) (.int .i64 q) 24 := Two.new _ _ _ _
    have t6 := t5.alloc (.cells #[.int .i64 p, .int .i64 q] 24)
    have hB6 : Below w.heap.size w (w5.alloc (.cells #[.int .i64 p, .int .i64 q] 24)) := hB5.alloc hB5.size _
    have c0 := g6.cell0
    have c1 := g6.cell1
    have d0 := t6.cell0
    have d1 := t6.cell1
    have hnn : (ok != ok) = false := by simp
    clear hI t3 t5 hB3 hB5 hb2 hb5
    go_wp2_with fail
    refine (eqTurn_any _ _ _ _ _).mono ?_; rintro e w7 ⟨rfl, hb7⟩
    rw [decide_eq_true (⟨rfl, rfl⟩ : p = p ∧ q = q)]
    have hB7 := hB6.trans (hb7.mono hB6.size)
    go_wp2
    go_ret
    exact ⟨rfl, hB7⟩

set_option maxRecDepth 100000 in
theorem lifted (os : Os) (started : os.Started) (H : Type) (enc : TypeId × Value → H) :
    ReturnsInHanded {} Try.checked os 12 .any (Rows.fnExactTurnOfCodeSpec.pre6 enc Try.prog Try.f12 Rows.fnExactTurnOfCodeRow.domain false) (Rows.fnExactTurnOfCodeSpec.post enc Try.prog Try.f12 false true false false) := by
  refine returnsInHanded_of_change (C := Try.checked) own started (by kernel_rfl) Try.func12
    (ChangeSpec.witness6 (enc := enc) (C := Try.checked) false ⟨#[], #[.string ⟨#[]⟩], []⟩ 8 (by kernel_rfl) (by kernel_rfl) (by kernel_rfl) (by kernel_rfl)) ?_
  intro W base args ds gs before hval0 hW hcnd _
  have hval : ∀ (j : Nat) t v, Try.f12.params[j]? = some t → args[j]? = some v → Value.okWide Try.prog W .any base t v := hval0
  have hW' := hW
  obtain ⟨p, q, hA0, hV, rfl, hfz, hnd⟩ := hW
  have hA : DataW.TrodAll enc Try.prog W 0 (fun _ => true) true Try.f12.params.toList args.toList ds p := hA0
  rw [Try.params12] at hA hval
  obtain ⟨v0, vs0, d0, ds0, p0, q0, hargs, rfl, rfl, h0, r0⟩ := trodAll_cons hA
  obtain ⟨rfl, rfl, rfl⟩ := trodAll_nil r0
  obtain rfl : args = #[v0] := by cases args; simp_all
  obtain ⟨rfl, rfl⟩ := trodVars_none hV
  obtain ⟨u, rfl, rfl, rfl, wfu⟩ := ChangeMaps.open_string Try.underlying9 (hval 0 9 v0 rfl rfl) h0
  clear hA0 hval0
  refine (walk u W wfu).mono fun e W' ⟨he, bel⟩ => ?_
  subst he
  exact ⟨_, rfl, _, _, _, [], _, [], hW', trodAll_mk1 (shut_bool Try.underlying4 _), (trodAll_cons_mk (ChangeMaps.shut_string Try.underlying9 wfu) trodAll_mk0), rfl, bel.frame _, fun h => by cases h⟩

theorem facts : joinedFacts Try.pinned.checked.prog 12 Try.f12 Rows.fnExactTurnOfCodeSpec Rows.fnExactTurnOfCodeRow = true := by
  simp only [joinedFacts, Bool.and_eq_true]
  repeat' apply And.intro
  all_goals first | rw [mayEnter_eq] | (rw [liftsFinal_eq]; kernel_rfl) | (rw [make_eq]; kernel_rfl) | kernel_rfl

theorem over : Rows.fnExactTurnOfCodeRow.holds Try.pinned (OpenSpec.ofChange Rows.fnExactTurnOfCodeSpec) :=
  OpenClaim.holds_of_wide 12 Try.f12 rfl rfl rfl rfl rfl rfl rfl ⟨rfl, rfl, rfl, rfl, rfl⟩ rfl rfl rfl rfl rfl (by kernel_rfl) Try.func12 facts
    (of_decide_eq_true (by kernel_rfl)) (by unfold Func.isWrapper; first | (rw [if_pos (by decide +kernel)]; kernel_rfl) | (rw [if_neg (by decide +kernel)]; exact ⟨rfl, rfl⟩))
    (fun os started H enc _ => lifted os started H enc)

theorem proved : Rows.FnExactTurnOfCodeSaid := over
#print axioms proved
end Go.Proofs.Ytppahekbgbbidab.exTurnOfCode
