/- A loop over a function that would go on for ever, and whose body leaves it by a break. -/
import Derived.Test.YtpdnehcaogdjiaaCnt
import Derived.RangeFuncBox
import Derived.RangeFuncNested
import Derived.RangeFuncBound
import Derived.RangeFuncCalls
import Derived.RangeFuncLeaves
import Derived.Shelf.Abstract
import Derived.Shelf.RegionOpen
import Derived.OwnWalkIn
import Derived.TacticsInMore
import Derived.LoopNIn
import Derived.LoopIn
import Derived.Sort.QuietIn
set_option linter.unusedVariables false
namespace Go.Proofs.Ytpdnehcaogdjiaa

set_option maxRecDepth 4000
open Go.ChangeShapes Go.WideShapes Go.ChangeAt Go.RowKit Go.Joins Go.Shelf

/-- a round's body goes on to the next number, or leaves the loop -/
def RoundEnd (B : Nat) (Kp : World → World → Prop) (I : Nat → World → Prop) (Ix : Go.Code → World → Prop) (k : Nat) (W : World) : Exit → Act → World → Prop
  | .normal, _, V => KeepsFrom B W V ∧ Kp W V ∧ I (k + 1) V
  | .exit id, _, V => KeepsFrom B W V ∧ Ix (.exit id) V
  | _, _, _ => False

/-- the loop's own record -/
def recAt (B : Nat) (fn : FuncId) (tmps : Array Value) (ps : Array Tmp) (assign body : Go.Code) (st : LoopState) (pe : Option Go.Code) : Loop :=
  { state := st, pending := pe, fn := fn, tmps := tmps, params := ps, assign := assign, body := body, defers := B }

def AtLoop (B : Nat) (W : World) (r : Loop) : Prop := W.heap[B + 1]? = some (.loop r) ∧ W.heap[B]? = some (.deferred (some []))

theorem AtLoop.put {B : Nat} {W : World} {r : Loop} (h : AtLoop B W r) (r' : Loop) : AtLoop B (W.putObj (B + 1) (.loop r')) r' :=
  ⟨World.putObj_heap_same (Array.getElem?_eq_some_iff.1 h.1).1, (World.putObj_heap_other (by omega)).trans h.2⟩

theorem AtLoop.keep {B : Nat} {W V : World} {r : Loop} (h : AtLoop B W r) (k : KeepsFrom B W V) : AtLoop B V r :=
  ⟨k.same _ _ (by omega) h.1 rfl, k.same _ _ (Nat.le_refl _) h.2 rfl⟩

def loopStart (w : World) (fn : FuncId) (tmps : Array Value) (ps : Array Tmp) (assign body : Go.Code) : World :=
  (w.alloc (.deferred (some []))).alloc (.loop (recAt w.heap.size fn tmps ps assign body .ready none))

theorem drewN_grown (W : World) (k : Nat) (row : Option Nat) : W.grownBy (W.drewN k) row := ⟨by simp [World.drewN], by simp [World.drewN], by simp [World.drewN], by simp, fun i _ _ => by simp⟩

/-- what an iterator owes that goes on until it is told to stop: en k is what it gives k-th; mu tells how many rounds may still come -/
def GoesOn (m gf : Nat) (lb : Array Value) (en : Nat → Array Value) (Kp : World → World → Prop) (mu : World → Nat) (N : Nat) (w : World) : Prop :=
  ∀ (l : Nat) (J : Nat → World → Prop) (Jx : World → Prop) (W : World), Below w.heap.size w W → (∀ k V d, J k V → J k (V.drewN d)) → (∀ k V, J k V → mu V + k = N ∧ k < N) →
    (∀ k V, J k V → YieldAt Fence.wide (m - 1) Try.prog l (en k) V fun e V' => (e = .returned (.bool true) ∧ J (k + 1) V' ∧ Kp V V') ∨ (e = .returned (.bool false) ∧ Jx V')) →
    J 0 W → CallsIn Fence.wide m Try.prog gf (#[.func (.yield l) #[] #[]] ++ lb) W fun e V => (∃ v, e = .returned v) ∧ Jx V

theorem range_break {g : Operand} {ps : Array Tmp} {assign body : Go.Code} {Q : Exit → Act → World → Prop} {a : Act} {w : World} {n gf : Nat} {lb : Array Value} (h1 : 1 ≤ n)
    (hg : a.eval g = .func (.func gf) #[] lb) (hFg : Fence.wide.fn gf) (eg : ∀ args w, (callFunc gf args).run Try.prog w = .ok (.enter gf args) w)
    {en : Nat → Array Value} {Kp : World → World → Prop} {mu : World → Nat} {N : Nat} (hit : GoesOn (n - 1) gf lb en Kp mu N w)
    (kt : ∀ {A B C : World}, Kp A B → Kp B C → Kp A C) (kb : ∀ (W : World) (l : Nat) (o : Obj), w.heap.size ≤ l → Kp W (W.putObj l o)) (hps : ∀ k, (en k).size = ps.size)
    (I : Nat → World → Prop) (Ix : Go.Code → World → Prop) (hI : OwnFrom w.heap.size I) (hIx : OwnFrom w.heap.size Ix) (hmu : ∀ k V, I k V → mu V + k = N ∧ k < N) (h0 : I 0 w) (a₁ : Nat → Act)
    (hassign : ∀ (l k : Nat) (W : World) (K : Act → World → Prop), K (a₁ k) W →
      assign.wpIn (Fence.wide.inRound l) (n - 1 - 1) Try.prog (Exit.then K (fun _ _ _ => False)) { tmps := (ps.zip (en k)).foldl (fun t (p, v) => t.setIfInBounds p v) a.tmps, defers := [] } W)
    (hbody : ∀ (l k : Nat) (W : World), I k W → body.wpIn (Fence.wide.inRound l) (n - 1 - 1) Try.prog (RoundEnd w.heap.size Kp I Ix k W) (a₁ k) W)
    (hstop : ∀ (D : Nat) (c : Go.Code) (W : World), w.heap.size ≤ D → Ix c W → W.heap[D]? = some (.deferred (some [])) → c.wpIn Fence.wide n Try.prog Q { a with defers := { target := .collected D, args := #[] } :: a.defers } W) :
    (Go.Code.rangeFunc g ps assign body).wpIn Fence.wide n Try.prog Q a w := by
  refine wpIn_rangeFunc fun fn hfn => ?_
  have start : AtLoop w.heap.size (loopStart w fn a.tmps ps assign body) (recAt w.heap.size fn a.tmps ps assign body .ready none) := by
    unfold loopStart
    refine ⟨?_, (Below.heap_alloc _ _ _ (by simp)).trans (World.alloc_heap_new w _)⟩
    have := World.alloc_heap_new (w.alloc (.deferred (some []))) (.loop (recAt w.heap.size fn a.tmps ps assign body .ready none))
    rwa [World.size_alloc] at this
  have bel : Below w.heap.size w (loopStart w fn a.tmps ps assign body) := ((Below.refl _ w).alloc (Nat.le_refl _) _).alloc (by simp) _
  have i1 := hI.alloc (.loop (recAt w.heap.size fn a.tmps ps assign body .ready none)) (hI.alloc (.deferred (some [])) h0)
  refine ⟨w.heap.size + 1, [{ target := .collected w.heap.size, args := #[] }], loopStart w fn a.tmps ps assign body, { target := .fn (.func gf) lb, args := #[.func (.yield (w.heap.size + 1)) #[] #[]] }, loopStart w fn a.tmps ps assign body, gf,
    #[.func (.yield (w.heap.size + 1)) #[] #[]] ++ lb, loopStart w fn a.tmps ps assign body, run_enterLoop_outer _ _ _ _ _, ?res, ?lead, ?inv, fun _ => h1, ?call⟩
  case res => simp only [resolve, hg]; simp [go_sem]
  case lead => intro f' hf'; simp [Target.leads] at hf'; subst hf'; exact hFg
  case inv => simp [invoke, go_sem, eg]
  case call =>
    refine (hit (w.heap.size + 1) (fun k V => I k V ∧ AtLoop w.heap.size V (recAt w.heap.size fn a.tmps ps assign body .ready none))
      (fun V => ∃ c, Ix c V ∧ AtLoop w.heap.size V (recAt w.heap.size fn a.tmps ps assign body .done (some c))) _ bel
      (fun k V d h => ⟨hI _ _ _ none h.1 (drewN_grown V d none) (fun r e => by cases e), by simpa [AtLoop] using h.2⟩) (fun k V h => hmu k V h.1) ?round ⟨i1, start⟩).mono ?behind
    case round =>
      rintro k W ⟨hi, hl⟩
      have hlt : w.heap.size + 1 < W.heap.size := (Array.getElem?_eq_some_iff.1 hl.1).1
      have hl2 := hl.put (recAt w.heap.size fn a.tmps ps assign body .busy none)
      have hi2 : I k (W.putObj (w.heap.size + 1) (.loop (recAt w.heap.size fn a.tmps ps assign body .busy none))) := hI.putObj _ hi (by omega) hl.1 rfl
      have hk2 := kb W (w.heap.size + 1) (.loop (recAt w.heap.size fn a.tmps ps assign body .busy none)) (by omega)
      refine ⟨fn, _, assign, body, run_yield (P := Try.prog) (args := en k) hl.1 (hps k), roundIn_of_wpIn hfn (hassign _ k W _ ⟨_, run_beginRound hl.1 rfl, wpIn_mono (hbody _ k _ hi2) ?_⟩)⟩
      intro e a3 V hV
      cases e with
      | normal =>
        obtain ⟨kf, kp, i3⟩ := hV
        have hl3 := hl2.keep kf
        exact ⟨_, _, run_endRound none hl3.1, .inl ⟨rfl, ⟨hI.putObj _ i3 (by omega) hl3.1 rfl, hl3.put _⟩, kt (kt hk2 kp) (kb _ _ _ (by omega))⟩⟩
      | exit id =>
        obtain ⟨kf, i3⟩ := hV
        have hl3 := hl2.keep kf
        exact ⟨_, _, run_endRound (some (.exit id)) hl3.1, .inr ⟨rfl, .exit id, hIx.putObj _ i3 (by omega) hl3.1 rfl, hl3.put _⟩⟩
      | ret => exact hV.elim
      | goto t => exact hV.elim
      | panic c => exact hV.elim
      | outgrown => exact hV.elim
    case behind =>
      rintro e V ⟨⟨v, rfl⟩, c, i3, hl3⟩
      exact ⟨some c, _, run_endLoop hl3.1 (by simp [recAt]), hstop _ c _ (Nat.le_refl _) (hIx.putObj _ i3 (by omega) hl3.1 rfl) (hl3.put _).2⟩
end Go.Proofs.Ytpdnehcaogdjiaa
