/- A loop over a function that would go on for ever, and whose body leaves it by a break. The iterator of OrderBy of the program: it goes on until it is stopped. Contract of OrderBy of the program: a loop over an iterator that is left by a break. Contract of OrderBy of the model. -/
import Derived.Test.YtppahekbgbbidabGOrdC
import Derived.RangeFuncBox
import Derived.RangeFuncNested
import Derived.RangeFuncBound
import Derived.RangeFuncCalls
import Derived.RangeFuncLeaves
import Derived.Shelf.Abstract
import Derived.Shelf.RegionOpen
import Derived.OwnWalkIn
import Derived.TacticsInMore
import Derived.LoopNIn
import Derived.LoopIn
import Derived.Sort.QuietIn
set_option linter.unusedVariables false
namespace Go.Proofs.Ytppahekbgbbidab

set_option maxRecDepth 4000
open Go.ChangeShapes Go.WideShapes Go.ChangeAt Go.RowKit Go.Joins Go.Shelf

/-- a round's body goes on to the next number, or leaves the loop -/
def RoundEnd (B : Nat) (Kp : World → World → Prop) (I : Nat → World → Prop) (Ix : Go.Code → World → Prop) (k : Nat) (W : World) : Exit → Act → World → Prop
  | .normal, _, V => KeepsFrom B W V ∧ Kp W V ∧ I (k + 1) V
  | .exit id, _, V => KeepsFrom B W V ∧ Ix (.exit id) V
  | _, _, _ => False

/-- the loop's own record -/
def recAt (B : Nat) (fn : FuncId) (tmps : Array Value) (ps : Array Tmp) (assign body : Go.Code) (st : LoopState) (pe : Option Go.Code) : Loop :=
  { state := st, pending := pe, fn := fn, tmps := tmps, params := ps, assign := assign, body := body, defers := B }

def AtLoop (B : Nat) (W : World) (r : Loop) : Prop := W.heap[B + 1]? = some (.loop r) ∧ W.heap[B]? = some (.deferred (some []))

theorem AtLoop.put {B : Nat} {W : World} {r : Loop} (h : AtLoop B W r) (r' : Loop) : AtLoop B (W.putObj (B + 1) (.loop r')) r' :=
  ⟨World.putObj_heap_same (Array.getElem?_eq_some_iff.1 h.1).1, (World.putObj_heap_other (by omega)).trans h.2⟩

theorem AtLoop.keep {B : Nat} {W V : World} {r : Loop} (h : AtLoop B W r) (k : KeepsFrom B W V) : AtLoop B V r :=
  ⟨k.same _ _ (by omega) h.1 rfl, k.same _ _ (Nat.le_refl _) h.2 rfl⟩

def loopStart (w : World) (fn : FuncId) (tmps : Array Value) (ps : Array Tmp) (assign body : Go.Code) : World :=
  (w.alloc (.deferred (some []))).alloc (.loop (recAt w.heap.size fn tmps ps assign body .ready none))

theorem drewN_grown (W : World) (k : Nat) (row : Option Nat) : W.grownBy (W.drewN k) row := ⟨by simp [World.drewN], by simp [World.drewN], by simp [World.drewN], by simp, fun i _ _ => by simp⟩

/-- what an iterator owes that goes on until it is told to stop: en k is what it gives k-th; mu tells how many rounds may still come -/
def GoesOn (m gf : Nat) (lb : Array Value) (en : Nat → Array Value) (Kp : World → World → Prop) (mu : World → Nat) (N : Nat) (w : World) : Prop :=
  ∀ (l : Nat) (J : Nat → World → Prop) (Jx : World → Prop) (W : World), Below w.heap.size w W → (∀ k V d, J k V → J k (V.drewN d)) → (∀ k V, J k V → mu V + k = N ∧ k < N) →
    (∀ k V, J k V → YieldAt Fence.wide (m - 1) Try.prog l (en k) V fun e V' => (e = .returned (.bool true) ∧ J (k + 1) V' ∧ Kp V V') ∨ (e = .returned (.bool false) ∧ Jx V')) →
    J 0 W → CallsIn Fence.wide m Try.prog gf (#[.func (.yield l) #[] #[]] ++ lb) W fun e V => (∃ v, e = .returned v) ∧ Jx V

theorem range_break {g : Operand} {ps : Array Tmp} {assign body : Go.Code} {Q : Exit → Act → World → Prop} {a : Act} {w : World} {n gf : Nat} {lb : Array Value} (h1 : 1 ≤ n)
    (hg : a.eval g = .func (.func gf) #[] lb) (hFg : Fence.wide.fn gf) (eg : ∀ args w, (callFunc gf args).run Try.prog w = .ok (.enter gf args) w)
    {en : Nat → Array Value} {Kp : World → World → Prop} {mu : World → Nat} {N : Nat} (hit : GoesOn (n - 1) gf lb en Kp mu N w)
    (kt : ∀ {A B C : World}, Kp A B → Kp B C → Kp A C) (kb : ∀ (W : World) (l : Nat) (o : Obj), w.heap.size ≤ l → Kp W (W.putObj l o)) (hps : ∀ k, (en k).size = ps.size)
    (I : Nat → World → Prop) (Ix : Go.Code → World → Prop) (hI : OwnFrom w.heap.size I) (hIx : OwnFrom w.heap.size Ix) (hmu : ∀ k V, I k V → mu V + k = N ∧ k < N) (h0 : I 0 w) (a₁ : Nat → Act)
    (hassign : ∀ (l k : Nat) (W : World) (K : Act → World → Prop), K (a₁ k) W →
      assign.wpIn (Fence.wide.inRound l) (n - 1 - 1) Try.prog (Exit.then K (fun _ _ _ => False)) { tmps := (ps.zip (en k)).foldl (fun t (p, v) => t.setIfInBounds p v) a.tmps, defers := [] } W)
    (hbody : ∀ (l k : Nat) (W : World), I k W → body.wpIn (Fence.wide.inRound l) (n - 1 - 1) Try.prog (RoundEnd w.heap.size Kp I Ix k W) (a₁ k) W)
    (hstop : ∀ (D : Nat) (c : Go.Code) (W : World), w.heap.size ≤ D → Ix c W → W.heap[D]? = some (.deferred (some [])) → c.wpIn Fence.wide n Try.prog Q { a with defers := { target := .collected D, args := #[] } :: a.defers } W) :
    (Go.Code.rangeFunc g ps assign body).wpIn Fence.wide n Try.prog Q a w := by
  refine wpIn_rangeFunc fun fn hfn => ?_
  have start : AtLoop w.heap.size (loopStart w fn a.tmps ps assign body) (recAt w.heap.size fn a.tmps ps assign body .ready none) := by
    unfold loopStart
    refine ⟨?_, (Below.heap_alloc _ _ _ (by simp)).trans (World.alloc_heap_new w _)⟩
    have := World.alloc_heap_new (w.alloc (.deferred (some []))) (.loop (recAt w.heap.size fn a.tmps ps assign body .ready none))
    rwa [World.size_alloc] at this
  have bel : Below w.heap.size w (loopStart w fn a.tmps ps assign body) := ((Below.refl _ w).alloc (Nat.le_refl _) _).alloc (by simp) _
  have i1 := hI.alloc (.loop (recAt w.heap.size fn a.tmps ps assign body .ready none)) (hI.alloc (.deferred (some [])) h0)
  refine ⟨w.heap.size + 1, [{ target := .collected w.heap.size, args := #[] }], loopStart w fn a.tmps ps assign body, { target := .fn (.func gf) lb, args := #[.func (.yield (w.heap.size + 1)) #[] #[]] }, loopStart w fn a.tmps ps assign body, gf,
    #[.func (.yield (w.heap.size + 1)) #[] #[]] ++ lb, loopStart w fn a.tmps ps assign body, run_enterLoop_outer _ _ _ _ _, ?res, ?lead, ?inv, fun _ => h1, ?call⟩
  case res => simp only [resolve, hg]; simp [go_sem]
  case lead => intro f' hf'; simp [Target.leads] at hf'; subst hf'; exact hFg
  case inv => simp [invoke, go_sem, eg]
  case call =>
    refine (hit (w.heap.size + 1) (fun k V => I k V ∧ AtLoop w.heap.size V (recAt w.heap.size fn a.tmps ps assign body .ready none))
      (fun V => ∃ c, Ix c V ∧ AtLoop w.heap.size V (recAt w.heap.size fn a.tmps ps assign body .done (some c))) _ bel
      (fun k V d h => ⟨hI _ _ _ none h.1 (drewN_grown V d none) (fun r e => by cases e), by simpa [AtLoop] using h.2⟩) (fun k V h => hmu k V h.1) ?round ⟨i1, start⟩).mono ?behind
    case round =>
      rintro k W ⟨hi, hl⟩
      have hlt : w.heap.size + 1 < W.heap.size := (Array.getElem?_eq_some_iff.1 hl.1).1
      have hl2 := hl.put (recAt w.heap.size fn a.tmps ps assign body .busy none)
      have hi2 : I k (W.putObj (w.heap.size + 1) (.loop (recAt w.heap.size fn a.tmps ps assign body .busy none))) := hI.putObj _ hi (by omega) hl.1 rfl
      have hk2 := kb W (w.heap.size + 1) (.loop (recAt w.heap.size fn a.tmps ps assign body .busy none)) (by omega)
      refine ⟨fn, _, assign, body, run_yield (P := Try.prog) (args := en k) hl.1 (hps k), roundIn_of_wpIn hfn (hassign _ k W _ ⟨_, run_beginRound hl.1 rfl, wpIn_mono (hbody _ k _ hi2) ?_⟩)⟩
      intro e a3 V hV
      cases e with
      | normal =>
        obtain ⟨kf, kp, i3⟩ := hV
        have hl3 := hl2.keep kf
        exact ⟨_, _, run_endRound none hl3.1, .inl ⟨rfl, ⟨hI.putObj _ i3 (by omega) hl3.1 rfl, hl3.put _⟩, kt (kt hk2 kp) (kb _ _ _ (by omega))⟩⟩
      | exit id =>
        obtain ⟨kf, i3⟩ := hV
        have hl3 := hl2.keep kf
        exact ⟨_, _, run_endRound (some (.exit id)) hl3.1, .inr ⟨rfl, .exit id, hIx.putObj _ i3 (by omega) hl3.1 rfl, hl3.put _⟩⟩
      | ret => exact hV.elim
      | goto t => exact hV.elim
      | panic c => exact hV.elim
      | outgrown => exact hV.elim
    case behind =>
      rintro e V ⟨⟨v, rfl⟩, c, i3, hl3⟩
      exact ⟨some c, _, run_endLoop hl3.1 (by simp [recAt]), hstop _ c _ (Nat.le_refl _) (hIx.putObj _ i3 (by omega) hl3.1 rfl) (hl3.put _).2⟩
end Go.Proofs.Ytppahekbgbbidab

set_option linter.unusedVariables false
namespace Go.Proofs.Ytppahekbgbbidab

set_option maxRecDepth 4000
open Go.ChangeShapes Go.WideShapes Go.ChangeAt Go.RowKit Go.Joins Go.Shelf

attribute [local go_sem] Oper.semAt_some

theorem nowBy_bd {m u d : Int} (m1 : 1 ≤ m) (m60 : m ≤ 60) (u1 : 1 ≤ u) (u60 : u ≤ 60) (d1 : 1 ≤ d) (d60 : d ≤ 60) (k : Nat) : -60 ≤ nowBy m u d k ∧ nowBy m u d k < 60 := by
  induction k with
  | zero => show -60 ≤ (0 : Int) ∧ (0 : Int) < 60; omega
  | succ k ih =>
    show -60 ≤ ruleBy m u d (nowBy m u d k) ∧ ruleBy m u d (nowBy m u d k) < 60
    unfold ruleBy
    generalize nowBy m u d k = x at *
    split
    · omega
    · split <;> omega

/-- three blocks lie as they lay -/
def KpN (B : Nat) (W V : World) : Prop := V.heap[B]? = W.heap[B]? ∧ V.heap[B + 1]? = W.heap[B + 1]? ∧ V.heap[B + 2]? = W.heap[B + 2]?

theorem KpN.refl (B : Nat) (W : World) : KpN B W W := ⟨rfl, rfl, rfl⟩

theorem KpN.trans {B : Nat} {A C D : World} (h : KpN B A C) (h' : KpN B C D) : KpN B A D := ⟨h'.1.trans h.1, h'.2.1.trans h.2.1, h'.2.2.trans h.2.2⟩

def enN (m u d : Int) (k : Nat) : Array Value := #[.int .i64 (nowBy m u d k)]

set_option maxHeartbeats 4000000 in
theorem numbers_go (p : Nat) (hp : 1 ≤ p) (B : Nat) (m u d : Int) (m1 : 1 ≤ m) (m60 : m ≤ 60) (u1 : 1 ≤ u) (u60 : u ≤ 60) (d1 : 1 ≤ d) (d60 : d ≤ 60) (mu : World → Nat) (N : Nat) (w : World)
    (hm : w.cell? ⟨B, 0, none⟩ = some (.int .i64 m)) (hu : w.cell? ⟨B + 1, 0, none⟩ = some (.int .i64 u)) (hd : w.cell? ⟨B + 2, 0, none⟩ = some (.int .i64 d)) :
    GoesOn p 88 #[.pointer (some ⟨B + 1, 0, none⟩), .pointer (some ⟨B, 0, none⟩), .pointer (some ⟨B + 2, 0, none⟩)] (enN m u d) (KpN B) mu N w := by
  intro l J Jx W hW hJd hmu hY h0
  have cm := (hW.cell (p := ⟨B, 0, none⟩) (World.block_lt_of_cell? w _ hm)).trans hm
  have cu := (hW.cell (p := ⟨B + 1, 0, none⟩) (World.block_lt_of_cell? w _ hu)).trans hu
  have cd := (hW.cell (p := ⟨B + 2, 0, none⟩) (World.block_lt_of_cell? w _ hd)).trans hd
  clear hm hu hd hW
  refine callsIn_of_wp Try.func88 rfl trivial ?_ rfl
  simp only [Try.ntmps88, List.size_toArray, List.length_cons, List.length_nil, Nat.reduceAdd, Nat.reduceSub, Array.replicate_succ, Array.replicate_zero, List.push_toArray, List.append_toArray, List.nil_append, List.cons_append]
  gi_wp2
  gi_loopw [5] (fun x wr => ∃ k : Nat, x = .int .i64 (nowBy m u d k) ∧ J k wr ∧ KpN B W wr) (fun _ wr => mu wr)
  case atStart => exact ⟨0, rfl, h0, KpN.refl _ _⟩
  case round =>
    obtain ⟨k, rfl, hJs, hk⟩ := hrel
    obtain ⟨hmk, hkN⟩ := hmu k wr hJs
    obtain ⟨fn, tmps, assign, body, hy, hR⟩ := hY k wr hJs
    dsimp only [enN] at hy
    have hn : nowBy m u d (k + 1) = ruleBy m u d (nowBy m u d k) := rfl
    have hbd := nowBy_bd m1 m60 u1 u60 d1 d60 k
    unfold ruleBy at hn
    generalize hx : nowBy m u d k = x at *
    have stop : ∀ W3, Jx W3 → True := fun _ _ => trivial
    by_cases c1 : x + u < m
    · rw [if_pos c1] at hn
      have HN := Lib.hid hn
      clear hn hx
      gi_wp2
      refine hR.mono ?_
      rintro e W3 (⟨rfl, hJ3, hk3⟩ | ⟨rfl, hJx3⟩)
      · have hk4 := hk.trans hk3
        have cm3 := (World.cell?_of_block (a := ⟨B, 0, none⟩) hk4.1).trans cm
        have cu3 := (World.cell?_of_block (a := ⟨B + 1, 0, none⟩) hk4.2.1).trans cu
        have cd3 := (World.cell?_of_block (a := ⟨B + 2, 0, none⟩) hk4.2.2).trans cd
        gi_wp2
        go_roundw
        case rel => exact ⟨k + 1, by rw [HN.out], hJ3, hk4⟩
        case measure => have := (hmu _ _ hJ3).1; omega
      · gi_wp2
        go_end0
        exact ⟨⟨_, rfl⟩, hJx3⟩
    · rw [if_neg c1] at hn
      have d1' : decide (x + u < m) = false := by simpa using c1
      by_cases c2 : 0 ≤ x - d
      · rw [if_pos c2] at hn
        have HN := Lib.hid hn
        clear hn hx
        gi_wp2
        refine hR.mono ?_
        rintro e W3 (⟨rfl, hJ3, hk3⟩ | ⟨rfl, hJx3⟩)
        · have hk4 := hk.trans hk3
          have cm3 := (World.cell?_of_block (a := ⟨B, 0, none⟩) hk4.1).trans cm
          have cu3 := (World.cell?_of_block (a := ⟨B + 1, 0, none⟩) hk4.2.1).trans cu
          have cd3 := (World.cell?_of_block (a := ⟨B + 2, 0, none⟩) hk4.2.2).trans cd
          gi_wp2
          go_roundw
          case rel => exact ⟨k + 1, by rw [HN.out], hJ3, hk4⟩
          case measure => have := (hmu _ _ hJ3).1; omega
        · gi_wp2
          go_end0
          exact ⟨⟨_, rfl⟩, hJx3⟩
      · rw [if_neg c2] at hn
        have d2' : decide (0 ≤ x - d) = false := by simpa using c2
        have HN := Lib.hid hn
        clear hn hx
        gi_wp2
        refine hR.mono ?_
        rintro e W3 (⟨rfl, hJ3, hk3⟩ | ⟨rfl, hJx3⟩)
        · have hk4 := hk.trans hk3
          have cm3 := (World.cell?_of_block (a := ⟨B, 0, none⟩) hk4.1).trans cm
          have cu3 := (World.cell?_of_block (a := ⟨B + 1, 0, none⟩) hk4.2.1).trans cu
          have cd3 := (World.cell?_of_block (a := ⟨B + 2, 0, none⟩) hk4.2.2).trans cd
          gi_wp2
          go_roundw
          case rel => exact ⟨k + 1, by rw [HN.out, show x + u - d = x + (u - d) by omega], hJ3, hk4⟩
          case measure => have := (hmu _ _ hJ3).1; omega
        · gi_wp2
          go_end0
          exact ⟨⟨_, rfl⟩, hJx3⟩

set_option maxHeartbeats 400000 in
theorem orderNumbers_any (m u d : Int) (w : World) :
    Calls Try.prog 76 #[.int .i64 m, .int .i64 u, .int .i64 d] w fun e w' => e = .returned (.func (.func 88) #[] #[.pointer (some ⟨w.heap.size + 1, 0, none⟩), .pointer (some ⟨w.heap.size, 0, none⟩), .pointer (some ⟨w.heap.size + 2, 0, none⟩)]) ∧
      w' = ((w.alloc (.cells #[.int .i64 m] 3)).alloc (.cells #[.int .i64 u] 3)).alloc (.cells #[.int .i64 d] 3) := by
  go_enter Try.func76, Try.ntmps76
  go_wp2
  go_ret
  exact ⟨by simp, rfl⟩
end Go.Proofs.Ytppahekbgbbidab

set_option linter.unusedVariables false
set_option linter.unusedSimpArgs false
namespace Go.Proofs.Ytppahekbgbbidab

set_option maxRecDepth 100000
open Go.ChangeShapes Go.WideShapes Go.ChangeAt Go.RowKit Go.Joins Go.Shelf

attribute [local go_sem] Oper.semAt_some

theorem sub_len {R : List Int} : ∀ {L : List Int}, R.Nodup → (∀ x ∈ R, x ∈ L) → R.length ≤ L.length := by
  induction R with
  | nil => intro L _ _; simp
  | cons x r ih =>
    intro L hn h
    rw [List.nodup_cons] at hn
    have hx := h x (by simp)
    have := ih (L := L.erase x) hn.2 (fun y hy => (List.mem_erase_of_ne (fun e => hn.1 (by rw [← e]; exact hy))).2 (h y (by simp [hy])))
    rw [List.length_erase_of_mem hx] at this
    have := List.length_pos_of_mem hx
    rw [List.length_cons]
    omega

theorem surj_inj (f : Nat → Int) (m : Nat) (h : ∀ x : Nat, x < m → ∃ k, k < m ∧ f k = x) : ∀ k, k < m → 0 ≤ f k ∧ f k < m ∧ ∀ j, j < k → f j ≠ f k := by
  have key : ∀ k, k < m → (∀ x : Nat, x < m → ∃ k', k' < m ∧ k' ≠ k ∧ f k' = x) → False := by
    intro k hk h2
    have hn : ((List.range m).map fun i : Nat => (i : Int)).Nodup := by
      rw [List.nodup_iff_pairwise_ne, List.pairwise_map, List.pairwise_iff_getElem]
      intro i j hi hj hij
      simp at hi hj ⊢
      omega
    have h3 := sub_len (L := ((List.range m).erase k).map f) hn (fun x hx => by
      obtain ⟨i, hi, rfl⟩ := List.mem_map.1 hx
      obtain ⟨k', h1, h4, h5⟩ := h2 i (by simpa using hi)
      exact List.mem_map.2 ⟨k', (List.mem_erase_of_ne h4).2 (by simpa using h1), h5⟩)
    rw [List.length_map, List.length_map, List.length_erase_of_mem (by simpa using hk), List.length_range] at h3
    omega
  intro k hk
  have hr : 0 ≤ f k ∧ f k < m := by
    by_cases c : 0 ≤ f k ∧ f k < m
    · exact c
    · refine (key k hk fun x hx => ?_).elim
      obtain ⟨k', h1, h2⟩ := h x hx
      exact ⟨k', h1, fun e => c (by subst e; omega), h2⟩
  refine ⟨hr.1, hr.2, fun j hj e => key k hk fun x hx => ?_⟩
  obtain ⟨k', h1, h2⟩ := h x hx
  by_cases c : k' = k
  · subst c; exact ⟨j, by omega, by omega, e.trans h2⟩
  · exact ⟨k', h1, c, h2⟩

theorem okBy_of {m u d : Int} (h1 : 1 ≤ m) (h60 : m ≤ 60) (u1 : 1 ≤ u) (u60 : u ≤ 60) (d1 : 1 ≤ d) (d60 : d ≤ 60) : okBy m u d ↔ eachN (listBy m u d m.toNat) ∧ nowBy m u d m.toNat = 0 := by
  constructor
  · intro h
    refine ⟨fun i hi => ?_, h.2.2.2.2.2.2.2⟩
    rw [listBy_len] at hi
    obtain ⟨k, hk, e⟩ := by_all h i (by omega) (by omega)
    exact List.mem_map.2 ⟨k, by simpa using hk, e⟩
  · rintro ⟨he, h0⟩
    refine ⟨h1, h60, u1, u60, d1, d60, fun k hk => ?_, h0⟩
    have := surj_inj (nowBy m u d) m.toNat (fun x hx => by
      have hx' := he x (by rw [listBy_len]; exact hx)
      obtain ⟨k, hk, e⟩ := List.mem_map.1 hx'
      exact ⟨k, by simpa using hk, e⟩) k hk
    exact ⟨this.1, by omega, this.2.2⟩

theorem min3 (x y z : Int) : ∃ r : Int, (∀ (w : World) (ts : Array TypeId) (t : TypeId), (Builtin.min_ ts t #[.int .i64 x, .int .i64 y, .int .i64 z]).run Try.prog w = .ok (.int .i64 r) w) ∧ (r < 1 ↔ x < 1 ∨ y < 1 ∨ z < 1) :=
  ⟨_, fun w ts t => by simp [Builtin.min_, Builtin.min2]; rfl, by (repeat' split) <;> omega⟩

theorem max3 (x y z : Int) : ∃ r : Int, (∀ (w : World) (ts : Array TypeId) (t : TypeId), (Builtin.max_ ts t #[.int .i64 x, .int .i64 y, .int .i64 z]).run Try.prog w = .ok (.int .i64 r) w) ∧ (60 < r ↔ 60 < x ∨ 60 < y ∨ 60 < z) :=
  ⟨_, fun w ts t => by simp [Builtin.max_, Builtin.max2]; rfl, by (repeat' split) <;> omega⟩

theorem ownL_nc {W V : World} {b : Nat} {v : Value} {xs : List Int} {row : Option Nat} (h : OwnL W b v xs) (hg : W.grownBy V row) (hr : ∀ r, row = some r → ∃ o : Obj, W.heap[r]? = some o ∧ o.isCells = false) : OwnL V b v xs := by
  refine World.ownsRow.kept h hg ?_
  rcases h.2 with ⟨rfl, _⟩ | ⟨g, cap, cur, rfl, _, hgb, _⟩
  · exact .inl rfl
  · refine .inr fun e => ?_
    obtain ⟨o, ho, hc⟩ := hr g (by simpa [Value.ownBlock] using e.symm)
    rw [hgb] at ho; cases ho; cases hc

theorem box_nc {W V : World} {g : Nat} {t : TypeId} {v : Value} {row : Option Nat} (h : Boxed W g t v) (hg : W.grownBy V row) (hr : ∀ r, row = some r → ∃ o : Obj, W.heap[r]? = some o ∧ o.isCells = false) : Boxed V g t v :=
  h.kept hg fun e => by
    obtain ⟨o, ho, hc⟩ := hr g e.symm
    rw [show W.heap[g]? = _ from h] at ho; cases ho; cases hc

/-- a number appended to a list in a box that lies below the list's own blocks -/
theorem pushed {W w1 : World} {b B : Nat} {t : TypeId} {v v' : Value} {xs : List Int} {x : Int} {tmp : Obj} (bv : Boxed W B t v) (ho : OwnL W b v xs) (hb : b ≤ W.heap.size) (hB : B < b)
    (hown : w1.ownsRow b 3 1 v' (xs.length + 1) (xs.map (Value.int .i64) ++ [.int .i64 x])) (hgrow : (W.alloc tmp).grownBy w1 v.ownBlock) :
    Boxed w1 B t v ∧ Boxed (w1.setCell ⟨B, 0, none⟩ v') B t v' ∧ OwnL (w1.setCell ⟨B, 0, none⟩ v') b v' (xs ++ [x]) ∧ KeepsOthers W (w1.setCell ⟨B, 0, none⟩ v') ∧
      (∀ k, k < b → k ≠ B → (w1.setCell ⟨B, 0, none⟩ v').heap[k]? = W.heap[k]?) ∧ (∀ n₀, n₀ ≤ B → Below n₀ W (w1.setCell ⟨B, 0, none⟩ v')) := by
  have hlt := World.ownsRow.lt ho
  have hlt' := World.ownsRow.lt hown
  have far : ∀ k, k < b → some k ≠ v.ownBlock := fun k hk e => by have := (hlt k e.symm).1; omega
  have b1 : Boxed w1 B t v := (bv.alloc tmp).kept hgrow (far B hB)
  have ho' : OwnL w1 b v' (xs ++ [x]) := by
    unfold OwnL
    rw [List.length_append, List.map_append]
    exact hown
  refine ⟨b1, b1.set v', ho'.kept (grownBy_setCell' w1 B v') (.inr fun e => ?_), ?_, ?_, ?_⟩
  · have := (hlt' B e).1; omega
  · refine ((KeepsOthers.alloc W tmp).trans (KeepsOthers.of_grownBy hgrow fun j o ej hj => ?_)).trans (KeepsOthers.setCell _ _ _)
    rcases (World.ownsRow.alloc ho tmp).2 with ⟨rfl, _⟩ | ⟨g, cap, cur, rfl, _, hgb, _⟩
    · simp [Value.ownBlock] at ej
    · obtain rfl : g = j := by simpa [Value.ownBlock] using ej
      rw [hgb] at hj; cases hj; rfl
  · intro k hk hne
    exact (Below.heap_setCell _ _ _ k hne).trans ((hgrow.block k (by simp; omega) (far k hk)).trans (Below.heap_alloc W tmp k (by omega)))
  · intro n₀ hn
    exact (((Below.refl n₀ W).alloc (by omega) tmp).grown hgrow (by simp; omega) fun j ej => by have := (hlt j ej).1; omega).setCell (p := ⟨B, 0, none⟩) hn v'

/-- how many rounds are left: told by the length of the list in the box -/
def leftMu (B M : Nat) (V : World) : Nat := match V.cell? ⟨B, 0, none⟩ with
  | some (.slice _ n _) => M + 1 - n
  | _ => 0

theorem leftMu_of {B M : Nat} {V : World} {t : TypeId} {a : Option Addr} {n cap : Nat} (h : Boxed V B t (.slice a n cap)) : leftMu B M V = M + 1 - n := by
  unfold leftMu
  rw [h.cell]

def PairPost (x : List Int × Bool) (w : World) (e : Ending) (w' : World) : Prop := ∃ v, e = .returned (.tuple #[v, .bool x.2]) ∧ OwnL w' w.heap.size v x.1 ∧ Below w.heap.size w w'

set_option maxHeartbeats 4000000 in
theorem orderBy_any (m u d : Int) (w : World) :
    Calls Try.prog 39 #[.int .i64 m, .int .i64 u, .int .i64 d] w (PairPost (orderByF m u d) w) := by
  by_cases hv : 1 ≤ m ∧ m ≤ 60 ∧ 1 ≤ u ∧ u ≤ 60 ∧ 1 ≤ d ∧ d ≤ 60
  · obtain ⟨m1, m60, u1, u60, d1, d60⟩ := hv
    have HK := Lib.hid (okBy_of m1 m60 u1 u60 d1 d60)
    refine (callsIn_wide (n := 6)).1 ?_
    refine callsIn_of_wp_marks Try.func39 rfl trivial ?_ rfl
    simp only [Try.ntmps39, List.size_toArray, List.length_cons, List.length_nil, Nat.reduceAdd, Nat.reduceSub, Array.replicate_succ, Array.replicate_zero, List.push_toArray, List.append_toArray, List.nil_append, List.cons_append]
    obtain ⟨lo, rmin, hlo⟩ := min3 m u d
    obtain ⟨hi, rmax, hhi⟩ := max3 m u d
    have hlo' : decide (lo < 1) = false := by simp; omega
    have hhi' : decide (60 < hi) = false := by simp; omega
    clear hlo hhi
    gi_wp2_with fail
    refine ⟨trivial, (callsIn_wide.2 (orderNumbers_any _ _ _ _)).mono ?_⟩; rintro e w2 ⟨rfl, rfl⟩
    gi_wp2_with fail
    clear rmin rmax hlo' hhi'
    obtain ⟨M, rfl⟩ := Int.eq_ofNat_of_zero_le (by omega : 0 ≤ m)
    rw [Int.toNat_natCast] at HK
    have bM := (((((Boxed.new w 3 (.int .i64 (M : Int))).alloc (.cells #[.slice none 0 0] 26)).alloc (.cells #[.bool false] 4)).alloc (.cells #[.int .i64 (M : Int)] 3)).alloc (.cells #[.int .i64 u] 3)).alloc (.cells #[.int .i64 d] 3)
    have bO := ((((Boxed.new (w.alloc (.cells #[.int .i64 (M : Int)] 3)) 26 (.slice none 0 0)).alloc (.cells #[.bool false] 4)).alloc (.cells #[.int .i64 (M : Int)] 3)).alloc (.cells #[.int .i64 u] 3)).alloc (.cells #[.int .i64 d] 3)
    have bC := (((Boxed.new ((w.alloc (.cells #[.int .i64 (M : Int)] 3)).alloc (.cells #[.slice none 0 0] 26)) 4 (.bool false)).alloc (.cells #[.int .i64 (M : Int)] 3)).alloc (.cells #[.int .i64 u] 3)).alloc (.cells #[.int .i64 d] 3)
    have b1 := ((Boxed.new (((w.alloc (.cells #[.int .i64 (M : Int)] 3)).alloc (.cells #[.slice none 0 0] 26)).alloc (.cells #[.bool false] 4)) 3 (.int .i64 (M : Int))).alloc (.cells #[.int .i64 u] 3)).alloc (.cells #[.int .i64 d] 3)
    have b2 := (Boxed.new ((((w.alloc (.cells #[.int .i64 (M : Int)] 3)).alloc (.cells #[.slice none 0 0] 26)).alloc (.cells #[.bool false] 4)).alloc (.cells #[.int .i64 (M : Int)] 3)) 3 (.int .i64 u)).alloc (.cells #[.int .i64 d] 3)
    have b3 := Boxed.new (((((w.alloc (.cells #[.int .i64 (M : Int)] 3)).alloc (.cells #[.slice none 0 0] 26)).alloc (.cells #[.bool false] 4)).alloc (.cells #[.int .i64 (M : Int)] 3)).alloc (.cells #[.int .i64 u] 3)) 3 (.int .i64 d)
    simp only [World.size_alloc] at bO bC b1 b2 b3
    have hB0 : Below w.heap.size w ((((((w.alloc (.cells #[.int .i64 (M : Int)] 3)).alloc (.cells #[.slice none 0 0] 26)).alloc (.cells #[.bool false] 4)).alloc (.cells #[.int .i64 (M : Int)] 3)).alloc (.cells #[.int .i64 u] 3)).alloc (.cells #[.int .i64 d] 3)) := (by repeat (first | exact Below.refl _ _ | assumption | (refine Below.trans ?_ (Below.mono (by assumption) (by first | omega | (simp <;> omega)))) | (refine Below.alloc ?_ (by first | omega | (simp <;> omega)) _) | (refine below_drewN ?_ _) | (refine Below.drew ?_) | (refine Below.setCell ?_ (by first | omega | (simp <;> omega)) _)))
    have hsz : ((((((w.alloc (.cells #[.int .i64 (M : Int)] 3)).alloc (.cells #[.slice none 0 0] 26)).alloc (.cells #[.bool false] 4)).alloc (.cells #[.int .i64 (M : Int)] 3)).alloc (.cells #[.int .i64 u] 3)).alloc (.cells #[.int .i64 d] 3)).heap.size = w.heap.size + 6 := by simp
    obtain ⟨W0, hW0⟩ : ∃ W0, ((((((w.alloc (.cells #[.int .i64 (M : Int)] 3)).alloc (.cells #[.slice none 0 0] 26)).alloc (.cells #[.bool false] 4)).alloc (.cells #[.int .i64 (M : Int)] 3)).alloc (.cells #[.int .i64 u] 3)).alloc (.cells #[.int .i64 d] 3)) = W0 := ⟨_, rfl⟩
    rw [hW0] at bM bO bC b1 b2 b3 hB0 hsz ⊢
    clear hW0
    have hsa := Nat.le_of_eq hsz.symm
    have hsb := Nat.le_of_eq hsz
    clear hsz
    refine range_break (by omega) (gf := 88) rfl trivial (enters_of Try.func88 (by kernel_rfl) rfl)
      (numbers_go 5 (by omega) (w.heap.size + 1 + 1 + 1) M u d m1 m60 u1 u60 d1 d60 (leftMu (w.heap.size + 1) M) (M + 1) W0 b1.cell b2.cell b3.cell)
      (fun h h' => h.trans h') (fun W l o hl => ⟨World.putObj_heap_other (by omega), World.putObj_heap_other (by omega), World.putObj_heap_other (by omega)⟩) (fun _ => rfl)
      (fun k V => ((∃ v, Boxed V (w.heap.size + 1) 26 v ∧ OwnL V W0.heap.size v (listBy M u d k)) ∧ Boxed V (w.heap.size + 1 + 1) 4 (.bool false) ∧ Boxed V w.heap.size 3 (.int .i64 (M : Int)) ∧ k ≤ M) ∧ (Below w.heap.size w V ∧ W0.heap.size ≤ V.heap.size))
      (fun c V => (c = .exit 0 ∧ (∃ v, Boxed V (w.heap.size + 1) 26 v ∧ OwnL V W0.heap.size v (listBy M u d M)) ∧ Boxed V (w.heap.size + 1 + 1) 4 (.bool (nowBy M u d M == 0))) ∧ Below w.heap.size w V)
      (OwnFrom.and (Own.from (fun k A V row hs hg hr => by obtain ⟨⟨v, h1, h2⟩, h3, h4, h5⟩ := hs; exact ⟨⟨v, box_nc h1 hg hr, ownL_nc h2 hg hr⟩, box_nc h3 hg hr, box_nc h4 hg hr, h5⟩) _) (OwnFrom.and (ownFrom_below (Nat.le_refl _) (by omega)) (fun k A V row hs hg hr => Nat.le_trans hs hg.size)))
      (OwnFrom.and (Own.from (fun c A V row hs hg hr => by obtain ⟨h0, ⟨v, h1, h2⟩, h3⟩ := hs; exact ⟨h0, ⟨v, box_nc h1 hg hr, ownL_nc h2 hg hr⟩, box_nc h3 hg hr⟩) _) (ownFrom_below (Nat.le_refl _) (by omega)))
      (fun k V h => by
        obtain ⟨⟨⟨v, h1, h2⟩, _, _, hk⟩, _⟩ := h
        obtain ⟨a, cap, rfl, _⟩ := (OwnL.reads h2).cells (listBy_len M u d k)
        rw [leftMu_of h1]
        omega)
      ⟨⟨⟨_, bO, World.ownsRow_nil _ _ _ _⟩, bC, bM, by omega⟩, hB0, Nat.le_refl _⟩
      (fun k => { tmps := #[.int .i64 (M : Int), .int .i64 u, .int .i64 d, .pointer (some ⟨w.heap.size, 0, none⟩), undef, undef, .slice none 0 0, .bool false, .pointer (some ⟨w.heap.size + 1, 0, none⟩), .pointer (some ⟨w.heap.size + 1 + 1, 0, none⟩), .int .i64 (nowBy M u d k), .int .i64 (M : Int), .int .i64 u, .int .i64 d, .int .i64 lo, .bool false, .bool false, .int .i64 (M : Int), .int .i64 u, .int .i64 d, .int .i64 hi, .bool false, .bool false, .int .i64 (M : Int), .int .i64 u, .int .i64 d,
        .func (.func 88) #[] #[.pointer (some ⟨w.heap.size + 1 + 1 + 1 + 1, 0, none⟩), .pointer (some ⟨w.heap.size + 1 + 1 + 1, 0, none⟩), .pointer (some ⟨w.heap.size + 1 + 1 + 1 + 2, 0, none⟩)], .int .i64 (nowBy M u d k), undef, undef, undef, undef, undef, undef, undef, undef, undef, undef, undef, undef, undef, undef, undef, undef, undef, undef], defers := [] }) ?assign ?body ?stop
    case assign =>
      intro l k W K hK
      dsimp only [enN]
      gi_wp2
      exact hK
    case body =>
      rintro l k W ⟨⟨⟨v, bv, ho⟩, bc, bm, hk⟩, hB, hsw⟩
      obtain ⟨a, cap, rfl, _⟩ := (OwnL.reads ho).cells (listBy_len M u d k)
      have cv := bv.cell
      have fv := bv.frozen
      have cm := bm.cell
      have cc := bc.cell
      have fc := bc.frozen
      by_cases e : k = M
      · subst e
        have e' : ((k : Int) == k) = true := by simp
        generalize hX : nowBy k u d k = X at *
        gi_wp2
        refine ⟨(KeepsOthers.setCell _ _ _).from _, ⟨rfl, ⟨_, bv.other (by omega) _, World.ownsRow.kept ho (grownBy_setCell' _ _ _) (.inr fun e => ?_)⟩, bc.set _⟩, hB.setCell (p := ⟨w.heap.size + 1 + 1, 0, none⟩) (by simp; omega) _⟩
        have := (World.ownsRow.lt ho _ e).1
        omega
      · have e' : ((k : Int) == M) = false := by simp; omega
        have hlen := listBy_len M u d k
        have hS := listBy_succ M u d k
        obtain ⟨i0, hi0, iz0, iz1, iz2⟩ := info_parts infoInt
        generalize nowBy M u d k = X at *
        generalize hT : listBy M u d k = T at *
        generalize hT2 : listBy M u d (k + 1) = T2 at *
        have hrow : (W.alloc (.cells #[.int .i64 X] 3)).ownsRow W0.heap.size 3 1 (.slice a k cap) k (T.map (Value.int .i64)) := by
          have h := World.ownsRow.alloc ho (.cells #[.int .i64 X] 3)
          rwa [hlen] at h
        have HT2 := Lib.hid hT2
        have HS := Lib.hid hS
        have HLn := Lib.hid hlen
        clear hT hT2 hS hlen
        gi_wp2_with (gi_at_builtin; refine wpListIn_append_own _ rfl _ _ 26 rfl W0.heap.size 3 i0 (.int .i64 0) 1 8 Try.underlying26 hi0 iz0 iz1 iz2 rfl (by decide) _ _ _ rfl hrow ⟨W.heap.size, 0, none⟩ 1 1 [.int .i64 X] rfl rfl ?c1 ?c2 ?c3 ?c4 ?c5 ?_)
        case c1 =>
          intro j u hj
          match j, hj with
          | 0, hj => simp at hj; subst hj; exact cell_of_one (heap_alloc_new W _)
          | j + 1, hj => simp at hj
        case c2 => simp [Value.oneCell']
        case c3 => unfold maxLen; omega
        case c4 => omega
        case c5 => simp; omega
        intro v' w1 hown hgrow _
        obtain ⟨p1, p2, p3, p4, p5, p6⟩ := pushed (x := X) bv ho hsw (by omega) (by rw [HLn.out]; exact hown) hgrow
        obtain ⟨g', cap', rfl⟩ := ownsRow_succ hown
        have cv1 := p1.cell
        have fv1 := p1.frozen
        gi_wp2
        refine ⟨p4.from _, ⟨p5 _ (by omega) (by omega), p5 _ (by omega) (by omega), p5 _ (by omega) (by omega)⟩, ⟨⟨_, p2, ?_⟩, (p5 _ (by omega) (by omega)).trans bc, (p5 _ (by omega) (by omega)).trans bm, by omega⟩, hB.trans (p6 _ (by omega)), ?_⟩
        · rw [HT2.out, HS.out]; exact p3
        · have := p4.size; omega
    case stop =>
      rintro D c W hD ⟨⟨rfl, ⟨v, bv, ho⟩, bc⟩, hB⟩ hK
      have cv := bv.cell
      have cc := bc.cell
      have hlen := listBy_len M u d M
      have hR := OwnL.reads ho
      have HF : Hid (∀ x : List Int × Bool, orderByF M u d = x → OwnL W W0.heap.size v (listBy M u d M) → ∀ v' : Value, (v' = v ∧ x = (listBy M u d M, true) ∨ v' = .slice none 0 0 ∧ x = ([], false)) → ∃ vs, .tuple #[v', .bool x.2] = vs ∧ PairPost x w (.returned vs) (W.putObj D (.deferred none))) := by
        intro x hx ho2 v' hv
        have hB2 : Below w.heap.size w (W.putObj D (.deferred none)) := hB.trans (belowK_b (w := w) (Nat.le_refl _) W D _ _ (by omega) hK rfl rfl)
        refine ⟨_, rfl, v', rfl, ?_, hB2⟩
        rcases hv with ⟨rfl, rfl⟩ | ⟨rfl, rfl⟩
        · exact OwnL.mono (ownL_nc ho2 (grownBy_putObj' W D (.deferred none)) (fun r e => by cases e; exact ⟨_, hK, rfl⟩)) (by omega)
        · exact World.ownsRow_nil _ _ _ _
      have hF := HF.out _ rfl ho
      clear HF
      obtain ⟨a, cap, rfl, _⟩ := hR.cells hlen
      generalize hT : listBy M u d M = T at *
      have HLn := Lib.hid hlen
      by_cases z : nowBy M u d M = 0
      · have z' : (nowBy M u d M == 0) = true := by simpa using z
        rw [z'] at cc
        have HO : Hid (eachN T → orderByF M u d = (T, true)) := fun h => by
          rw [orderByF_yes (HK.out.2 ⟨h, z⟩), Int.toNat_natCast, hT]
        have HN : Hid (¬ eachN T → orderByF M u d = ([], false)) := fun h => orderByF_no fun h2 => h (HK.out.1 h2).1
        have HZ := Lib.hid z
        clear z z' hT hlen bv bc ho
        generalize orderByF M u d = x at *
        gi_wp2_with fail
        refine ⟨trivial, (callsIn_wide.2 (hasEach_any _ T _ hR (by rw [HLn.out]; omega))).mono ?_⟩; rintro e w3 ⟨⟨b, rfl, hb⟩, rfl⟩
        cases b with
        | true =>
          obtain rfl := HO.out (hb.1 rfl)
          clear hb HO HN
          gi_wp2
          obtain ⟨vs, e1, h1⟩ := hF (.slice a M cap) (by simp)
          refine ⟨by simp, .inl ⟨_, _, rfl, run_takeDeferred hK, vs, ?_, h1⟩⟩
          rw [← e1]
          simp [results, Try.results39, go_sem]
        | false =>
          obtain rfl := HN.out (fun h => absurd (hb.2 h) (by decide))
          clear hb HO HN
          gi_wp2
          obtain ⟨vs, e1, h1⟩ := hF (.slice none 0 0) (by simp)
          refine ⟨by simp, .inl ⟨_, _, rfl, run_takeDeferred hK, vs, ?_, h1⟩⟩
          rw [← e1]
          simp [results, Try.results39, go_sem]
      · have z' : (nowBy M u d M == 0) = false := by simpa using z
        rw [z'] at cc
        have HN : Hid (orderByF M u d = ([], false)) := orderByF_no fun h2 => z (HK.out.1 h2).2
        clear z z' hT hlen bv bc ho
        generalize orderByF M u d = x at *
        obtain rfl := HN.out
        gi_wp2
        refine ⟨trivial, ?_⟩
        gi_wp2
        obtain ⟨vs, e1, h1⟩ := hF (.slice none 0 0) (by simp)
        refine ⟨by simp, .inl ⟨_, _, rfl, run_takeDeferred hK, vs, ?_, h1⟩⟩
        rw [← e1]
        simp [results, Try.results39, go_sem]
  · have HZ : Hid (orderByF m u d = ([], false)) := orderByF_no fun h => hv ⟨h.1, h.2.1, h.2.2.1, h.2.2.2.1, h.2.2.2.2.1, h.2.2.2.2.2.1⟩
    generalize orderByF m u d = x at *
    obtain rfl := HZ.out
    obtain ⟨lo, rmin, hlo⟩ := min3 m u d
    obtain ⟨hi, rmax, hhi⟩ := max3 m u d
    by_cases c : lo < 1
    · clear hlo hhi hv
      go_enter Try.func39, Try.ntmps39
      go_wp2
      exact bodyPost_ret (v := .tuple #[.slice none 0 0, .bool false]) (by simp [results, Try.results39, go_sem]) rfl ⟨_, rfl, World.ownsRow_nil _ _ _ _, (by repeat (first | exact Below.refl _ _ | assumption | (refine Below.trans ?_ (Below.mono (by assumption) (by first | omega | (simp <;> omega)))) | (refine Below.alloc ?_ (by first | omega | (simp <;> omega)) _) | (refine below_drewN ?_ _) | (refine Below.drew ?_) | (refine Below.setCell ?_ (by first | omega | (simp <;> omega)) _)))⟩
    · have c' : decide (lo < 1) = false := by simpa using c
      have c2 : 60 < hi := by
        rw [hhi]
        rw [hlo] at c
        omega
      clear hlo hhi hv
      go_enter Try.func39, Try.ntmps39
      go_wp2
      exact bodyPost_ret (v := .tuple #[.slice none 0 0, .bool false]) (by simp [results, Try.results39, go_sem]) rfl ⟨_, rfl, World.ownsRow_nil _ _ _ _, (by repeat (first | exact Below.refl _ _ | assumption | (refine Below.trans ?_ (Below.mono (by assumption) (by first | omega | (simp <;> omega)))) | (refine Below.alloc ?_ (by first | omega | (simp <;> omega)) _) | (refine below_drewN ?_ _) | (refine Below.drew ?_) | (refine Below.setCell ?_ (by first | omega | (simp <;> omega)) _)))⟩
end Go.Proofs.Ytppahekbgbbidab

set_option linter.unusedVariables false
set_option linter.unusedSimpArgs false
namespace Go.Proofs.Ytppahekbgbbidab

set_option maxRecDepth 4000
open Go.ChangeShapes Go.WideShapes Go.ChangeAt Go.RowKit Go.Joins

theorem infoBool : (Try.prog.info? 4).map (fun i => (i.zero, i.size, i.bytes)) = some (some (.bool false), 1, 1) := by kernel_rfl

/-- block g holds the truth values cur -/
def BoolAt (w : World) (g : Nat) (cur : Array Value) : Prop := w.heap[g]? = some (.cells cur 4 (0, 0))

theorem BoolAt.cell {w : World} {g : Nat} {cur : Array Value} (h : BoolAt w g cur) (i : Nat) : w.cell? ⟨g, i, none⟩ = cur[i]? := by unfold BoolAt at h; simp [World.cell?, h]

theorem BoolAt.free {w : World} {g : Nat} {cur : Array Value} (h : BoolAt w g cur) (i : Nat) : w.frozen? ⟨g, i, none⟩ = false := by unfold BoolAt at h; simp [World.frozen?, h]

theorem BoolAt.lt {w : World} {g : Nat} {cur : Array Value} (h : BoolAt w g cur) : g < w.heap.size := by unfold BoolAt at h; exact (Array.getElem?_eq_some_iff.1 h).1

theorem BoolAt.below {w w' : World} {g B : Nat} {cur : Array Value} (h : BoolAt w g cur) (hb : Below B w w') (hg : g < B) : BoolAt w' g cur := by unfold BoolAt at *; rw [hb.block g hg]; exact h

theorem BoolAt.set {w : World} {g : Nat} {cur : Array Value} (h : BoolAt w g cur) (i : Nat) (v : Value) : BoolAt (w.setCell ⟨g, i, none⟩ v) g (cur.setIfInBounds i v) := by
  unfold BoolAt at *
  simp [World.setCell, Array.getElem?_modify, h]

theorem BoolAt.of_own {w : World} {g b n cap : Nat} {xs : List Value} (h : w.ownsRow b 4 1 (.slice (some ⟨g, 0, none⟩) n cap) n xs) : ∃ cur, BoolAt w g cur ∧ cur.size = cap ∧ n ≤ cap ∧ cur.toList.take n = xs := by
  obtain ⟨_, h⟩ := h
  rcases h with ⟨h, _⟩ | ⟨g', cap', cur, hv, hb, hg, hn, hm, hs, ht⟩
  · cases h
  · injection hv with h1 h2 h3
    injection h1 with h1
    injection h1 with h1
    subst h1 h3
    exact ⟨cur, hg, by omega, hn, by simpa using ht⟩

theorem orderByF_len (m u d : Int) : (orderByF m u d).1.length ≤ 60 := by
  by_cases h : okBy m u d
  · rw [orderByF_yes h]
    show (listBy m u d m.toNat).length ≤ 60
    rw [listBy_len]
    have := h.2.1
    omega
  · rw [orderByF_no h]; simp

def goodTo (m u d : Int) (k : Nat) : Prop := ∀ j : Nat, j < k → 0 ≤ nowBy m u d j ∧ nowBy m u d j < m ∧ ∀ i : Nat, i < j → nowBy m u d i ≠ nowBy m u d j

theorem goodTo_succ {m u d : Int} {k : Nat} (h : goodTo m u d k) (h0 : 0 ≤ nowBy m u d k) (h1 : nowBy m u d k < m) (h2 : ∀ i : Nat, i < k → nowBy m u d i ≠ nowBy m u d k) : goodTo m u d (k + 1) := by
  intro j hj
  by_cases e : j = k
  · subst e; exact ⟨h0, h1, h2⟩
  · exact h j (by omega)

/-- how the cells read: which numbers have come -/
def seenTo (m u d : Int) (k : Nat) (cur : Array Value) (M : Nat) : Prop := ∀ i : Nat, i < M → ∃ b : Bool, cur[i]? = some (.bool b) ∧ (b = true ↔ ∃ j : Nat, j < k ∧ nowBy m u d j = i)

end Go.Proofs.Ytppahekbgbbidab
