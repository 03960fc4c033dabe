/- The moves with both letters exchanged: the library's Replacer, built once and used at once. -/
import Derived.Test.YtckkgjgfjnfeoaaGreatDoorRpR
import Derived.Test.YtckkgjgfjnfeoaaGreatDoorOnce
set_option linter.unusedVariables false
namespace Go.Proofs.YtckkgjgfjnfeoaaGreatDoor
set_option maxRecDepth 4000

set_option maxRecDepth 4000
open Go.ChangeShapes Go.WideShapes Go.ChangeAt Go.RowKit Go.Joins Go.Shelf

/-- a Replacer in its box: built or not, its lock, what it built, what it is to build of -/
def Rep (w : World) (b : Nat) (d st sm : Int) (r o : Value) : Prop := w.heap[b]? = some (.cells #[.int .u32 d, .int .i32 st, .int .u32 sm, r, o] 67 (0, 0))

theorem Rep.cells {w : World} {b : Nat} {d st sm : Int} {r o : Value} (h : Rep w b d st sm r o) : w.cell? ⟨b, 0, none⟩ = some (.int .u32 d) ∧ w.cell? ⟨b, 1, none⟩ = some (.int .i32 st) ∧ w.cell? ⟨b, 2, none⟩ = some (.int .u32 sm) ∧ w.cell? ⟨b, 3, none⟩ = some r ∧ w.cell? ⟨b, 4, none⟩ = some o := by
  unfold Rep at h; simp [World.cell?, h]

theorem Rep.free {w : World} {b : Nat} {d st sm : Int} {r o : Value} (h : Rep w b d st sm r o) (i : Nat) : w.frozen? ⟨b, i, none⟩ = false := by unfold Rep at h; simp [World.frozen?, h]

theorem Rep.lt {w : World} {b : Nat} {d st sm : Int} {r o : Value} (h : Rep w b d st sm r o) : b < w.heap.size := by unfold Rep at h; exact (Array.getElem?_eq_some_iff.1 h).1

theorem Rep.below {w w' : World} {b B : Nat} {d st sm : Int} {r o : Value} (h : Rep w b d st sm r o) (hb : Below B w w') (hlt : b < B) : Rep w' b d st sm r o := by unfold Rep at *; rw [hb.block b hlt]; exact h

theorem Rep.drewS {w : World} {b : Nat} {d st sm : Int} {r o : Value} (h : Rep w b d st sm r o) : Rep w.drew b d st sm r o := h

theorem Rep.set0 {w : World} {b : Nat} {d st sm : Int} {r o : Value} (h : Rep w b d st sm r o) (x : Int) : Rep (w.setCell ⟨b, 0, none⟩ (.int .u32 x)) b x st sm r o := by unfold Rep at *; simp [World.setCell, Array.getElem?_modify, h]

theorem Rep.set1 {w : World} {b : Nat} {d st sm : Int} {r o : Value} (h : Rep w b d st sm r o) (x : Int) : Rep (w.setCell ⟨b, 1, none⟩ (.int .i32 x)) b d x sm r o := by unfold Rep at *; simp [World.setCell, Array.getElem?_modify, h]

theorem Rep.set3 {w : World} {b : Nat} {d st sm : Int} {r o : Value} (h : Rep w b d st sm r o) (x : Value) : Rep (w.setCell ⟨b, 3, none⟩ x) b d st sm x o := by unfold Rep at *; simp [World.setCell, Array.getElem?_modify, h]

theorem Rep.set4 {w : World} {b : Nat} {d st sm : Int} {r o : Value} (h : Rep w b d st sm r o) (x : Value) : Rep (w.setCell ⟨b, 4, none⟩ x) b d st sm r x := by unfold Rep at *; simp [World.setCell, Array.getElem?_modify, h]

theorem TabAt.set {w : World} {g b : Nat} (h : TabAt w g) (hb : b ≠ g) (o : Nat) (v : Value) : TabAt (w.setCell ⟨b, o, none⟩ v) g := by
  obtain ⟨c, h1, h2, h3⟩ := h
  refine ⟨c, ?_, h2, h3⟩
  unfold RowT at *
  rw [Below.heap_setCell _ _ _ _ (by show g ≠ b; omega)]; exact h1

theorem TabAt.below {w w' : World} {g B : Nat} (h : TabAt w g) (hb : Below B w w') (hlt : g < B) : TabAt w' g := by
  obtain ⟨c, h1, h2, h3⟩ := h
  exact ⟨c, h1.below hb hlt, h2, h3⟩

/-- the four texts -/
def Four (w : World) (q : Nat) : Prop := w.cell? ⟨q, 0, none⟩ = some (.string ⟨#[76]⟩) ∧ w.cell? ⟨q, 1, none⟩ = some (.string ⟨#[82]⟩) ∧ w.cell? ⟨q, 2, none⟩ = some (.string ⟨#[82]⟩) ∧ w.cell? ⟨q, 3, none⟩ = some (.string ⟨#[76]⟩)

theorem Four.set {w : World} {q b : Nat} (h : Four w q) (hb : q ≠ b) (o : Nat) (v : Value) : Four (w.setCell ⟨b, o, none⟩ v) q := by
  obtain ⟨a, b', c, d⟩ := h
  refine ⟨?_, ?_, ?_, ?_⟩ <;> (rw [World.cell?_setCell_other _ _ _ _ (fun h => hb (by rw [Addr.mk.injEq] at h; omega))]; assumption)

theorem Four.lt {w : World} {q : Nat} (h : Four w q) : q < w.heap.size := World.block_lt_of_cell? w _ h.1

/-- the table is built -/
def Built (b : Nat) (d st sm : Int) (w : World) (w' : World) : Prop := ∃ g, Rep w' b d st sm (.iface 94 (.pointer (some ⟨g, 0, none⟩))) (.slice none 0 0) ∧ w.heap.size ≤ g ∧ TabAt w' g ∧ Below b w w'

set_option maxHeartbeats 4000000 in
theorem buildOnce_any (b q cap : Nat) (d st sm : Int) (w : World) (hr : Rep w b d st sm .nilIface (.slice (some ⟨q, 0, none⟩) 4 cap)) (hq : Four w q) (hqb : q ≠ b) :
    Calls Tryz.prog 37 #[.pointer (some ⟨b, 0, none⟩)] w fun e w' => e = .returned (.tuple #[]) ∧ Built b d st sm w w' := by
  have hlt := hr.lt
  have HR := Lib.hid hr
  have hb := Lib.hid (build_any b q cap w hr.cells.2.2.2.2 hq.1 hq.2.1 hq.2.2.1 hq.2.2.2)
  clear hr hq
  go_enter Tryz.func37, Tryz.ntmps37
  go_wp2_with fail
  refine hb.out.mono ?_; rintro e w2 ⟨g, rfl, hg, ht, hB⟩
  have r2 := HR.out.below hB hlt
  have c3 := r2.cells.2.2.2.1
  have c4 := r2.cells.2.2.2.2
  have f3 := r2.free 3
  have f4 := r2.free 4
  have r4 := Lib.hid ((r2.set3 (.iface 94 (.pointer (some ⟨g, 0, none⟩)))).set4 (.slice none 0 0))
  have t4 := Lib.hid ((ht.set (b := b) (by omega) 3 (.iface 94 (.pointer (some ⟨g, 0, none⟩)))).set (b := b) (by omega) 4 (.slice none 0 0))
  have hB4 := Lib.hid (((hB.mono (Nat.le_of_lt hlt)).setCell (p := ⟨b, 3, none⟩) (Nat.le_refl _) (.iface 94 (.pointer (some ⟨g, 0, none⟩)))).setCell (p := ⟨b, 4, none⟩) (Nat.le_refl _) (.slice none 0 0))
  clear r2 ht hB
  go_wp2
  go_end0
  exact ⟨rfl, g, r4.out, hg, t4.out, hB4.out⟩

set_option maxRecDepth 100000 in
set_option maxHeartbeats 4000000 in
theorem doSlow_any (b q cap : Nat) (w : World) (hr : Rep w b 0 0 0 .nilIface (.slice (some ⟨q, 0, none⟩) 4 cap)) (hq : Four w q) (hqb : q ≠ b) :
    Calls Tryz.prog 48 #[.pointer (some ⟨b, 0, none⟩), .func (.func 37) #[.pointer (some ⟨b, 0, none⟩)] #[]] w fun e w' => e = .returned (.tuple #[]) ∧ Built b 1 0 0 w w' := by
  have hlt := hr.lt
  have r1 := hr.set1 1
  have q1 := hq.set hqb 1 (.int .i32 1)
  have hb := Lib.hid (buildOnce_any b q cap 0 1 0 _ r1 q1 hqb)
  have hB1 : Below b w (w.setCell ⟨b, 1, none⟩ (.int .i32 1)) := (Below.refl b w).setCell (p := ⟨b, 1, none⟩) (Nat.le_refl _) (.int .i32 1)
  have c1 := hr.cells.2.1
  have f1 := hr.free 1
  have d0 := r1.cells.1
  have hl := run_call_load (P := Tryz.prog) Tryz.func54 (by kernel_rfl) (by kernel_rfl) (by kernel_rfl) .u32 (by kernel_rfl) d0
  have hnot : ∀ (x : Bool) (w : World), (Op.unary .not (.bool x)).run Tryz.prog w = .ok (.bool (!x)) w := fun _ _ => rfl
  have hsz : (w.setCell ⟨b, 1, none⟩ (.int .i32 1)).heap.size = w.heap.size := by simp
  clear hr hq r1 q1
  go_enter_defers Tryz.func48, Tryz.ntmps48
  go_wp2_with (first | (go_at_call 55; refine (lock_free ⟨b, 1, none⟩ _ c1 f1).mono ?_; rintro e w' ⟨rfl, hw'⟩; rw [hw']) | (go_at_call 47; go_in) | (go_at_call 37; refine hb.out.mono ?_; rintro e w3 ⟨rfl, hBt⟩))
  obtain ⟨g, r3, hg, t3, hB3⟩ := hBt
  have hBw := hB1.trans hB3
  have hc0 := r3.cells.1
  have hf0 := r3.free 0
  have r4 := (r3.drewS).set0 1
  have t4 := (show TabAt w3.drew g from t3).set (b := b) (by rw [hsz] at hg; omega) 0 (.int .u32 1)
  have hB4 : Below b w (w3.drew.setCell ⟨b, 0, none⟩ (.int .u32 1)) := (Below.drewS hBw).setCell (p := ⟨b, 0, none⟩) (Nat.le_refl _) (.int .u32 1)
  have hc1 := r4.cells.2.1
  have hf1 := r4.free 1
  have r5 := r4.set1 0
  have t5 := t4.set (b := b) (by rw [hsz] at hg; omega) 1 (.int .i32 0)
  have hB5 := hB4.setCell (p := ⟨b, 1, none⟩) (Nat.le_refl _) (.int .i32 0)
  refine leaves_cons (f := 57) (args := #[.pointer (some ⟨b, 0, none⟩), .bool true]) (by simp) (by simp [go_sem]) ?_
  refine (store_deferred ⟨b, 0, none⟩ (.int .u32 0) .returning _ hc0 hf0).mono ?_
  rintro e u' w'' ⟨rfl, rfl, rfl⟩
  refine leaves_cons (f := 56) (args := #[.pointer (some ⟨b, 1, none⟩)]) (by simp [settle]) (by simp [go_sem]) ?_
  refine (unlock_deferred ⟨b, 1, none⟩ _ _ hc1 hf1).mono ?_
  rintro e u' w'' ⟨rfl, rfl, rfl⟩
  have hend : Built b 1 0 0 w ((w3.drew.setCell ⟨b, 0, none⟩ (.int .u32 1)).setCell ⟨b, 1, none⟩ (.int .i32 0)) := ⟨g, r5, by rw [hsz] at hg; exact hg, t5, hB5⟩
  simp [Leaves, settle, results, Tryz.results48]
  exact hend

set_option maxHeartbeats 4000000 in
theorem do_any (b q cap : Nat) (w : World) (hr : Rep w b 0 0 0 .nilIface (.slice (some ⟨q, 0, none⟩) 4 cap)) (hq : Four w q) (hqb : q ≠ b) :
    Calls Tryz.prog 36 #[.pointer (some ⟨b, 0, none⟩), .func (.func 37) #[.pointer (some ⟨b, 0, none⟩)] #[]] w fun e w' => e = .returned (.tuple #[]) ∧ Built b 1 0 0 w w' := by
  have hs := Lib.hid (doSlow_any b q cap w hr hq hqb)
  have d0 := hr.cells.1
  have hl := run_call_load (P := Tryz.prog) Tryz.func54 (by kernel_rfl) (by kernel_rfl) (by kernel_rfl) .u32 (by kernel_rfl) d0
  have hnot : ∀ (x : Bool) (w : World), (Op.unary .not (.bool x)).run Tryz.prog w = .ok (.bool (!x)) w := fun _ _ => rfl
  clear hr hq
  go_enter Tryz.func36, Tryz.ntmps36
  go_wp2_with (first | (go_at_call 48; refine hs.out.mono ?_; rintro e w3 ⟨rfl, hBt⟩) | (go_at_call 47; go_in))
  go_end0
  exact ⟨rfl, hBt⟩

set_option maxHeartbeats 4000000 in
theorem replace_any (b q cap : Nat) (v : List Bool) (w : World) (hv : v.length ≤ 58) (hr : Rep w b 0 0 0 .nilIface (.slice (some ⟨q, 0, none⟩) 4 cap)) (hq : Four w q) (hqb : q ≠ b) :
    Calls Tryz.prog 28 #[.pointer (some ⟨b, 0, none⟩), .string (txtM v)] w fun e w' => e = .returned (.string (txtM (v.map (!·)))) ∧ Below b w w' := by
  have hs := Lib.hid (do_any b q cap w hr hq hqb)
  have hmf : ∀ (fn : Fn) (first cap : Array Value) (w : World), (Instr.makeFunc fn first cap).run Tryz.prog w = .ok (.func fn first cap) w := fun _ _ _ _ => rfl
  have HT := Lib.hid (fun g w (h : TabAt w g) => tabReplace_any g v w h hv)
  have hlt := hr.lt
  generalize txtM (v.map (!·)) = R at *
  generalize txtM v = U at *
  clear hr hq
  go_enter Tryz.func28, Tryz.ntmps28
  go_wp2_with fail
  refine hs.out.mono ?_; rintro e w3 ⟨rfl, g, r3, hg, t3, hB3⟩
  have c3 := r3.cells.2.2.2.1
  have htab := Lib.hid (HT.out g w3 t3)
  clear r3 t3
  have hm : ∀ (k : Nat) (w : World), (method (k + 1) 94 (.pointer (some ⟨g, 0, none⟩)) "Replace").run Tryz.prog w = .ok (122, .pointer (some ⟨g, 0, none⟩)) w := fun _ _ => by kernel_rfl
  go_wp2_with fail
  refine htab.out.mono ?_; rintro e w4 ⟨rfl, hb4⟩
  have hz := hB3.size
  go_wp2
  go_ret
  exact ⟨rfl, hB3.trans (hb4.mono (by omega))⟩

theorem infoStrR : (Tryz.prog.info? 9).map (fun i => (i.zero, i.size, i.bytes)) = some (some (.string ⟨#[]⟩), 1, 16) := by kernel_rfl

theorem append_four {W : World} {ops : Array Oper} {rest : List Oper} {o : Oper} {a : Act} {Q : Exit → Act → World → Prop} (hgd : o.guard = none) (S X : Operand)
    (ho : o.op = .call { callee := .builtin .append, args := #[S, X], argTypes := #[46, 46] })
    (q0 : Nat) (hs : a.eval S = .slice none 0 0) (hq : Four W q0) (hx : a.eval X = .slice (some ⟨q0, 0, none⟩) 4 4)
    (h : ∀ q cap w', Four w' q → W.heap.size ≤ q → q < w'.heap.size → Below W.heap.size W w' → wpList Tryz.prog ops Q rest (a.put o.dst (.slice (some ⟨q, 0, none⟩) 4 cap)) w') :
    wpList Tryz.prog ops Q (o :: rest) a W := by
  obtain ⟨i0, hi, iz0, iz1, iz2⟩ := info_parts infoStrR
  refine wpList_append_own _ hgd S X 46 ho W.heap.size 9 i0 (.string ⟨#[]⟩) 1 16 Tryz.underlying46 hi iz0 iz1 iz2 rfl (by decide) (.slice none 0 0) 0 [] hs (World.ownsRow_nil _ _ _ _) ⟨q0, 0, none⟩ 4 4 [.string ⟨#[76]⟩, .string ⟨#[82]⟩, .string ⟨#[82]⟩, .string ⟨#[76]⟩] hx rfl ?c1 ?c2 ?c3 ?c4 ?c5 ?_
  case c1 =>
    intro j u hj
    obtain ⟨a, b, c, d⟩ := hq
    match j, hj with
    | 0, hj => simp at hj; subst hj; exact a
    | 1, hj => simp at hj; subst hj; exact b
    | 2, hj => simp at hj; subst hj; exact c
    | 3, hj => simp at hj; subst hj; exact d
    | j + 4, hj => simp at hj
  case c2 => simp [Value.oneCell']
  case c3 => unfold maxLen; omega
  case c4 => omega
  case c5 => omega
  intro v' w' h1 h2 h3
  obtain ⟨_, h4⟩ := h1
  rcases h4 with ⟨_, e⟩ | ⟨g, cap, cur, rfl, hb, hg, hn, hm, hsz, ht⟩
  · omega
  · have hc : ∀ i, w'.cell? ⟨g, i, none⟩ = cur[i]? := fun i => by simp [World.cell?, hg]
    have hcc : ∀ i, i < 4 → cur[i]? = ([Value.string ⟨#[76]⟩, .string ⟨#[82]⟩, .string ⟨#[82]⟩, .string ⟨#[76]⟩])[i]? := fun i hi => by
      have e : (cur.toList.take ((0 + 4) * 1))[i]? = ([] ++ [Value.string ⟨#[76]⟩, .string ⟨#[82]⟩, .string ⟨#[82]⟩, .string ⟨#[76]⟩])[i]? := by rw [ht]
      rw [List.getElem?_take_of_lt (by omega)] at e
      simpa using e
    refine h g cap w' ⟨?_, ?_, ?_, ?_⟩ hb (Array.getElem?_eq_some_iff.1 hg).1 ((Below.refl _ W).grown h2 (by omega) (fun q hq => by simp [Value.ownBlock] at hq))
    · rw [hc, hcc 0 (by omega)]; rfl
    · rw [hc, hcc 1 (by omega)]; rfl
    · rw [hc, hcc 2 (by omega)]; rfl
    · rw [hc, hcc 3 (by omega)]; rfl

set_option maxHeartbeats 4000000 in
theorem newReplacer_any (q0 : Nat) (w : World) (hq : Four w q0) :
    Calls Tryz.prog 27 #[.slice (some ⟨q0, 0, none⟩) 4 4] w fun e w' => ∃ b q cap, e = .returned (.pointer (some ⟨b, 0, none⟩)) ∧ Rep w' b 0 0 0 .nilIface (.slice (some ⟨q, 0, none⟩) 4 cap) ∧ Four w' q ∧ q ≠ b ∧ w.heap.size ≤ b ∧ Below w.heap.size w w' := by
  go_enter Tryz.func27, Tryz.ntmps27
  go_wp2_with (at_builtin; refine append_four rfl _ _ rfl q0 rfl hq rfl ?_)
  intro q cap w2 hq2 hqs hql hB2
  have hr : Rep (w2.alloc (.cells #[.int .u32 0, .int .i32 0, .int .u32 0, .nilIface, .slice (some ⟨q, 0, none⟩) 4 cap] 67)) w2.heap.size 0 0 0 .nilIface (.slice (some ⟨q, 0, none⟩) 4 cap) := heap_alloc_new w2 _
  have hf : Four (w2.alloc (.cells #[.int .u32 0, .int .i32 0, .int .u32 0, .nilIface, .slice (some ⟨q, 0, none⟩) 4 cap] 67)) q := by
    obtain ⟨a, b, c, d⟩ := hq2
    refine ⟨?_, ?_, ?_, ?_⟩ <;> (rw [World.cell?_alloc_past _ _ _ hql]; assumption)
  have hB3 := hB2.alloc hB2.size (.cells #[.int .u32 0, .int .i32 0, .int .u32 0, .nilIface, .slice (some ⟨q, 0, none⟩) 4 cap] 67)
  go_wp2
  go_ret
  exact ⟨_, q, cap, rfl, hr, hf, by omega, hB2.size, hB3⟩

set_option maxHeartbeats 4000000 in
theorem otherMoves_any (u : ByteArray) (w : World) (hu : u.size ≤ 2000000) :
    Calls Tryz.prog 12 #[.string u] w fun e w' => e = .returned (.string (otherM u)) ∧ Below w.heap.size w w' := by
  have hmo := Lib.hid (fun w => movesOk_any u w hu)
  rcases mvOk_cases u with ⟨v, hv, rfl, hok⟩ | ⟨hno, hok⟩
  · rw [hok] at hmo
    have hX : otherM (txtM v) = txtM (v.map (!·)) := onM_yes hv
    rw [hX]
    have HR := Lib.hid (fun b q cap w hr hq hqb => replace_any b q cap v w hv hr hq hqb)
    generalize txtM (v.map (!·)) = R at *
    generalize txtM v = U at *
    clear hX hok
    go_enter Tryz.func12, Tryz.ntmps12
    go_wp2_with fail
    refine (hmo.out _).mono ?_; rintro e w1 ⟨rfl, hb1⟩
    have hf : Four (w1.alloc (.cells #[.string ⟨#[76]⟩, .string ⟨#[82]⟩, .string ⟨#[82]⟩, .string ⟨#[76]⟩] 9)) w1.heap.size := by
      have h := heap_alloc_new w1 (.cells #[.string ⟨#[76]⟩, .string ⟨#[82]⟩, .string ⟨#[82]⟩, .string ⟨#[76]⟩] 9)
      exact ⟨by unfold World.cell?; rw [h]; rfl, by unfold World.cell?; rw [h]; rfl, by unfold World.cell?; rw [h]; rfl, by unfold World.cell?; rw [h]; rfl⟩
    have hB2 := hb1.alloc hb1.size (.cells #[.string ⟨#[76]⟩, .string ⟨#[82]⟩, .string ⟨#[82]⟩, .string ⟨#[76]⟩] 9)
    have hNR := Lib.hid (newReplacer_any w1.heap.size _ hf)
    clear hf
    go_wp2_with fail
    refine hNR.out.mono ?_; rintro e w3 ⟨b, q, cap, rfl, hr, hq, hqb, hsz, hB3⟩
    have hB4 := hB2.trans (hB3.mono hB2.size)
    have hRp := Lib.hid (HR.out b q cap w3 hr hq hqb)
    have hz := hB2.size
    clear hr hq hNR
    go_wp2_with fail
    refine hRp.out.mono ?_; rintro e w5 ⟨rfl, hB5⟩
    go_wp2
    go_ret
    exact ⟨rfl, hB4.trans (hB5.mono (by omega))⟩
  · rw [hok] at hmo
    have hX : otherM u = ⟨#[]⟩ := onM_no hno
    rw [hX]
    go_enter Tryz.func12, Tryz.ntmps12
    go_wp2_with fail
    refine (hmo.out _).mono ?_; rintro e w1 ⟨rfl, hb1⟩
    go_wp2
    go_ret
    exact ⟨rfl, hb1⟩
end Go.Proofs.YtckkgjgfjnfeoaaGreatDoor
