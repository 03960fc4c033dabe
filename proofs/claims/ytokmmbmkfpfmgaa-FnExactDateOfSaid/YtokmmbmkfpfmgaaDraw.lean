/- Contracts of the reader that draws (pick, odd, l20Open, l20Turn, l20At, l20Many): which numbers it may give, and that it changes nothing but itself. -/
import Derived.Test.YtokmmbmkfpfmgaaGKit
import Derived.Laws.Bits64
import Derived.Deep.LoopGhost
set_option linter.unusedVariables false
namespace Go.Proofs.Ytokmmbmkfpfmgaa
set_option maxRecDepth 4000
open Go.ChangeShapes Go.WideShapes Go.ChangeAt Go.RowKit Go.Joins

theorem xor_i64_nat (a b : Nat) (ha : a < 4611686018427387904) (hb : b < 4611686018427387904) :
    bits .xor .i64 (a : Int) (b : Int) = ((a ^^^ b : Nat) : Int) := by
  have hx : a ^^^ b < 2 ^ 62 := Nat.xor_lt_two_pow (by omega) (by omega)
  have h1 : (BitVec.ofInt 64 (a : Int)).toNat = a := by
    rw [BitVec.ofInt_natCast, BitVec.toNat_ofNat]; exact Nat.mod_eq_of_lt (by omega)
  have h2 : (BitVec.ofInt 64 (b : Int)).toNat = b := by
    rw [BitVec.ofInt_natCast, BitVec.toNat_ofNat]; exact Nat.mod_eq_of_lt (by omega)
  show IntKind.i64.wrap ((BitVec.ofInt 64 (a : Int) ^^^ BitVec.ofInt 64 (b : Int)).toNat : Int) = _
  rw [BitVec.toNat_xor, h1, h2]
  simp [IntKind.wrap, IntKind.bits, IntKind.signed]
  omega

theorem xor_i64_nonneg (a b : Int) (ha0 : 0 ≤ a) (hb0 : 0 ≤ b) (ha : a ≤ 1000000000) (hb : b ≤ 1000000000) : 0 ≤ bits .xor .i64 a b := by
  obtain ⟨a, rfl⟩ := Int.eq_ofNat_of_zero_le ha0
  obtain ⟨b, rfl⟩ := Int.eq_ofNat_of_zero_le hb0
  rw [xor_i64_nat a b (by omega) (by omega)]
  omega

/-- a block of two cells -/
def Two (w : World) (r : Nat) (x y : Value) (T : TypeId) : Prop := w.heap[r]? = some (.cells #[x, y] T (0, 0))

theorem Two.cell0 {w : World} {r : Nat} {x y : Value} {T : TypeId} (h : Two w r x y T) : w.cell? ⟨r, 0, none⟩ = some x := by unfold Two at h; simp [World.cell?, h]

theorem Two.cell1 {w : World} {r : Nat} {x y : Value} {T : TypeId} (h : Two w r x y T) : w.cell? ⟨r, 1, none⟩ = some y := by unfold Two at h; simp [World.cell?, h]

theorem Two.free {w : World} {r : Nat} {x y : Value} {T : TypeId} (h : Two w r x y T) (o : Nat) : w.frozen? ⟨r, o, none⟩ = false := by unfold Two at h; simp [World.frozen?, h]

theorem Two.lt {w : World} {r : Nat} {x y : Value} {T : TypeId} (h : Two w r x y T) : r < w.heap.size := by
  unfold Two at h; exact (Array.getElem?_eq_some_iff.1 h).1

theorem Two.set0 {w : World} {r : Nat} {x y : Value} {T : TypeId} (h : Two w r x y T) (z : Value) : Two (w.setCell ⟨r, 0, none⟩ z) r z y T := by
  unfold Two at *; simp [World.setCell, Array.getElem?_modify, h]

theorem Two.set1 {w : World} {r : Nat} {x y : Value} {T : TypeId} (h : Two w r x y T) (z : Value) : Two (w.setCell ⟨r, 1, none⟩ z) r x z T := by
  unfold Two at *; simp [World.setCell, Array.getElem?_modify, h]

theorem Two.same {w w' : World} {r : Nat} {x y : Value} {T : TypeId} (h : Two w r x y T) (e : w'.heap[r]? = w.heap[r]?) : Two w' r x y T := by
  unfold Two at *; rw [e]; exact h

theorem Two.new (w : World) (x y : Value) (T : TypeId) : Two (w.alloc (.cells #[x, y] T)) w.heap.size x y T := by
  unfold Two; show (w.heap.push _)[w.heap.size]? = _; simp

theorem Two.alloc {w : World} {r : Nat} {x y : Value} {T : TypeId} (h : Two w r x y T) (o : Obj) : Two (w.alloc o) r x y T := h.same (Below.heap_alloc _ _ _ h.lt)

theorem Two.set {w : World} {r : Nat} {x y : Value} {T : TypeId} (h : Two w r x y T) {b : Nat} (hb : b ≠ r) (o : Nat) (u : Value) : Two (w.setCell ⟨b, o, none⟩ u) r x y T := h.same (Below.heap_setCell _ _ _ _ (by show r ≠ b; omega))

theorem Two.new' (w : World) (b : Nat) (x y : Value) (T : TypeId) (hb : b = w.heap.size) : Two (w.alloc (.cells #[x, y] T)) b x y T := by
  subst hb; exact Two.new w x y T

theorem Two.below {w w' : World} {b B : Nat} {x y : Value} {T : TypeId} (h : Two w b x y T) (hb : Below B w w') (hlt : b < B) : Two w' b x y T := h.same (hb.block b hlt)

theorem Two.drewN {w : World} {b : Nat} {x y : Value} {T : TypeId} (h : Two w b x y T) (n : Nat) : Two (w.drewN n) b x y T := h

/-- nothing that was there has changed, but for block r -/
structure OnlyR (r : Nat) (w w' : World) : Prop where
  os : w'.os = w.os
  tape : w'.tape = w.tape
  output : w'.output = w.output
  size : w.heap.size ≤ w'.heap.size
  block : ∀ k, k < w.heap.size → k ≠ r → w'.heap[k]? = w.heap[k]?

theorem OnlyR.refl (r : Nat) (w : World) : OnlyR r w w := ⟨rfl, rfl, rfl, Nat.le_refl _, fun _ _ _ => rfl⟩

theorem OnlyR.trans {r : Nat} {a b c : World} (h : OnlyR r a b) (k : OnlyR r b c) : OnlyR r a c :=
  ⟨k.os.trans h.os, k.tape.trans h.tape, k.output.trans h.output, Nat.le_trans h.size k.size, fun i hi hr => (k.block i (Nat.lt_of_lt_of_le hi h.size) hr).trans (h.block i hi hr)⟩

theorem OnlyR.set {r : Nat} {a w : World} (h : OnlyR r a w) (o : Nat) (u : Value) : OnlyR r a (w.setCell ⟨r, o, none⟩ u) :=
  h.trans ⟨rfl, rfl, rfl, by simp [World.setCell], fun k _ hr => Below.heap_setCell _ _ _ _ hr⟩

theorem OnlyR.setAbove {r : Nat} {a w : World} (h : OnlyR r a w) {b : Nat} (hb : a.heap.size ≤ b) (o : Nat) (u : Value) : OnlyR r a (w.setCell ⟨b, o, none⟩ u) :=
  ⟨h.os, h.tape, h.output, by simpa [World.setCell] using h.size, fun k hk hr => (Below.heap_setCell _ _ _ _ (by show k ≠ b; omega)).trans (h.block k hk hr)⟩

theorem OnlyR.alloc {r : Nat} {a w : World} (h : OnlyR r a w) (o : Obj) : OnlyR r a (w.alloc o) :=
  ⟨h.os, h.tape, h.output, by have := h.size; simp; omega, fun k hk hr => (Below.heap_alloc _ _ _ (Nat.lt_of_lt_of_le hk h.size)).trans (h.block k hk hr)⟩

theorem OnlyR.drewN {r : Nat} {a w : World} (h : OnlyR r a w) (n : Nat) : OnlyR r a (w.drewN n) := ⟨h.os, h.tape, h.output, h.size, h.block⟩

theorem OnlyR.ofBelow {r : Nat} {a w w' : World} (h : OnlyR r a w) (hb : Below w.heap.size w w') : OnlyR r a w' :=
  h.trans ⟨hb.os, hb.tape, hb.output, hb.size, fun k hk _ => hb.block k hk⟩

theorem OnlyR.below {r B : Nat} {w w' : World} (h : OnlyR r w w') (hr : B ≤ r) (hB : B ≤ w.heap.size) : Below B w w' :=
  ⟨h.os, h.tape, h.output, h.size, fun k hk => h.block k (by omega) (by omega)⟩

theorem OnlyR.cells {r : Nat} {w w' : World} (h : OnlyR r w w') : (∀ b o, b < w.heap.size → b ≠ r → w'.cell? ⟨b, o, none⟩ = w.cell? ⟨b, o, none⟩) ∧ (∀ b o, b < w.heap.size → b ≠ r → w'.frozen? ⟨b, o, none⟩ = w.frozen? ⟨b, o, none⟩) :=
  ⟨fun b _ hb hr => World.cell?_of_block (w := w) (h.block b hb hr), fun b _ hb hr => World.frozen?_of_block (w := w) (h.block b hb hr)⟩

theorem OnlyR.two {r b : Nat} {w w' : World} {x y : Value} {T : TypeId} (h : OnlyR r w w') (ht : Two w b x y T) (hb : b ≠ r) : Two w' b x y T := ht.same (h.block b ht.lt hb)

/-- the bytes of the reader: none, or a row of bytes in a block below the reader's -/
def Code (w : World) (r : Nat) (sl : Value) : Prop :=
  (∃ (a : Option Addr) (cap : Nat), sl = .slice a 0 cap) ∨
  ∃ (b off len cap : Nat), sl = .slice (some ⟨b, off, none⟩) len cap ∧ 0 < len ∧ len ≤ 1048576 ∧ b < r ∧ ∀ i, i < len → ∃ z : Nat, z < 256 ∧ w.cell? ⟨b, off + i, none⟩ = some (.int .u8 z)

theorem Code.keep {w w' : World} {r : Nat} {sl : Value} (h : Code w r sl) (ho : ∀ k, k < r → w'.heap[k]? = w.heap[k]?) : Code w' r sl := by
  rcases h with h | ⟨b, off, len, cap, h1, h2, h3, h4, h6⟩
  · exact .inl h
  · exact .inr ⟨b, off, len, cap, h1, h2, h3, h4, fun i hi => by
      obtain ⟨z, hz, hc⟩ := h6 i hi
      exact ⟨z, hz, (World.cell?_of_block (w := w) (ho b h4)).trans hc⟩⟩

/-- the reader, with its bytes -/
def Rd (w : World) (r : Nat) (p : Int) : Prop := ∃ sl, Two w r sl (.int .i64 p) 55 ∧ Code w r sl

theorem Rd.lt {w : World} {r : Nat} {p : Int} (h : Rd w r p) : r < w.heap.size := by obtain ⟨_, h, _⟩ := h; exact h.lt

theorem Rd.same {w w' : World} {r : Nat} {p : Int} (h : Rd w r p) (ho : ∀ k, k ≤ r → w'.heap[k]? = w.heap[k]?) : Rd w' r p := by
  obtain ⟨sl, h, hc⟩ := h
  exact ⟨sl, h.same (ho r (Nat.le_refl _)), hc.keep fun k hk => ho k (Nat.le_of_lt hk)⟩

theorem Rd.alloc {w : World} {r : Nat} {p : Int} (h : Rd w r p) (o : Obj) : Rd (w.alloc o) r p := h.same fun k hk => Below.heap_alloc _ _ _ (by have := h.lt; omega)

theorem Rd.set {w : World} {r : Nat} {p : Int} (h : Rd w r p) {b : Nat} (hb : r < b) (o : Nat) (u : Value) : Rd (w.setCell ⟨b, o, none⟩ u) r p := h.same fun k hk => Below.heap_setCell _ _ _ _ (by show k ≠ b; omega)

theorem Rd.drewN {w : World} {r : Nat} {p : Int} (h : Rd w r p) (n : Nat) : Rd (w.drewN n) r p := h.same fun _ _ => rfl

theorem Rd.below {w w' : World} {r : Nat} {p : Int} (h : Rd w r p) (hb : Below w.heap.size w w') : Rd w' r p := h.same fun k hk => hb.block k (by have := h.lt; omega)

def PickPost (r : Nat) (p n : Int) (w : World) (e : Ending) (w' : World) : Prop :=
  ∃ v : Int, e = .returned (.int .i64 v) ∧ 0 ≤ v ∧ (v < n ∨ v = 0) ∧ Rd w' r (p + 1) ∧ OnlyR r w w' ∧ w'.heap.size = w.heap.size

set_option maxHeartbeats 1000000 in
theorem pick_any (r : Nat) (p n : Int) (w : World) (hr : Rd w r p) (hp0 : 0 ≤ p) (hp : p ≤ 1000000) (hn : n ≤ 1000000) :
    Calls Try.prog 47 #[.pointer (some ⟨r, 0, none⟩), .int .i64 n] w (PickPost r p n w) := by
  obtain ⟨sl, hr, hc⟩ := hr
  have h0 := hr.cell0
  have h1 := hr.cell1
  have hf := hr.free 1
  have hq : Two (w.setCell ⟨r, 1, none⟩ (.int .i64 (p + 1))) r sl (.int .i64 (p + 1)) 55 := hr.set1 _
  have ho : OnlyR r w (w.setCell ⟨r, 1, none⟩ (.int .i64 (p + 1))) := (OnlyR.refl r w).set 1 _
  have hcq := hc.keep (w' := w.setCell ⟨r, 1, none⟩ (.int .i64 (p + 1))) fun k hk => Below.heap_setCell _ _ _ _ (by show k ≠ r; omega)
  by_cases hn1 : n < 1
  · go_enter Try.func47, Try.ntmps47
    go_wp2
    go_ret
    exact ⟨0, rfl, by omega, .inr rfl, ⟨sl, hq, hcq⟩, ho, by simp [World.setCell]⟩
  rcases hc with ⟨a, cap, rfl⟩ | ⟨b, off, len, cap, rfl, hl0, hl, hb, hcell⟩
  · go_enter Try.func47, Try.ntmps47
    go_wp2
    go_ret
    exact ⟨0, rfl, by omega, .inr rfl, ⟨_, hq, hcq⟩, ho, by simp [World.setCell]⟩
  obtain ⟨p, rfl⟩ := Int.eq_ofNat_of_zero_le hp0
  have hlp : ((len : Int) == 0) = false := by simp; omega
  by_cases hpl : p < len
  · obtain ⟨z, hz, hcz⟩ := hcell p hpl
    have hpl' : (p : Int) < len := by omega
    clear hcell
    go_enter Try.func47, Try.ntmps47
    go_wp2
    go_ret
    have hm0 : (0 : Int) ≤ (z : Int) % n := Int.emod_nonneg _ (by omega)
    have hm1 : (z : Int) % n < n := Int.emod_lt_of_pos _ (by omega)
    exact ⟨_, rfl, hm0, .inl hm1, ⟨_, hq, hcq⟩, ho, by simp [World.setCell]⟩
  · obtain ⟨z1, hz1, hc1⟩ := hcell (p % len) (Nat.mod_lt _ hl0)
    obtain ⟨z2, hz2, hc2⟩ := hcell ((p * 7 + 3) % len) (Nat.mod_lt _ hl0)
    have hpl' : ¬ (p : Int) < len := by omega
    have hl0' : (0 : Int) < len := by omega
    have b1 : (0 : Int) ≤ (p : Int) % len := Int.emod_nonneg _ (by omega)
    have b2 : (p : Int) % len < len := Int.emod_lt_of_pos _ hl0'
    have b3 : (0 : Int) ≤ ((p : Int) * 7 + 3) % len := Int.emod_nonneg _ (by omega)
    have b4 : ((p : Int) * 7 + 3) % len < len := Int.emod_lt_of_pos _ hl0'
    have t1 : ((p : Int) % len).toNat = p % len := by omega
    have t2 : (((p : Int) * 7 + 3) % len).toNat = (p * 7 + 3) % len := by
      rw [show ((p : Int) * 7 + 3) % (len : Int) = (((p * 7 + 3) % len : Nat) : Int) by simp]
      exact Int.toNat_natCast _
    have d1 : (0 : Int) ≤ (p : Int) / len := Int.ediv_nonneg (by omega) (by omega)
    have d2 : (p : Int) / len ≤ p := Int.ediv_le_self _ (by omega)
    go_enter Try.func47, Try.ntmps47
    go_wp2
    go_quiet (fail)
    have x0 : (0 : Int) ≤ (z1 : Int) * 131 + (z2 : Int) * 1117 + (p : Int) * 29 + (p : Int) / len * 53 := by omega
    have x1 : (z1 : Int) * 131 + (z2 : Int) * 1117 + (p : Int) * 29 + (p : Int) / len * 53 ≤ 100000000 := by omega
    generalize (z1 : Int) * 131 + (z2 : Int) * 1117 + (p : Int) * 29 + (p : Int) / len * 53 = x at x0 x1 ⊢
    go_wp2
    go_ret
    have y0 := xor_i64_nonneg x (x / 64) x0 (by omega) (by omega) (by omega)
    have hm0 : (0 : Int) ≤ (bits .xor .i64 x (x / 64)).tmod n := Int.tmod_nonneg _ y0
    have hm1 : (bits .xor .i64 x (x / 64)).tmod n < n := Int.tmod_lt_of_pos _ (by omega)
    exact ⟨_, rfl, hm0, .inl hm1, ⟨_, hq, hcq⟩, ho.drewN nq, by simp [World.setCell]⟩

def OddPost (r : Nat) (p : Int) (w : World) (e : Ending) (w' : World) : Prop :=
  ∃ (v : Bool) (q : Int), e = .returned (.bool v) ∧ p ≤ q ∧ q ≤ p + 1 ∧ Rd w' r q ∧ OnlyR r w w' ∧ w'.heap.size = w.heap.size

set_option maxHeartbeats 1000000 in
theorem odd_any (r : Nat) (p n : Int) (w : World) (hr : Rd w r p) (hp0 : 0 ≤ p) (hp : p ≤ 1000000) (hn : n ≤ 1000000) :
    Calls Try.prog 56 #[.pointer (some ⟨r, 0, none⟩), .int .i64 n] w (OddPost r p w) := by
  by_cases h : 0 < n
  · go_enter Try.func56, Try.ntmps56
    go_wp2_with (go_at_call 47; refine (pick_any r p n _ hr hp0 hp hn).mono ?_; rintro e w1 ⟨v, rfl, hv0, hv, hr1, ho1, hs1⟩)
    go_ret
    exact ⟨_, p + 1, rfl, by omega, by omega, hr1, ho1, hs1⟩
  · have h' : decide (0 < n) = false := by simpa using h
    go_enter Try.func56, Try.ntmps56
    go_wp2
    go_ret
    exact ⟨_, p, rfl, by omega, by omega, hr, OnlyR.refl _ _, rfl⟩

def TurnPost (r : Nat) (p : Int) (w : World) (e : Ending) (w' : World) : Prop :=
  ∃ (n s q : Int), e = .returned (.agg #[.int .i64 (n), .int .i64 (s)]) ∧ -2 ≤ n ∧ n ≤ 100 ∧ -2 ≤ s ∧ s ≤ 100 ∧ p ≤ q ∧ q ≤ p + 5 ∧ Rd w' r q ∧ OnlyR r w w'

set_option maxHeartbeats 1000000 in
theorem l20Turn_any (r : Nat) (p n : Int) (w : World) (hr : Rd w r p) (hp0 : 0 ≤ p) (hp : p ≤ 900000) (hn : n ≤ 1000000) :
    Calls Try.prog 54 #[.pointer (some ⟨r, 0, none⟩), .int .i64 n] w (TurnPost r p w) := by
  have hlt := hr.lt
  have hA : w.heap.size ≠ r := by omega
  go_enter Try.func54, Try.ntmps54
  go_wp2_with fail
  refine (pick_any r p 30 _ (hr.alloc _) hp0 (by omega) (by omega)).mono ?_; rintro e w1 ⟨v1, rfl, a1, b1, hr1, ho1, hs1⟩
  obtain ⟨hc1, hf1⟩ := ho1.cells
  simp at hs1
  go_wp2_with fail
  refine (pick_any r (p + 1) 9 _ hr1 (by omega) (by omega) (by omega)).mono ?_; rintro e w2 ⟨v2, rfl, a2, b2, hr2, ho2, hs2⟩
  obtain ⟨hc2, hf2⟩ := ho2.cells
  rw [hs1] at hs2
  go_wp2_with fail
  have n0 : 2 ≤ 2 + v1 + v2 / 8 * 28 := by omega
  have n1 : 2 + v1 + v2 / 8 * 28 ≤ 60 := by omega
  generalize 2 + v1 + v2 / 8 * 28 = N at n0 n1 ⊢
  clear a1 b1 a2 b2
  refine (pick_any r (p + 1 + 1) (N - 1) _ (hr2.alloc _) (by omega) (by omega) (by omega)).mono ?_; rintro e w3 ⟨v3, rfl, a3, b3, hr3, ho3, hs3⟩
  obtain ⟨hc3, hf3⟩ := ho3.cells
  simp [hs2] at hs3
  have t3 : Two w3 (w.heap.size + 1) (.int .i64 N) (.int .i64 0) 24 := by
    have := ho3.two (Two.new _ _ _ _) (by omega : w2.heap.size ≠ r)
    rwa [hs2] at this
  have u3 : Two w3 w.heap.size (.int .i64 0) (.int .i64 0) 24 :=
    ho3.two ((ho2.two (ho1.two (Two.new _ _ _ _) hA) hA).alloc _) hA
  have o3 : OnlyR r w w3 := ((((OnlyR.refl r w).alloc _).trans ho1).trans ho2 |>.alloc _).trans ho3
  have hB : w.heap.size + 1 ≠ r := by omega
  clear hc1 hf1 hc2 hf2 hc3 hf3 ho1 ho2 ho3 hr1 hr2 hr hs1 hs2
  obtain ⟨q, hqq⟩ : ∃ q : Int, q = p + 1 + 1 + 1 := ⟨_, rfl⟩
  rw [← hqq] at hr3
  have hq1 : p ≤ q := by omega
  have hq2 : q ≤ p + 3 := by omega
  clear hqq
  have c30 := t3.cell0
  have c31 := t3.cell1
  have f31 := t3.free 1
  have t4 := t3.set1 (.int .i64 (1 + v3))
  have u4 := u3.set (b := w.heap.size + 1) (by omega) 1 (.int .i64 (1 + v3))
  have r4 := hr3.set (b := w.heap.size + 1) (by omega) 1 (.int .i64 (1 + v3))
  have o4 := o3.setAbove (b := w.heap.size + 1) (by omega) 1 (.int .i64 (1 + v3))
  go_wp2_with fail
  clear c30 c31 f31 t3 u3 hr3 o3
  have hk1 : 0 ≤ 1 + v3 := by omega
  have hk2 : 1 ≤ 1 + v3 := by omega
  have hk3 : 1 + v3 < N := by omega
  have hs4 : w.heap.size + 1 < (w3.setCell { block := w.heap.size + 1, off := 1 } (Value.int IntKind.i64 (1 + v3))).heap.size := t4.lt
  generalize w3.setCell { block := w.heap.size + 1, off := 1 } (Value.int IntKind.i64 (1 + v3)) = w4 at *
  go_loopg [26] (1 + v3).toNat (fun k _ wr => 1 ≤ k ∧ (k : Int) < N ∧ Two wr (w.heap.size + 1) (.int .i64 N) (.int .i64 k) 24 ∧ Two wr w.heap.size (.int .i64 0) (.int .i64 0) 24 ∧ Rd wr r q ∧ OnlyR r w wr)
  case atStart =>
    refine ⟨by omega, by omega, ?_, u4, r4, o4⟩
    rw [Int.toNat_of_nonneg hk1]
    exact t4
  case round =>
    obtain ⟨g1, g2, t5, u5, r5, o5⟩ := hrel
    clear t4 u4 r4 o4 hk1 hk2 hk3 hs4 a3 b3
    have c50 := t5.cell0
    have c51 := t5.cell1
    have f51 := t5.free 1
    by_cases hg : 1 < Nat.gcd N.toNat gk
    · have hg' : (1 : Int) < ((Nat.gcd N.toNat gk : Nat) : Int) := by omega
      have hk : gk ≠ 1 := by rintro rfl; simp at hg
      have t6 := t5.set1 (.int .i64 (gk - 1))
      have u6 := u5.set (b := w.heap.size + 1) (by omega) 1 (.int .i64 (gk - 1))
      have r6 := r5.set (b := w.heap.size + 1) (by omega) 1 (.int .i64 (gk - 1))
      have o6 := o5.setAbove (b := w.heap.size + 1) (by omega) 1 (.int .i64 (gk - 1))
      go_wp2_with fail
      refine (l1Common_any _ _ _ (by omega) (by omega) (by omega) (by omega)).mono ?_; rintro e w' ⟨rfl, rfl⟩
      rw [Int.toNat_natCast]
      go_wp2_with fail
      go_roundg (gk - 1)
      case measure => omega
      case rel => exact ⟨by omega, by omega, by rw [show ((gk - 1 : Nat) : Int) = (gk : Int) - 1 by omega]; exact t6, u6, r6, o6⟩
    · have hg' : ¬ (1 : Int) < ((Nat.gcd N.toNat gk : Nat) : Int) := by omega
      go_wp2_with fail
      refine (l1Common_any _ _ _ (by omega) (by omega) (by omega) (by omega)).mono ?_; rintro e w' ⟨rfl, rfl⟩
      rw [Int.toNat_natCast]
      go_wp2_with fail
      refine (odd_any r q n _ r5 (by omega) (by omega) hn).mono ?_; rintro e w6 ⟨v, q6, rfl, hq3, hq4, r6, o6, hs6⟩
      have t6 := o6.two t5 hB
      have u6 := o6.two u5 hA
      have o6' := o5.trans o6
      have lt6 := u6.lt
      clear c50 c51 f51 t5 u5 r5 o5 o6 hg hg'
      have c60 := t6.cell0
      have c61 := t6.cell1
      have d60 := u6.cell0
      have d61 := u6.cell1
      have f60 := u6.free 0
      have f61 := u6.free 1
      cases v
      · have u7 := (u6.set0 (.int .i64 N)).set1 (.int .i64 gk)
        have e70 := u7.cell0
        have e71 := u7.cell1
        go_wp2
        refine bodyPost_ret (v := (.agg #[.int .i64 (N), .int .i64 (gk)])) (by simp [results, Try.results54, go_sem, e70, e71]) rfl ?_
        refine ⟨N, gk, q6, rfl, by omega, by omega, by omega, by omega, by omega, by omega, ?_, ?_⟩
        · exact (r6.set (b := w.heap.size) hlt 0 _).set (b := w.heap.size) hlt 1 _
        · exact (o6'.setAbove (Nat.le_refl _) 0 _).setAbove (Nat.le_refl _) 1 _
      · go_wp2_with fail
        refine (pick_any r q6 5 _ (r6.alloc _) (by omega) (by omega) (by omega)).mono ?_; rintro e w7 ⟨v5, rfl, a5, b5, r7, o7, hs7⟩
        have u7 := o7.two (u6.alloc _) hA
        have o7' := (o6'.alloc _).trans o7
        obtain ⟨hc7, hf7⟩ := o7.cells
        have hS : wr.heap.size ≠ r := by have := r6.lt; omega
        clear c60 c61 d60 d61 f60 f61 t6 u6 o6' o7
        have d70 := u7.cell0
        have d71 := u7.cell1
        have f70 := u7.free 0
        have f71 := u7.free 1
        obtain rfl | rfl | rfl | rfl | rfl : v5 = 0 ∨ v5 = 1 ∨ v5 = 2 ∨ v5 = 3 ∨ v5 = 4 := by omega
        · have u8 := (u7.set0 (.int .i64 0)).set1 (.int .i64 (0))
          have e80 := u8.cell0
          have e81 := u8.cell1
          go_wp2
          refine bodyPost_ret (v := .agg #[.int .i64 0, .int .i64 (0)]) (by simp [results, Try.results54, go_sem, e80, e81]) rfl ?_
          refine ⟨0, 0, q6 + 1, rfl, by omega, by omega, by omega, by omega, by omega, by omega, ?_, ?_⟩
          · exact (r7.set (b := w.heap.size) hlt 0 _).set (b := w.heap.size) hlt 1 _
          · exact (o7'.setAbove (Nat.le_refl _) 0 _).setAbove (Nat.le_refl _) 1 _
        · have u8 := (u7.set0 (.int .i64 61)).set1 (.int .i64 (2))
          have e80 := u8.cell0
          have e81 := u8.cell1
          go_wp2
          refine bodyPost_ret (v := .agg #[.int .i64 61, .int .i64 (2)]) (by simp [results, Try.results54, go_sem, e80, e81]) rfl ?_
          refine ⟨61, 2, q6 + 1, rfl, by omega, by omega, by omega, by omega, by omega, by omega, ?_, ?_⟩
          · exact (r7.set (b := w.heap.size) hlt 0 _).set (b := w.heap.size) hlt 1 _
          · exact (o7'.setAbove (Nat.le_refl _) 0 _).setAbove (Nat.le_refl _) 1 _
        · have u8 := (u7.set0 (.int .i64 6)).set1 (.int .i64 (4))
          have e80 := u8.cell0
          have e81 := u8.cell1
          go_wp2
          refine bodyPost_ret (v := .agg #[.int .i64 6, .int .i64 (4)]) (by simp [results, Try.results54, go_sem, e80, e81]) rfl ?_
          refine ⟨6, 4, q6 + 1, rfl, by omega, by omega, by omega, by omega, by omega, by omega, ?_, ?_⟩
          · exact (r7.set (b := w.heap.size) hlt 0 _).set (b := w.heap.size) hlt 1 _
          · exact (o7'.setAbove (Nat.le_refl _) 0 _).setAbove (Nat.le_refl _) 1 _
        · have u8 := (u7.set0 (.int .i64 5)).set1 (.int .i64 (5))
          have e80 := u8.cell0
          have e81 := u8.cell1
          go_wp2
          refine bodyPost_ret (v := .agg #[.int .i64 5, .int .i64 (5)]) (by simp [results, Try.results54, go_sem, e80, e81]) rfl ?_
          refine ⟨5, 5, q6 + 1, rfl, by omega, by omega, by omega, by omega, by omega, by omega, ?_, ?_⟩
          · exact (r7.set (b := w.heap.size) hlt 0 _).set (b := w.heap.size) hlt 1 _
          · exact (o7'.setAbove (Nat.le_refl _) 0 _).setAbove (Nat.le_refl _) 1 _
        · have u8 := (u7.set0 (.int .i64 7)).set1 (.int .i64 (-2))
          have e80 := u8.cell0
          have e81 := u8.cell1
          go_wp2
          refine bodyPost_ret (v := .agg #[.int .i64 7, .int .i64 (-2)]) (by simp [results, Try.results54, go_sem, e80, e81]) rfl ?_
          refine ⟨7, -2, q6 + 1, rfl, by omega, by omega, by omega, by omega, by omega, by omega, ?_, ?_⟩
          · exact (r7.set (b := w.heap.size) hlt 0 _).set (b := w.heap.size) hlt 1 _
          · exact (o7'.setAbove (Nat.le_refl _) 0 _).setAbove (Nat.le_refl _) 1 _
end Go.Proofs.Ytokmmbmkfpfmgaa
