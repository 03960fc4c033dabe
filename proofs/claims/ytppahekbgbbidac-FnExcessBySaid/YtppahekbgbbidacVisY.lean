/- Contracts of chapter 6: the excess by few points, of the program and of the model. -/
import Derived.Test.YtppahekbgbbidacGVisI
set_option linter.unusedVariables false
namespace Go.Proofs.Ytppahekbgbbidac

set_option maxRecDepth 4000
open N
open Go.ChangeShapes Go.WideShapes Go.ChangeAt Go.RowKit Go.Joins

theorem dif_eq (n s : Int) (m k : Nat) : difB n s m k = (n - 1 - k) * s % n - ((m : Int) - 1 - k + n) * s % n := by
  unfold difB pt
  have e1 : (n - 1 - k) * s = -((k : Int) + 1) * s + n * s := by rw [← Int.add_mul]; congr 1; omega
  have e2 : ((m : Int) - 1 - k + n) * s = ((m : Int) - ((k : Int) + 1)) * s + n * s := by rw [← Int.add_mul]; congr 1; omega
  rw [e1, e2, Int.add_mul_emod_self_left, Int.add_mul_emod_self_left]

set_option maxHeartbeats 2000000 in
theorem excess1_any (n s : Int) (m k : Nat) (w : World) (a b : Nat) (ht : tok n s = true) (hm : (m : Int) ≤ n) (hk : (k : Int) < n)
    (ha : Two w a (.int .i64 n) (.int .i64 s) 24) (hb : One w b (.int .i64 m) 3) :
    Calls Try.prog 62 #[.int .i64 k, .pointer (some ⟨a, 0, none⟩), .pointer (some ⟨b, 0, none⟩)] w fun e w' => e = .returned (.int .i64 (difB n s m k)) ∧ Below w.heap.size w w' := by
  have hbd := tok_bd ht
  have c0 := ha.cell0
  have c1 := ha.cell1
  have d0 := hb.cell
  have la := ha.lt
  have lb := hb.lt
  rw [dif_eq]
  obtain ⟨x, hx⟩ : ∃ x, n - 1 - (k : Int) = x := ⟨_, rfl⟩
  obtain ⟨y, hy⟩ : ∃ y, (m : Int) - 1 - k + n = y := ⟨_, rfl⟩
  have w1 : IntKind.i64.wrap (n - 1) = n - 1 := IntWalk.i64_in _ (by omega)
  have w2 : IntKind.i64.wrap (n - 1 - k) = x := by rw [IntWalk.i64_in _ (by omega)]; exact hx
  have w3 : IntKind.i64.wrap ((m : Int) - 1) = (m : Int) - 1 := IntWalk.i64_in _ (by omega)
  have w4 : IntKind.i64.wrap ((m : Int) - 1 - k) = (m : Int) - 1 - k := IntWalk.i64_in _ (by omega)
  have w5 : IntKind.i64.wrap ((m : Int) - 1 - k + n) = y := by rw [IntWalk.i64_in _ (by omega)]; exact hy
  rw [hx, hy]
  have H1 := Lib.hid (fun w => pointAt_any n s x w (by omega) (by omega) (by omega) (by omega) (by omega) (by omega))
  have H2 := Lib.hid (fun w => pointAt_any n s y w (by omega) (by omega) (by omega) (by omega) (by omega) (by omega))
  have g0 := Int.emod_nonneg (x * s) (by omega : n ≠ 0)
  have g1 : x * s % n < n := Int.emod_lt_of_pos _ (by omega)
  have g2 := Int.emod_nonneg (y * s) (by omega : n ≠ 0)
  have g3 : y * s % n < n := Int.emod_lt_of_pos _ (by omega)
  clear hx hy
  generalize x * s % n = A at *
  generalize y * s % n = B at *
  have w6 : IntKind.i64.wrap (A - B) = A - B := IntWalk.i64_in _ (by omega)
  have hB0 := Below.refl w.heap.size w
  clear ht hm hk
  go_enter Try.func62, Try.ntmps62
  go_wp2_with fail
  go_region_held3 (fun w' => w'.cell? ⟨a, 0, none⟩ = some (.int .i64 n) ∧ w'.cell? ⟨a, 1, none⟩ = some (.int .i64 s) ∧ w'.cell? ⟨b, 0, none⟩ = some (.int .i64 m))
    (first | go_keep | exact ⟨a'c, a'd, b'c⟩)
    (first
      | (go_at_call 63; (with_reducible refine (H1.out _).mono ?_); rintro e w' ⟨rfl, hb'⟩; have a'' : Two w' a (.int .i64 n) (.int .i64 s) 24 := (by first | exact Two.below a' hb' a'.lt | exact Two.below (Two.drewS ha) hb' ha.lt); have b'' : One w' b (.int .i64 m) 3 := (by first | exact One.below b' hb' b'.lt | exact One.below (One.drewS hb) hb' hb.lt); have B'' : Below w.heap.size w w' := (by first | exact B'.trans (Below.mono hb' B'.size) | exact (below_drewN hB0 1).trans hb'); have a' := a''; have b' := b''; have B' := B''; have a'c := a'.cell0; have a'd := a'.cell1; have b'c := b'.cell)
      | (go_at_call 63; (with_reducible refine (H2.out _).mono ?_); rintro e w' ⟨rfl, hb'⟩; have a'' : Two w' a (.int .i64 n) (.int .i64 s) 24 := (by first | exact Two.below a' hb' a'.lt | exact Two.below (Two.drewS ha) hb' ha.lt); have b'' : One w' b (.int .i64 m) 3 := (by first | exact One.below b' hb' b'.lt | exact One.below (One.drewS hb) hb' hb.lt); have B'' : Below w.heap.size w w' := (by first | exact B'.trans (Below.mono hb' B'.size) | exact (below_drewN hB0 1).trans hb'); have a' := a''; have b' := b''; have B' := B''; have a'c := a'.cell0; have a'd := a'.cell1; have b'c := b'.cell))
  go_wp2
  go_ret
  exact ⟨rfl, B'⟩

set_option maxHeartbeats 1000000 in
theorem sumExc_any (n s : Int) (m t : Nat) (w : World) (a b : Nat) (ht : tok n s = true) (hm : (m : Int) ≤ n) (hk : (t : Int) < n)
    (ha : Two w a (.int .i64 n) (.int .i64 s) 24) (hb : One w b (.int .i64 m) 3) :
    Calls Try.prog 61 #[.int .i64 t, .func (.func 62) #[] #[.pointer (some ⟨a, 0, none⟩), .pointer (some ⟨b, 0, none⟩)]] w fun e w' => e = .returned (.int .i64 (exB n s m t)) ∧ Below w.heap.size w w' := by
  have hbd := tok_bd ht
  have HV := Lib.hid (fun (k : Nat) (wr : World) (hk : (k : Int) < n) (hB : Below w.heap.size w wr) => excess1_any n s m k wr a b ht hm hk (ha.below hB ha.lt) (hb.below hB hb.lt))
  have hB0 := Below.refl w.heap.size w
  clear ht hm ha hb
  go_enter Try.func61, Try.ntmps61
  go_wp2_with fail
  go_loopw [5, 8] (fun x y wr => ∃ k : Nat, x = .int .i64 (exB n s m k) ∧ y = .int .i64 k ∧ k ≤ t ∧ Below w.heap.size w wr) (fun _ y _ => t - (intOf y).toNat)
  case atStart => exact ⟨0, rfl, rfl, by omega, hB0⟩
  case round =>
    obtain ⟨k, rfl, rfl, hk, hB⟩ := hrel
    by_cases hkm : k < t
    · have hkm' : (k : Int) < t := by omega
      have hbd2 := exB_bd (n := n) (s := s) (by omega) m k
      have hbd3 := difB_bd (n := n) (s := s) (by omega) m k
      have hkn : (k : Int) * (n - 1) ≤ 60 * 60 := Int.mul_le_mul (by omega) (by omega) (by omega) (by omega)
      have hV := Lib.hid (show exB n s m k + difB n s m k = exB n s m (k + 1) from rfl)
      have hcall := HV.out k wr (by omega) hB
      generalize difB n s m k = d at *
      generalize exB n s m k = X at *
      have hw : IntKind.i64.wrap (X + d) = X + d := IntWalk.i64_in _ (by omega)
      clear hbd2 hbd3 hkn
      go_wp2_with fail
      refine hcall.mono ?_; rintro e w2 ⟨rfl, hb2⟩
      have hB2 := hB.trans (hb2.mono hB.size)
      clear hb2 hcall hB
      go_wp2_with fail
      go_roundw
      case rel => exact ⟨k + 1, by rw [← hV.out], by go_num, by omega, hB2⟩
      case measure => simp only [intOf]; omega
    · have hkm' : decide ((k : Int) < t) = false := by simp; omega
      obtain rfl : k = t := by omega
      go_wp2
      go_ret
      exact ⟨rfl, hB⟩

set_option maxHeartbeats 2000000 in
theorem excessBy_any (n s m u : Int) (w : World) :
    Calls Try.prog 15 #[(.agg #[.int .i64 (n), .int .i64 (s)]), .int .i64 m, .int .i64 u] w fun e w' => e = .returned (.tuple #[.int .i64 (exbF n s m u), .bool (exbT n s m u)]) ∧ Below w.heap.size w w' := by
  obtain ⟨W, hW, ta, tb, hB⟩ := two_boxes n s m w
  have c0 := ta.cell0
  have c1 := ta.cell1
  have b0 := tb.cell
  have U1 := Lib.hid (upToSize_any n s m)
  by_cases h1 : tok n s = true ∧ 0 ≤ m ∧ m ≤ n
  · have E1 := upF_yes h1.1 h1.2.1 h1.2.2
    by_cases h3 : 0 ≤ u
    · by_cases h4 : u < n
      · obtain ⟨ht, m0, m1⟩ := h1
        have E := Lib.hid (exbF_yes ht m0 m1 h3 h4)
        have E2 := Lib.hid (exbT_yes ht m0 m1 h3 h4)
        obtain ⟨m, rfl⟩ := Int.eq_ofNat_of_zero_le m0
        obtain ⟨u, rfl⟩ := Int.eq_ofNat_of_zero_le h3
        rw [Int.toNat_natCast, Int.toNat_natCast] at E
        have HS := Lib.hid (fun (w : World) a b => sumExc_any n s m u w a b ht m1 h4)
        clear ht
        go_enter Try.func15, Try.ntmps15
        go_wp2_with fail
        rw [← hW]
        clear hW
        refine (U1.out _).mono ?_; rintro e w1 ⟨rfl, hb1⟩
        rw [E1]
        have hB1 := hB.trans (hb1.mono hB.size)
        have ta1 := ta.below hb1 ta.lt
        have tb1 := tb.below hb1 tb.lt
        have c01 := ta1.cell0
        have c11 := ta1.cell1
        have b01 := tb1.cell
        clear hb1 hB ta tb c0 c1 b0
        go_wp2_with fail
        refine (HS.out _ _ _ ta1 tb1).mono ?_; rintro e w3 ⟨rfl, hb3⟩
        have hB3 := hB1.trans (hb3.mono hB1.size)
        go_wp2
        refine bodyPost_ret (v := .tuple #[.int .i64 (exB n s m u), .bool true]) (by simp [results, Try.results15, go_sem]) rfl ?_
        exact ⟨by rw [E.out, E2.out], hB3⟩
      · have h4' : n ≤ u := by omega
        rw [exbF_no (fun h => h4 h.2.2.2.2), exbT_no (fun h => h4 h.2.2.2.2)]
        go_enter Try.func15, Try.ntmps15
        go_wp2_with fail
        rw [← hW]
        clear hW
        refine (U1.out _).mono ?_; rintro e w1 ⟨rfl, hb1⟩
        rw [E1]
        have hB1 := hB.trans (hb1.mono hB.size)
        have ta1 := ta.below hb1 ta.lt
        have tb1 := tb.below hb1 tb.lt
        have c01 := ta1.cell0
        have c11 := ta1.cell1
        have b01 := tb1.cell
        clear hb1 hB ta tb c0 c1 b0
        go_wp2
        refine bodyPost_ret (v := .tuple #[.int .i64 0, .bool false]) (by simp [results, Try.results15, go_sem]) rfl ?_
        exact ⟨rfl, hB1⟩
    · have h3' : u < 0 := by omega
      rw [exbF_no (fun h => h3 h.2.2.2.1), exbT_no (fun h => h3 h.2.2.2.1)]
      go_enter Try.func15, Try.ntmps15
      go_wp2_with fail
      rw [← hW]
      clear hW
      refine (U1.out _).mono ?_; rintro e w1 ⟨rfl, hb1⟩
      rw [E1]
      have hB1 := hB.trans (hb1.mono hB.size)
      have ta1 := ta.below hb1 ta.lt
      have tb1 := tb.below hb1 tb.lt
      have c01 := ta1.cell0
      have c11 := ta1.cell1
      have b01 := tb1.cell
      clear hb1 hB ta tb c0 c1 b0
      go_wp2
      refine bodyPost_ret (v := .tuple #[.int .i64 0, .bool false]) (by simp [results, Try.results15, go_sem]) rfl ?_
      exact ⟨rfl, hB1⟩
  · have E1 := upF_no h1
    rw [exbF_no (fun h => h1 ⟨h.1, h.2.1, h.2.2.1⟩), exbT_no (fun h => h1 ⟨h.1, h.2.1, h.2.2.1⟩)]
    go_enter Try.func15, Try.ntmps15
    go_wp2_with fail
    rw [← hW]
    clear hW
    refine (U1.out _).mono ?_; rintro e w1 ⟨rfl, hb1⟩
    rw [E1]
    have hB1 := hB.trans (hb1.mono hB.size)
    have ta1 := ta.below hb1 ta.lt
    have tb1 := tb.below hb1 tb.lt
    have c01 := ta1.cell0
    have c11 := ta1.cell1
    have b01 := tb1.cell
    clear hb1 hB ta tb c0 c1 b0
    go_wp2
    refine bodyPost_ret (v := .tuple #[.int .i64 0, .bool false]) (by simp [results, Try.results15, go_sem]) rfl ?_
    exact ⟨rfl, hB1⟩
end Go.Proofs.Ytppahekbgbbidac
