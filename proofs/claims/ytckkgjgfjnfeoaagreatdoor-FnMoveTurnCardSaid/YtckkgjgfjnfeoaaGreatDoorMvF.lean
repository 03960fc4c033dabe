/- The moves of a turn, as the program finds them: lists of bytes of the call's own. -/
import Derived.Test.YtckkgjgfjnfeoaaGreatDoorMovT
import Derived.Test.YtckkgjgfjnfeoaaGreatDoorGFun
import Derived.Test.YtckkgjgfjnfeoaaGreatDoorGList
import Derived.Laws.BytesArg
set_option linter.unusedVariables false
namespace Go.Proofs.YtckkgjgfjnfeoaaGreatDoor
set_option maxRecDepth 4000

set_option maxRecDepth 4000
open Go.ChangeShapes Go.WideShapes Go.ChangeAt Go.RowKit Go.Joins

theorem infoByteM : (Tryz.prog.info? 5).map (fun i => (i.zero, i.size, i.bytes)) = some (some (.int .u8 0), 1, 1) := by kernel_rfl

def byteV (c : UInt8) : Value := .int .u8 c.toNat

def OwnB (w : World) (b : Nat) (v : Value) (xs : List UInt8) : Prop := w.ownsRow b 5 1 v xs.length (xs.map byteV)

theorem append_byte {W : World} {x : UInt8} {ops : Array Oper} {rest : List Oper} {o : Oper} {a : Act} {Q : Exit → Act → World → Prop} (hgd : o.guard = none) (S X : Operand)
    (ho : o.op = .call { callee := .builtin .append, args := #[S, X], argTypes := #[22, 22] })
    (b : Nat) (v : Value) (xs : List UInt8) (L : Nat) (HL : Hid (xs.length = L)) (hL : L ≤ 100000) (hs : a.eval S = v) (hown : OwnB W b v xs) (hb : b ≤ W.heap.size)
    (hx : a.eval X = .slice (some ⟨W.heap.size, 0, none⟩) 1 1)
    (h : ∀ v' w', OwnB w' b v' (xs ++ [x]) → v' ≠ .slice none 0 0 → Below b W w' → wpList Tryz.prog ops Q rest (a.put o.dst v') w') :
    wpList Tryz.prog ops Q (o :: rest) a (W.alloc (.cells #[byteV x] 5)) := by
  obtain ⟨i0, hi, iz0, iz1, iz2⟩ := info_parts infoByteM
  have hown1 : (W.alloc (.cells #[byteV x] 5)).ownsRow b 5 1 v L (xs.map byteV) := by
    have h := World.ownsRow.alloc hown (.cells #[byteV x] 5)
    rwa [HL.out] at h
  refine wpList_append_own _ hgd S X 22 ho b 5 i0 (.int .u8 0) 1 1 Tryz.underlying22 hi iz0 iz1 iz2 rfl (by decide) v L _ hs hown1 ⟨W.heap.size, 0, none⟩ 1 1 [byteV x] hx rfl ?c1 ?c2 ?c3 ?c4 ?c5 ?_
  case c1 =>
    intro j u hj
    match j, hj with
    | 0, hj => simp at hj; subst hj; exact cell_of_one (heap_alloc_new W _)
    | j + 1, hj => simp at hj
  case c2 => simp [Value.oneCell', byteV]
  case c3 => unfold maxLen; omega
  case c4 => omega
  case c5 => simp; omega
  intro v' w' h1 h2 h3
  have hlb := World.ownsRow.lt hown1
  have ho' : OwnB w' b v' (xs ++ [x]) := by
    unfold OwnB
    rw [List.length_append, List.map_append, HL.out]
    exact h1
  refine h v' w' ho' ?_ ?_
  · intro e
    have := (h3.1 e).2
    omega
  · exact ((Below.refl b W).alloc hb _).grown h2 (by simp; omega) (fun q hq => by have := hlb q hq; omega)

theorem str_bytes (xs : List UInt8) : strOfNums (xs.map fun c => (c.toNat : Int)) = txtL xs := by
  unfold strOfNums txtL
  congr 2
  rw [List.map_map]
  conv => rhs; rw [← List.map_id xs]
  refine List.map_congr_left fun b _ => ?_
  simp

/-- the text of a list of bytes of the call's own -/
theorem conv_own (w : World) (b : Nat) (v : Value) (xs : List UInt8) (h : OwnB w b v xs) :
    (convert 22 9 v).run Tryz.prog w = .ok (.string (txtL xs)) w := by
  obtain ⟨hl, h⟩ := h
  rcases h with ⟨rfl, e⟩ | ⟨g, cap, cur, rfl, hb, hg, hn, hm, hs, ht⟩
  · have : xs = [] := List.length_eq_zero_iff.1 e
    subst this
    exact run_convert_bytes_nil w 22 5 Tryz.underlying22 Tryz.underlying5 0 0 _ Tryz.underlying9
  · rw [run_convert_bytes_arg w 22 5 Tryz.underlying22 Tryz.underlying5 g 0 xs.length cap (xs.map fun c => (c.toNat : Int)) (by simp) (fun i hi => by
      rw [Nat.zero_add]
      have e : (cur.toList.take (xs.length * 1))[i]? = (xs.map byteV)[i]? := by rw [ht]
      rw [Nat.mul_one, List.getElem?_take_of_lt hi, List.getElem?_map, List.getElem?_eq_getElem hi] at e
      have e2 : cur[i]? = cur.toList[i]? := by simp
      have e3 : w.cell? ⟨g, i, none⟩ = cur[i]? := by simp [World.cell?, hg]
      rw [e3, e2, e]
      simp [List.getD_eq_getElem?_getD, List.getElem?_map, List.getElem?_eq_getElem hi, byteV]) _ Tryz.underlying9, str_bytes]

set_option maxHeartbeats 4000000 in
theorem movesFor_any (n s : Int) (w : World) :
    Calls Tryz.prog 10 #[(.agg #[.int .i64 (n), .int .i64 (s)])] w fun e w' => e = .returned (.tuple #[.string (mfF n s), .bool (tok n s)]) ∧ Below w.heap.size w w' := by
  by_cases ht : tok n s = true
  · obtain ⟨N, S, rfl, rfl, hN⟩ := tokN_of ht
    have hb := tok_bd ht
    
    have hml := moves_le hN
    rw [mfF_yes hN, ht]
    obtain ⟨V, hV⟩ : ∃ V, movesN N S = V := ⟨_, rfl⟩
    have hV0 : Hid ([] ++ mvF N S (N - S) = V) := hV
    rw [hV] at hml ⊢
    have hSN : S < N := by omega
    have hS1 : 1 ≤ S := by omega
    have wd : IntKind.i64.wrap ((N : Int) - (S : Int)) = ((N - S : Nat) : Int) := by rw [show ((N : Int) - (S : Int)) = ((N - S : Nat) : Int) by omega]; exact IntWalk.i64_in _ (by omega)
    go_enter Tryz.func10, Tryz.ntmps10
    go_wp2_with fail
    refine (turnOk_any _ _ _).mono ?_; rintro e w1 ⟨rfl, hb1⟩
    have hz1 := hb1.size
    try simp at hz1
    have t1 : Two w1 (w.heap.size) (.int .i64 N) (.int .i64 S) 25 := Two.below (by repeat (first | assumption | exact Two.new' _ _ _ _ _ (by simp) | refine Two.alloc ?_ _ | refine Two.drewN ?_ _)) hb1 (by first | omega | (simp <;> omega))
    have hlt1 : (w.heap.size) < w1.heap.size := t1.lt
    have hnt1 : ¬ (w.heap.size) = w1.heap.size := Nat.ne_of_lt hlt1
    have t1c := t1.cell0
    have t1d := t1.cell1
    rw [ht]
    have hB1 : Below w.heap.size w w1 := (by repeat (first | exact Below.refl _ _ | assumption | (refine Below.trans ?_ (Below.mono (by assumption) (by first | omega | (simp <;> omega)))) | (refine Below.alloc ?_ (by first | omega | (simp <;> omega)) _) | (refine below_drewN ?_ _) | (refine Below.drew ?_) | (refine Below.setCell ?_ (by first | omega | (simp <;> omega)) _)))
    clear hV ht hN hb1
    go_wp2_with fail
    go_region
    go_wp2_with fail
    go_loopw [4, 5, 6] (fun xh xl y wr => ∃ (u : List Bool) (v0 : Value) (f a b : Nat), v0 = y ∧ xl = .int .i64 a ∧ xh = .int .i64 b ∧ 1 ≤ a ∧ 1 ≤ b ∧ a + b ≤ f + 1 ∧ a + b ≤ 60 ∧ u.length ≤ 58 ∧ Hid (u ++ mvF f a b = V) ∧ OwnB wr w.heap.size v0 (u.map byteM) ∧ Below w.heap.size w wr) (fun xh xl _ _ => (intOf xl + intOf xh).toNat)
    case atStart => exact ⟨[], _, N, S, N - S, rfl, rfl, by first | rfl | (congr 1; omega), by omega, by omega, by omega, by omega, by simp, hV0.out, World.ownsRow_nil _ _ _ _, below_drewN hB1 1⟩
    case round =>
      obtain ⟨u, v0, f, a, b, rfl, rfl, rfl, ha, hb, hf, h60, hu, HE, ho, hBr⟩ := hrel
      clear hV0 wd t1 t1c t1d hB1
      have HL : Hid ((u.map byteM).length = u.length) := List.length_map _
      have hz := hBr.size
      obtain ⟨f, rfl⟩ : ∃ g, f = g + 1 := ⟨f - 1, by omega⟩
      rcases Nat.lt_trichotomy a b with c | c | c
      · have HE' : Hid ((u ++ [false]) ++ mvF f a (b - a) = V) := by show _ = _; rw [← HE.out, mvF_down c, List.append_assoc]; rfl
        have hul : u.length + 1 ≤ 58 := by
          have := congrArg List.length HE'.out
          rw [List.length_append, List.length_append, List.length_singleton] at this
          omega
        have c1 : (a : Int) < (b : Int) := by omega
        have c2 : ((b : Int) != (a : Int)) = true := by simp; omega
        have wd : IntKind.i64.wrap ((b : Int) - (a : Int)) = ((b - a : Nat) : Int) := by rw [show ((b : Int) - (a : Int)) = ((b - a : Nat) : Int) by omega]; exact IntWalk.i64_in _ (by omega)
        clear HE
        go_wp2_with (at_builtin; refine append_byte (x := byteM false) rfl _ _ rfl w.heap.size v0 (u.map byteM) u.length HL (by omega) rfl ho hz rfl ?_)
        intro v5 w5 ho5 hn5 hb5
        have ho6 : OwnB w5 w.heap.size v5 ((u ++ [false]).map byteM) := by rw [List.map_append]; exact ho5
        have hB5 := hBr.trans hb5
        clear ho ho5 hb5
        go_wp2_with fail
        go_roundw
        case rel => exact ⟨u ++ [false], _, f, a, b - a, rfl, rfl, rfl, ha, by omega, by omega, by omega, by rw [List.length_append, List.length_singleton]; omega, HE'.out, ho6, hB5⟩
        case measure => simp only [intOf]; omega
      · subst c
        have HE' : Hid (u = V) := by show _ = _; rw [← HE.out, mvF_stop rfl, List.append_nil]
        clear HE
        have c2 : ((a : Int) != (a : Int)) = false := by simp
        have hcv := conv_own wr _ _ _ ho
        rw [show txtL (u.map byteM) = txtM u from rfl] at hcv
        clear ho
        go_wp2
        refine bodyPost_ret (v := .tuple #[.string (txtM u), .bool true]) (by simp [results, Tryz.results10, go_sem]) rfl ?_
        exact ⟨by rw [HE'.out], hBr⟩
      · have HE' : Hid ((u ++ [true]) ++ mvF f (a - b) b = V) := by show _ = _; rw [← HE.out, mvF_up c, List.append_assoc]; rfl
        have hul : u.length + 1 ≤ 58 := by
          have := congrArg List.length HE'.out
          rw [List.length_append, List.length_append, List.length_singleton] at this
          omega
        have c1 : ¬ (a : Int) < (b : Int) := by omega
        have c2 : ((b : Int) != (a : Int)) = true := by simp; omega
        have wd : IntKind.i64.wrap ((a : Int) - (b : Int)) = ((a - b : Nat) : Int) := by rw [show ((a : Int) - (b : Int)) = ((a - b : Nat) : Int) by omega]; exact IntWalk.i64_in _ (by omega)
        clear HE
        go_wp2_with (at_builtin; refine append_byte (x := byteM true) rfl _ _ rfl w.heap.size v0 (u.map byteM) u.length HL (by omega) rfl ho hz rfl ?_)
        intro v5 w5 ho5 hn5 hb5
        have ho6 : OwnB w5 w.heap.size v5 ((u ++ [true]).map byteM) := by rw [List.map_append]; exact ho5
        have hB5 := hBr.trans hb5
        clear ho ho5 hb5
        go_wp2_with fail
        go_roundw
        case rel => exact ⟨u ++ [true], _, f, a - b, b, rfl, rfl, rfl, by omega, hb, by omega, by omega, by rw [List.length_append, List.length_singleton]; omega, HE'.out, ho6, hB5⟩
        case measure => simp only [intOf]; omega
  · have hf : tok n s = false := by simpa using ht
    rw [mfF_no ht, hf]
    
    go_enter Tryz.func10, Tryz.ntmps10
    go_wp2_with fail
    refine (turnOk_any _ _ _).mono ?_; rintro e w1 ⟨rfl, hb1⟩
    have hz1 := hb1.size
    try simp at hz1
    have t1 : Two w1 (w.heap.size) (.int .i64 n) (.int .i64 s) 25 := Two.below (by repeat (first | assumption | exact Two.new' _ _ _ _ _ (by simp) | refine Two.alloc ?_ _ | refine Two.drewN ?_ _)) hb1 (by first | omega | (simp <;> omega))
    have hlt1 : (w.heap.size) < w1.heap.size := t1.lt
    have hnt1 : ¬ (w.heap.size) = w1.heap.size := Nat.ne_of_lt hlt1
    have t1c := t1.cell0
    have t1d := t1.cell1
    rw [hf]
    go_wp2
    refine bodyPost_ret (v := .tuple #[.string ⟨#[]⟩, .bool false]) (by simp [results, Tryz.results10, go_sem]) rfl ?_
    exact ⟨rfl, (by repeat (first | exact Below.refl _ _ | assumption | (refine Below.trans ?_ (Below.mono (by assumption) (by first | omega | (simp <;> omega)))) | (refine Below.alloc ?_ (by first | omega | (simp <;> omega)) _) | (refine below_drewN ?_ _) | (refine Below.drew ?_) | (refine Below.setCell ?_ (by first | omega | (simp <;> omega)) _)))⟩
end Go.Proofs.YtckkgjgfjnfeoaaGreatDoor
