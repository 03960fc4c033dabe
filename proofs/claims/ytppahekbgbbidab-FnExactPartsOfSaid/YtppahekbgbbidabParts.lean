/- Contracts of PartsOf, of the program and of the model. -/
import Derived.Test.YtppahekbgbbidabGTxt
import Derived.Test.YtppahekbgbbidabGCodeI
set_option linter.unusedVariables false
namespace Go.Proofs.Ytppahekbgbbidab

set_option maxRecDepth 4000
open Go.ChangeShapes Go.WideShapes Go.ChangeAt Go.RowKit Go.Joins

def partsF (n s m : Int) : Int := if tok n s = true ∧ 0 ≤ m ∧ m ≤ n then min (m + 1) n else -1

theorem partsF_yes {n s m : Int} (h : tok n s = true) (h0 : 0 ≤ m) (h1 : m ≤ n) : partsF n s m = min (m + 1) n := if_pos ⟨h, h0, h1⟩

theorem partsF_no {n s m : Int} (h : ¬ (tok n s = true ∧ 0 ≤ m ∧ m ≤ n)) : partsF n s m = -1 := if_neg h

theorem txtB_inj {u v : List Bool} (h : txtB u = txtB v) : u = v := by
  have := congrArg bitsOf h
  rwa [bits_txt, bits_txt] at this

theorem parts_txt {n s m : Nat} (ht : tokN n s = true) (hm : m ≤ n) {L : List ByteArray} (hn : L.Nodup) (hL : ∀ u, u ∈ L ↔ ∃ k, k < n ∧ txtB (wordL n s k m) = u) : L.length = min (m + 1) n := by
  have h := parts_len ht hm (L := L.map bitsOf) ?_ fun u => ?_
  · rwa [List.length_map] at h
  · rw [List.nodup_iff_pairwise_ne, List.pairwise_map]
    refine List.Pairwise.imp_of_mem ?_ (List.nodup_iff_pairwise_ne.1 hn)
    intro a b ha hb hne e
    obtain ⟨i, _, rfl⟩ := (hL a).1 ha
    obtain ⟨j, _, rfl⟩ := (hL b).1 hb
    rw [bits_txt, bits_txt] at e
    exact hne (by rw [e])
  · constructor
    · intro h
      obtain ⟨a, ha, rfl⟩ := List.mem_map.1 h
      obtain ⟨i, hi, rfl⟩ := (hL a).1 ha
      exact ⟨i, hi, by rw [bits_txt]⟩
    · rintro ⟨k, hk, rfl⟩
      exact List.mem_map.2 ⟨_, (hL _).2 ⟨k, hk, rfl⟩, bits_txt _⟩

/-- the different words at the first k times -/
def PartsUpTo (n s m k : Nat) (L : List ByteArray) : Prop := L.Nodup ∧ L.length ≤ k ∧ ∀ u, u ∈ L ↔ ∃ j, j < k ∧ txtB (wordL n s j m) = u

theorem PartsUpTo.nil (n s m : Nat) : PartsUpTo n s m 0 [] := ⟨List.nodup_nil, by simp, fun u => by simp⟩

theorem PartsUpTo.old {n s m k : Nat} {L : List ByteArray} (h : PartsUpTo n s m k L) (hm : txtB (wordL n s k m) ∈ L) : PartsUpTo n s m (k + 1) L := by
  obtain ⟨h1, h2, h3⟩ := h
  refine ⟨h1, by omega, fun u => (h3 u).trans ⟨?_, ?_⟩⟩
  · rintro ⟨j, hj, e⟩; exact ⟨j, by omega, e⟩
  · rintro ⟨j, hj, e⟩
    by_cases c : j = k
    · subst c; rw [← e]; exact (h3 _).1 hm
    · exact ⟨j, by omega, e⟩

theorem PartsUpTo.more {n s m k : Nat} {L M : List ByteArray} (h : PartsUpTo n s m k L) (hm : txtB (wordL n s k m) ∉ L) (hp : M.Perm (L ++ [txtB (wordL n s k m)])) : PartsUpTo n s m (k + 1) M := by
  obtain ⟨h1, h2, h3⟩ := h
  refine ⟨?_, by rw [hp.length_eq]; simp; omega, fun u => hp.mem_iff.trans ?_⟩
  · rw [hp.nodup_iff, List.nodup_append]
    refine ⟨h1, by simp, fun a ha b hb e => ?_⟩
    rw [List.mem_singleton] at hb
    subst hb e
    exact hm ha
  · rw [List.mem_append, h3, List.mem_singleton]
    constructor
    · rintro (⟨j, hj, e⟩ | e)
      · exact ⟨j, by omega, e⟩
      · exact ⟨k, by omega, e.symm⟩
    · rintro ⟨j, hj, e⟩
      by_cases c : j = k
      · subst c; exact .inr e.symm
      · exact .inl ⟨j, by omega, e⟩

theorem PartsUpTo.all {n s m : Nat} (ht : tokN n s = true) (hm : m ≤ n) {L : List ByteArray} (h : PartsUpTo n s m n L) : L.length = min (m + 1) n := parts_txt ht hm h.1 h.2.2

set_option maxHeartbeats 2000000 in
theorem partsOf_any (n s m : Int) (w : World) :
    Calls Try.prog 51 #[(.agg #[.int .i64 (n), .int .i64 (s)]), .int .i64 m] w fun e w' => e = .returned (.int .i64 (partsF n s m)) ∧ Below w.heap.size w w' := by
  
  by_cases ht : tok n s = true
  · have hb := tok_bd ht
    by_cases h0 : m < 0
    · have e := partsF_no (n := n) (s := s) (m := m) (by omega)
      have EU := upF_no (n := n) (s := s) (k := m) (by omega)
      rw [e]
      go_enter Try.func51, Try.ntmps51
      go_wp2_with fail
      refine (upToSize_any _ _ _ _).mono ?_; rintro e w1 ⟨rfl, hb1⟩
      have hz1 := hb1.size
      try simp at hz1
      have t1 : Two w1 (w.heap.size) (.int .i64 n) (.int .i64 s) 24 := Two.below (by repeat (first | assumption | exact Two.new' _ _ _ _ _ (by simp) | refine Two.alloc ?_ _ | refine Two.drewN ?_ _)) hb1 (by first | omega | (simp <;> omega))
      have hlt1 : (w.heap.size) < w1.heap.size := t1.lt
      have hnt1 : ¬ (w.heap.size) = w1.heap.size := Nat.ne_of_lt hlt1
      have t1c := t1.cell0
      have t1d := t1.cell1
      rw [EU]
      go_wp2
      go_ret
      exact ⟨rfl, (by repeat (first | exact Below.refl _ _ | assumption | (refine Below.trans ?_ (Below.mono (by assumption) (by first | omega | (simp <;> omega)))) | (refine Below.alloc ?_ (by first | omega | (simp <;> omega)) _) | (refine below_drewN ?_ _) | (refine Below.drew ?_) | (refine Below.setCell ?_ (by first | omega | (simp <;> omega)) _)))⟩
    by_cases h1 : n < m
    · have e := partsF_no (n := n) (s := s) (m := m) (by omega)
      have EU := upF_no (n := n) (s := s) (k := m) (by omega)
      rw [e]
      go_enter Try.func51, Try.ntmps51
      go_wp2_with fail
      refine (upToSize_any _ _ _ _).mono ?_; rintro e w1 ⟨rfl, hb1⟩
      have hz1 := hb1.size
      try simp at hz1
      have t1 : Two w1 (w.heap.size) (.int .i64 n) (.int .i64 s) 24 := Two.below (by repeat (first | assumption | exact Two.new' _ _ _ _ _ (by simp) | refine Two.alloc ?_ _ | refine Two.drewN ?_ _)) hb1 (by first | omega | (simp <;> omega))
      have hlt1 : (w.heap.size) < w1.heap.size := t1.lt
      have hnt1 : ¬ (w.heap.size) = w1.heap.size := Nat.ne_of_lt hlt1
      have t1c := t1.cell0
      have t1d := t1.cell1
      rw [EU]
      go_wp2
      go_ret
      exact ⟨rfl, (by repeat (first | exact Below.refl _ _ | assumption | (refine Below.trans ?_ (Below.mono (by assumption) (by first | omega | (simp <;> omega)))) | (refine Below.alloc ?_ (by first | omega | (simp <;> omega)) _) | (refine below_drewN ?_ _) | (refine Below.drew ?_) | (refine Below.setCell ?_ (by first | omega | (simp <;> omega)) _)))⟩
    · obtain ⟨m, rfl⟩ := Int.eq_ofNat_of_zero_le (by omega : 0 ≤ m)
      obtain ⟨N, hNa, hNb⟩ : ∃ N : Nat, (N : Int) ≤ n ∧ n ≤ (N : Int) := ⟨n.toNat, by omega, by omega⟩
      have hn2 := Lib.hid (tokN_nat ht)
      have e2 := Lib.hid (partsF_yes ht (by omega) (by omega : (m : Int) ≤ n))
      have E := Lib.hid (show ∀ k : Nat, k < N → codeF n s k m = wordL n.toNat s.toNat k m from fun k hk => by rw [codeF_yes ht (by omega) (by omega) (by omega) (by omega), Int.toNat_natCast, Int.toNat_natCast])
      have EU := upF_yes ht (by omega : (0 : Int) ≤ m) (by omega)
      go_enter Try.func51, Try.ntmps51
      go_wp2_with fail
      refine (upToSize_any _ _ _ _).mono ?_; rintro e w1 ⟨rfl, hb1⟩
      have hz1 := hb1.size
      try simp at hz1
      have t1 : Two w1 (w.heap.size) (.int .i64 n) (.int .i64 s) 24 := Two.below (by repeat (first | assumption | exact Two.new' _ _ _ _ _ (by simp) | refine Two.alloc ?_ _ | refine Two.drewN ?_ _)) hb1 (by first | omega | (simp <;> omega))
      have hlt1 : (w.heap.size) < w1.heap.size := t1.lt
      have hnt1 : ¬ (w.heap.size) = w1.heap.size := Nat.ne_of_lt hlt1
      have t1c := t1.cell0
      have t1d := t1.cell1
      rw [EU]
      go_wp2_with fail
      go_loopw [5, 13] (fun y x wr => ∃ (k : Nat) (L : List ByteArray) (v0 : Value), x = .int .i64 k ∧ v0 = y ∧ k ≤ N ∧ OwnS wr w1.heap.size v0 L ∧ PartsUpTo n.toNat s.toNat m k L ∧ Two wr w.heap.size (.int .i64 n) (.int .i64 s) 24 ∧ Below w1.heap.size w1 wr) (fun _ x _ => N - (intOf x).toNat)
      case atStart => exact ⟨0, [], _, rfl, rfl, by omega, World.ownsRow_nil _ _ _ _, PartsUpTo.nil _ _ _, t1, Below.refl _ _⟩
      case round =>
        obtain ⟨k, L, v0, rfl, rfl, hk, ho, hp, t, hB⟩ := hrel
        have hL := hp.2.1
        have c0 := t.cell0
        have c1 := t.cell1
        have lt := t.lt
        clear t1
        by_cases hkn : k < N
        · have hkn' : (k : Int) < n := by omega
          go_wp2_with fail
          refine (codeOf_any _ _ _ _ _).mono ?_; rintro e w2 ⟨rfl, hb2⟩
          rw [E.out k hkn]
          have ho2 := ho.below hb2
          have t2 := t.below hb2 lt
          have hB2 := hB.trans (hb2.mono hB.size)
          clear ho t hB hb2 c0 c1
          go_wp2_with fail
          refine (insertOnceS_any v0 _ L w1.heap.size _ ho2 hB2.size (by omega)).mono ?_; rintro e w3 ⟨v3, M, rfl, ho3, hb3, hor⟩
          have t3 := t2.below hb3 hlt1
          have hB3 := hB2.trans hb3
          have hp3 : Hid (PartsUpTo n.toNat s.toNat m (k + 1) M) := by
            rcases hor with ⟨h, rfl⟩ | ⟨h, h2⟩
            · exact hp.old h
            · exact hp.more h h2
          clear hor hp t2 hB2 hb3 ho2
          go_wp2_with fail
          go_roundw
          case rel => exact ⟨k + 1, M, v3, by go_num, rfl, by omega, ho3, hp3.out, t3, hB3⟩
          case measure => simp only [intOf]; omega
        · have hkN : k = N := by omega
          subst hkN
          have hkn' : decide ((k : Int) < n) = false := by simp; omega
          have hkt : k = n.toNat := by omega
          rw [hkt] at hp
          have hlen := hp.all hn2.out (by omega)
          have R : Hid ((L.length : Int) = partsF n s m) := by
            show _ = _
            rw [e2.out]
            omega
          have hB' : Below w.heap.size w wr := (by repeat (first | exact Below.refl _ _ | assumption | (refine Below.trans ?_ (Below.mono (by assumption) (by first | omega | (simp <;> omega)))) | (refine Below.alloc ?_ (by first | omega | (simp <;> omega)) _) | (refine below_drewN ?_ _) | (refine Below.drew ?_) | (refine Below.setCell ?_ (by first | omega | (simp <;> omega)) _)))
          obtain ⟨a, cap, rfl, _⟩ := ho.cells (N := L.length) rfl
          clear hlen hkt hp ho
          go_wp2
          go_ret
          exact ⟨ret_int R.out, hB'⟩
  · have e := partsF_no (n := n) (s := s) (m := m) (by simp [ht])
    have ht' : tok n s = false := by simpa using ht
    have EU := upF_no (n := n) (s := s) (k := m) (by simp [ht])
    rw [e]
    go_enter Try.func51, Try.ntmps51
    go_wp2_with fail
    refine (upToSize_any _ _ _ _).mono ?_; rintro e w1 ⟨rfl, hb1⟩
    have hz1 := hb1.size
    try simp at hz1
    have t1 : Two w1 (w.heap.size) (.int .i64 n) (.int .i64 s) 24 := Two.below (by repeat (first | assumption | exact Two.new' _ _ _ _ _ (by simp) | refine Two.alloc ?_ _ | refine Two.drewN ?_ _)) hb1 (by first | omega | (simp <;> omega))
    have hlt1 : (w.heap.size) < w1.heap.size := t1.lt
    have hnt1 : ¬ (w.heap.size) = w1.heap.size := Nat.ne_of_lt hlt1
    have t1c := t1.cell0
    have t1d := t1.cell1
    rw [EU]
    go_wp2
    go_ret
    exact ⟨rfl, (by repeat (first | exact Below.refl _ _ | assumption | (refine Below.trans ?_ (Below.mono (by assumption) (by first | omega | (simp <;> omega)))) | (refine Below.alloc ?_ (by first | omega | (simp <;> omega)) _) | (refine below_drewN ?_ _) | (refine Below.drew ?_) | (refine Below.setCell ?_ (by first | omega | (simp <;> omega)) _)))⟩

set_option maxHeartbeats 4000000 in
theorem specPartsOf_any (n s m : Int) (w : World) :
    Calls Try.prog 50 #[(.agg #[.int .i64 (n), .int .i64 (s)]), .int .i64 m] w fun e w' => e = .returned (.int .i64 (partsF n s m)) ∧ Below w.heap.size w w' := by
  
  by_cases ht : tok n s = true
  · have hb := tok_bd ht
    by_cases hm : 0 ≤ m ∧ m ≤ n
    · obtain ⟨h0, h1⟩ := hm
      obtain ⟨m, rfl⟩ := Int.eq_ofNat_of_zero_le h0
      obtain ⟨N, hNa, hNb⟩ : ∃ N : Nat, (N : Int) ≤ n ∧ n ≤ (N : Int) := ⟨n.toNat, by omega, by omega⟩
      have hn2 := Lib.hid (tokN_nat ht)
      have e2 := Lib.hid (partsF_yes ht (by omega) (by omega : (m : Int) ≤ n))
      have E := Lib.hid (show ∀ k : Nat, k < N → codeF n s k m = wordL n.toNat s.toNat k m from fun k hk => by rw [codeF_yes ht (by omega) (by omega) (by omega) (by omega), Int.toNat_natCast, Int.toNat_natCast])
      go_enter Try.func50, Try.ntmps50
      go_wp2_with fail
      refine (specTurnOk_any _ _ _).mono ?_; rintro e w1 ⟨rfl, hb1⟩
      have hz1 := hb1.size
      try simp at hz1
      have t1 : Two w1 (w.heap.size) (.int .i64 n) (.int .i64 s) 24 := Two.below (by repeat (first | assumption | exact Two.new' _ _ _ _ _ (by simp) | refine Two.alloc ?_ _ | refine Two.drewN ?_ _)) hb1 (by first | omega | (simp <;> omega))
      have hlt1 : (w.heap.size) < w1.heap.size := t1.lt
      have hnt1 : ¬ (w.heap.size) = w1.heap.size := Nat.ne_of_lt hlt1
      have t1c := t1.cell0
      have t1d := t1.cell1
      rw [ht]
      go_wp2_with fail
      refine (l1In_any _ _ _ _).mono ?_; rintro e w2 ⟨rfl, rfl⟩
      rw [decide_eq_true h0, decide_eq_true h1]
      go_wp2_with fail
      have hz1 := hb1.size
      have tm := t1.alloc (.cells #[] 9)
      have hBm : Below w.heap.size w (w1.alloc (.cells #[] 9)) := (by repeat (first | exact Below.refl _ _ | assumption | (refine Below.trans ?_ (Below.mono (by assumption) (by first | omega | (simp <;> omega)))) | (refine Below.alloc ?_ (by first | omega | (simp <;> omega)) _) | (refine below_drewN ?_ _) | (refine Below.drew ?_) | (refine Below.setCell ?_ (by first | omega | (simp <;> omega)) _)))
      have hom : OwnS (w1.alloc (.cells #[] 9)) w1.heap.size (.slice (some ⟨w1.heap.size, 0, none⟩) 0 0) [] := World.ownsRow_made (base := w1.heap.size) (e := 9) (size := 1) w1 #[] 0 (by simp) (by unfold maxLen; omega) rfl
      go_loopw [5, 6] (fun y x wr => ∃ (k : Nat) (L : List ByteArray) (v0 : Value), x = .int .i64 k ∧ v0 = y ∧ k ≤ N ∧ OwnS wr w1.heap.size v0 L ∧ PartsUpTo n.toNat s.toNat m k L ∧ Two wr w.heap.size (.int .i64 n) (.int .i64 s) 24 ∧ Below w.heap.size w wr ∧ w1.heap.size ≤ wr.heap.size) (fun _ x _ => N - (intOf x).toNat)
      case atStart => exact ⟨0, [], _, rfl, rfl, by omega, hom, PartsUpTo.nil _ _ _, tm, hBm, by simp⟩
      case round =>
        obtain ⟨k, L, v0, rfl, rfl, hk, ho, hp, t, hB, hge⟩ := hrel
        have hL := hp.2.1
        have c0 := t.cell0
        have c1 := t.cell1
        have lt := t.lt
        clear t1 tm hBm hom hb1
        by_cases hkn : k < N
        · have hkn' : (k : Int) < n := by omega
          go_wp2_with fail
          refine (specCodeOf_any _ _ _ _ _).mono ?_; rintro e w4 ⟨rfl, hb4⟩
          rw [E.out k hkn]
          have ho4 := ho.below hb4
          have t4 := t.below hb4 lt
          have hB4 := hB.trans (hb4.mono hB.size)
          have hge4 : w1.heap.size ≤ w4.heap.size := Nat.le_trans hge hb4.size
          clear ho t hB hb4 c0 c1 hge lt
          obtain ⟨M, hM⟩ : ∃ M, L.length = M := ⟨_, rfl⟩
          obtain ⟨a, cap, hv0, HC⟩ := ho4.cells hM
          have HM := Lib.hid hM
          have Hold := Lib.hid (fun h => hp.old h)
          have Hmore := Lib.hid (fun Ls h h2 => hp.more (M := Ls) h h2)
          rw [hM] at hL
          clear hM hp
          generalize txtB (wordL n.toNat s.toNat k m) = W at *
          rw [hv0] at ho4
          subst hv0
          go_wp2_with fail
          go_loop [8, 9] (fun y x => ∃ (j : Nat) (c : Bool), x = .int .i64 j ∧ y = .bool c ∧ j ≤ M ∧ Hid (c = true ↔ W ∈ L.take j)) (fun _ x => M - (intOf x).toNat)
          case atStart => exact ⟨0, false, rfl, rfl, by omega, by show _ ↔ _; simp⟩
          case round =>
            obtain ⟨j, c, rfl, rfl, hj, hc⟩ := hrel
            by_cases hjm : j < M
            · have hjm' : (j : Int) < M := by omega
              have hs := take_one' L (k := j) (by rw [HM.out]; exact hjm) ⟨#[]⟩
              obtain ⟨g, rfl, c1⟩ := HC.out j hjm
              generalize L.getD j ⟨#[]⟩ = X at c1 hs
              have HS := Lib.hid hs
              clear hs
              cases c with
              | true =>
                go_wp2_with fail
                go_round
                case rel => exact ⟨j + 1, true, by go_num, rfl, by omega, by show _ ↔ _; rw [HS.out]; simp; exact .inl (hc.out.1 rfl)⟩
                case measure => simp only [intOf]; omega
              | false =>
                have hbq := bytes_beq X W
                by_cases he : X = W
                · rw [decide_eq_true he] at hbq
                  go_wp2_with fail
                  go_round
                  case rel => exact ⟨j + 1, true, by go_num, rfl, by omega, by show _ ↔ _; rw [HS.out, he]; simp⟩
                  case measure => simp only [intOf]; omega
                · rw [decide_eq_false he] at hbq
                  go_wp2_with fail
                  go_round
                  case rel => exact ⟨j + 1, false, by go_num, rfl, by omega, by show _ ↔ _; rw [HS.out, List.mem_append, List.mem_singleton, ← hc.out]; exact ⟨fun h => .inl h, fun h => Or.elim h id (fun h => absurd h.symm he)⟩⟩
                  case measure => simp only [intOf]; omega
            · have hjM : j = M := by omega
              have hjm' : decide ((j : Int) < M) = false := by simp; omega
              have hin : c = true ↔ W ∈ L := by
                have h := hc.out
                rwa [List.take_of_length_le (by rw [HM.out]; omega)] at h
              cases c with
              | true =>
                have HO := Lib.hid (Hold.out (hin.1 rfl))
                clear hin
                go_wp2_with fail
                go_roundw
                case rel => exact ⟨k + 1, L, _, by go_num, rfl, by omega, ho4, HO.out, t4, hB4, hge4⟩
                case measure => simp only [intOf]; omega
              | false =>
                have HO := Lib.hid (Hmore.out (L ++ [W]) (fun h => by have := hin.2 h; cases this) (List.Perm.refl _))
                clear hin
                go_wp2_with (at_builtin; refine append_str rfl _ _ rfl w1.heap.size _ L M HM (by omega) rfl ho4 hge4 rfl ?_)
                intro v5 w5 ho5 hnn5 hb5
                have t5 := t4.below hb5 hlt1
                have hB5 := hB4.trans (hb5.mono (by omega))
                have hge5 := Nat.le_trans hge4 hb5.size
                clear hnn5 hb5 ho4 t4 hB4 hge4
                go_wp2_with fail
                go_roundw
                case rel => exact ⟨k + 1, L ++ [W], v5, by go_num, rfl, by omega, ho5, HO.out, t5, hB5, hge5⟩
                case measure => simp only [intOf]; omega
        · have hkN : k = N := by omega
          subst hkN
          have hkn' : decide ((k : Int) < n) = false := by simp; omega
          have hkt : k = n.toNat := by omega
          rw [hkt] at hp
          have hlen := hp.all hn2.out (by omega)
          have R : Hid ((L.length : Int) = partsF n s m) := by
            show _ = _
            rw [e2.out]
            omega
          obtain ⟨a, cap, rfl, _⟩ := ho.cells (N := L.length) rfl
          clear hlen hkt hp ho
          go_wp2
          go_ret
          exact ⟨ret_int R.out, hB⟩
    · have e := partsF_no (n := n) (s := s) (m := m) (by omega)
      have e2 : (decide (0 ≤ m) && decide (m ≤ n)) = false := by
        rw [← Bool.decide_and]
        exact decide_eq_false hm
      rw [e]
      go_enter Try.func50, Try.ntmps50
      go_wp2_with fail
      refine (specTurnOk_any _ _ _).mono ?_; rintro e w1 ⟨rfl, hb1⟩
      have hz1 := hb1.size
      try simp at hz1
      have t1 : Two w1 (w.heap.size) (.int .i64 n) (.int .i64 s) 24 := Two.below (by repeat (first | assumption | exact Two.new' _ _ _ _ _ (by simp) | refine Two.alloc ?_ _ | refine Two.drewN ?_ _)) hb1 (by first | omega | (simp <;> omega))
      have hlt1 : (w.heap.size) < w1.heap.size := t1.lt
      have hnt1 : ¬ (w.heap.size) = w1.heap.size := Nat.ne_of_lt hlt1
      have t1c := t1.cell0
      have t1d := t1.cell1
      rw [ht]
      go_wp2_with fail
      refine (l1In_any _ _ _ _).mono ?_; rintro e w2 ⟨rfl, rfl⟩
      rw [e2]
      go_wp2
      go_ret
      exact ⟨rfl, (by repeat (first | exact Below.refl _ _ | assumption | (refine Below.trans ?_ (Below.mono (by assumption) (by first | omega | (simp <;> omega)))) | (refine Below.alloc ?_ (by first | omega | (simp <;> omega)) _) | (refine below_drewN ?_ _) | (refine Below.drew ?_) | (refine Below.setCell ?_ (by first | omega | (simp <;> omega)) _)))⟩
  · have e := partsF_no (n := n) (s := s) (m := m) (by simp [ht])
    have ht' : tok n s = false := by simpa using ht
    rw [e]
    go_enter Try.func50, Try.ntmps50
    go_wp2_with fail
    refine (specTurnOk_any _ _ _).mono ?_; rintro e w1 ⟨rfl, hb1⟩
    have hz1 := hb1.size
    try simp at hz1
    have t1 : Two w1 (w.heap.size) (.int .i64 n) (.int .i64 s) 24 := Two.below (by repeat (first | assumption | exact Two.new' _ _ _ _ _ (by simp) | refine Two.alloc ?_ _ | refine Two.drewN ?_ _)) hb1 (by first | omega | (simp <;> omega))
    have hlt1 : (w.heap.size) < w1.heap.size := t1.lt
    have hnt1 : ¬ (w.heap.size) = w1.heap.size := Nat.ne_of_lt hlt1
    have t1c := t1.cell0
    have t1d := t1.cell1
    rw [ht']
    go_wp2
    go_ret
    exact ⟨rfl, (by repeat (first | exact Below.refl _ _ | assumption | (refine Below.trans ?_ (Below.mono (by assumption) (by first | omega | (simp <;> omega)))) | (refine Below.alloc ?_ (by first | omega | (simp <;> omega)) _) | (refine below_drewN ?_ _) | (refine Below.drew ?_) | (refine Below.setCell ?_ (by first | omega | (simp <;> omega)) _)))⟩
end Go.Proofs.Ytppahekbgbbidab
