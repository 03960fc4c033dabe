/- Contracts of chapter 9's functions of the program: the basis and the greatest digits. -/
import Derived.Test.YtnpaicdbmmfdhaaNumP
import Derived.Test.YtnpaicdbmmfdhaaOff
import Derived.Test.YtnpaicdbmmfdhaaGFun
import Derived.BigQuiet
set_option linter.unusedVariables false
namespace Go.Proofs.Ytnpaicdbmmfdhaa

set_option maxRecDepth 4000
open Go.ChangeShapes Go.WideShapes Go.ChangeAt Go.RowKit Go.Joins

theorem basT_len {T : List Nat} {L : Nat} (b : Bool) (h : T.length = L + 1) (h1 : 1 ≤ L) : (basK T b L).length = L - b.toNat := by
  cases b with
  | true => show ((T.take L).drop 1).length = L - 1; simp; omega
  | false => show (T.take L).length = L; simp; omega

theorem basT_get {T : List Nat} {L : Nat} (b : Bool) (i : Nat) (h : i + b.toNat < L) : (basK T b L).getD i 0 = T.getD (b.toNat + i) 0 := by
  cases b with
  | true =>
    show ((T.take L).drop 1).getD i 0 = T.getD (1 + i) 0
    have h' : i + 1 < L := h
    rw [List.getD_eq_getElem?_getD, List.getD_eq_getElem?_getD, List.getElem?_drop, List.getElem?_take_of_lt (by omega)]
  | false =>
    show (T.take L).getD i 0 = T.getD (0 + i) 0
    have h' : i + 0 < L := h
    rw [List.getD_eq_getElem?_getD, List.getD_eq_getElem?_getD, List.getElem?_take_of_lt (by omega), Nat.zero_add]

theorem mostT_len {Q : List Nat} {L : Nat} (b : Bool) (h : Q.length = L) (h1 : 1 ≤ L) : (mostK Q b L).length = L - b.toNat := by
  obtain ⟨k, rfl⟩ : ∃ k, L = k + 1 := ⟨L - 1, by omega⟩
  cases b with
  | true => show ((Q.take (k + 1)).drop 1).length = k + 1 - 1; simp; omega
  | false => show ((Q.getD 0 0 - 1) :: (Q.take (k + 1)).drop 1).length = k + 1; simp; omega

theorem mostT_true {Q : List Nat} {L i : Nat} (h : i + 1 < L) : (mostK Q true L).getD i 0 = Q.getD (1 + i) 0 := by
  show ((Q.take L).drop 1).getD i 0 = Q.getD (1 + i) 0
  rw [List.getD_eq_getElem?_getD, List.getD_eq_getElem?_getD, List.getElem?_drop, List.getElem?_take_of_lt (by omega)]

theorem mostT_false {Q : List Nat} {L i : Nat} (h : i < L) : (mostK Q false L).getD i 0 = if i = 0 then Q.getD 0 0 - 1 else Q.getD i 0 := by
  obtain ⟨k, rfl⟩ : ∃ k, L = k + 1 := ⟨L - 1, by omega⟩
  show ((Q.getD 0 0 - 1) :: (Q.take (k + 1)).drop 1).getD i 0 = _
  cases i with
  | zero => rfl
  | succ i =>
    rw [if_neg (by omega), List.getD_cons_succ, List.getD_eq_getElem?_getD, List.getD_eq_getElem?_getD, List.getElem?_drop, List.getElem?_take_of_lt (by omega), Nat.add_comm 1 i]

theorem bas_b {N S : Nat} {b : Bool} (hN : tokN N S = true) (f5 : b = true ↔ (nearN N S).getD 1 0 = 1) : (quotsN N S).getD 0 0 = 1 → b = true := fun e => by
  have c := all_turns chkBas_all hN
  unfold chkBas at c
  simp only [Bool.and_eq_true, Nat.ble_eq, Nat.beq_eq] at c
  obtain ⟨_, ⟨c1, c2⟩, c3, c4⟩ := c
  rw [e] at c2
  exact f5.2 (Nat.eq_of_beq_eq_true c2)

set_option maxHeartbeats 2000000 in
theorem basisOf_any (n s : Int) (w : World) : Calls Try.prog 17 #[(.agg #[.int .i64 (n), .int .i64 (s)])] w (OffPost (basisF n s) w) := by
  
  by_cases ht : tok n s = true
  · obtain ⟨N, S, rfl, rfl, hN⟩ := tokN_of ht
    
    rw [basisF_yes hN]
    obtain ⟨b, f1, f2, f3, f4, f5, f6, f7, f8, f9⟩ := bas_grow hN
    have hnt := nearTimes_any N S
    rw [nearF_yes hN] at hnt
    rw [← f8]
    have hml : 1 ≤ (basN N S).length := (bas_facts hN).1
    rw [← f8] at hml
    generalize nearN N S = T at *
    generalize (quotsN N S).length = L at *
    have hlen := basT_len b f1 f2
    have HG : Hid (∀ i, i + b.toNat < L → (basK T b L).getD i 0 = T.getD (b.toNat + i) 0) := fun i hi => basT_get b i hi
    have hlb : L - b.toNat ≤ 8 := by omega
    have HLen := Lib.hid hlen
    have hlt : Hid ((castL T).length = L + 1) := by show _ = _; rw [castL_len, f1]
    have hnt' := Lib.hid hnt
    have hl1 : 1 ≤ L - b.toNat := by rw [← hlen]; exact hml
    have HL1 := Lib.hid hl1
    generalize basK T b L = BN at *
    clear f1 f6 f7 f8 f9 hN hnt hlen hml
    have hwL : IntKind.i64.wrap ((L : Int) + 1 - 1) = L := by rw [show (L : Int) + 1 - 1 = L by omega]; exact IntWalk.i64_in _ (by omega)
    have hwL2 : IntKind.i64.wrap (L : Int) = L := IntWalk.i64_in _ (by omega)
    go_enter Try.func17, Try.ntmps17
    go_wp2_with fail
    refine (turnOk_any _ _ _).mono ?_; rintro e w1 ⟨rfl, hb1⟩
    have hz1 := hb1.size
    try simp at hz1
    have t1 : Two w1 (w.heap.size) (.int .i64 N) (.int .i64 S) 24 := Two.below (by repeat (first | assumption | exact Two.new' _ _ _ _ _ (by simp) | refine Two.alloc ?_ _ | refine Two.drewN ?_ _)) hb1 (by first | omega | (simp <;> omega))
    have hlt1 : (w.heap.size) < w1.heap.size := t1.lt
    have hnt1 : ¬ (w.heap.size) = w1.heap.size := Nat.ne_of_lt hlt1
    have t1c := t1.cell0
    have t1d := t1.cell1
    rw [ht]
    go_wp2_with fail
    refine (hnt'.out _).mono ?_; rintro e w2 ⟨v2, rfl, ho2, hb2⟩
    have hz2 := hb2.size
    try simp at hz2
    have t2 : Two w2 (w.heap.size) (.int .i64 N) (.int .i64 S) 24 := Two.below (by repeat (first | assumption | exact Two.new' _ _ _ _ _ (by simp) | refine Two.alloc ?_ _ | refine Two.drewN ?_ _)) hb2 (by first | omega | (simp <;> omega))
    have hlt2 : (w.heap.size) < w2.heap.size := t2.lt
    have hnt2 : ¬ (w.heap.size) = w2.heap.size := Nat.ne_of_lt hlt2
    have t2c := t2.cell0
    have t2d := t2.cell1
    obtain ⟨gT, capT, curT, rfl, hbT, hrT, hsT, hncT, hmT, hcT⟩ := ho2.rowI (N := L + 1) hlt.out (by omega)
    clear hl1
    go_wp2_with fail
    have hl1 : 1 ≤ L - b.toNat := HL1.out
    have k0 := hrT.cell 0
    have k1 := hrT.cell 1
    rw [hcT 0 (by omega), castL_getD, f4] at k0
    rw [hcT 1 (by omega), castL_getD] at k1
    have HC : Hid (∀ i, i < L + 1 → curT[i]? = some (.int .i64 ((T.getD i 0 : Nat) : Int))) := fun i hi => by rw [hcT i hi, castL_getD]
    have HR := Lib.hid hrT
    have HM := Lib.hid hmT
    have HS := Lib.hid hsT
    have hz2 := hb2.size
    have hB2 : Below w.heap.size w w2 := (by repeat (first | exact Below.refl _ _ | assumption | (refine Below.trans ?_ (Below.mono (by assumption) (by first | omega | (simp <;> omega)))) | (refine Below.alloc ?_ (by first | omega | (simp <;> omega)) _) | (refine below_drewN ?_ _) | (refine Below.drew ?_) | (refine Below.setCell ?_ (by first | omega | (simp <;> omega)) _)))
    have hl8 : (1 : Int) < (L : Int) + 1 := by omega
    have hl9 : (0 : Int) < (L : Int) + 1 := by omega
    have hi1 : (1 : Int) ≤ (L : Int) := by omega
    have hi0 : (0 : Int) ≤ (L : Int) := by omega
    have hic : (L : Int) ≤ (capT : Int) := by omega
    have hi2 : (1 : Int) ≤ (capT : Int) := by omega
    clear ho2 hcT hrT hb1 hb2 hsT
    cases b with
    | true =>
      have hct : ¬ capT = 1 := by have e : true.toNat = 1 := rfl; omega
      rw [f5.1 rfl] at k1
      have hfin : OwnO w2 w.heap.size (.slice (some ⟨gT, 1, none⟩) (L - 1) (capT - 1)) (castL BN) := OwnO.cut HR.out (by omega) (by rw [castL_len, HLen.out]; rfl) (by omega) (by omega) (by rw [HS.out]; omega) (fun i hi => by rw [HC.out _ (by omega), castL_getD, HG.out i (by show i + 1 < L; omega)]; rfl)
      have HF := Lib.hid hfin
      clear hfin
      go_quiet (fail)
      have hFq : OwnO (w2.drewN nq) w.heap.size _ (castL BN) := HF.out
      have hBq := below_drewN hB2 nq
      go_wp2
      go_ret
      exact ⟨_, rfl, hFq, hBq⟩
    | false =>
      have hne0 : ¬ T.getD 1 0 = 1 := fun e => by have := f5.2 e; cases this
      have hfin : OwnO w2 w.heap.size (.slice (some ⟨gT, 0, none⟩) L capT) (castL BN) := OwnO.cut HR.out (by omega) (by rw [castL_len, HLen.out]; rfl) (by omega) HM.out (by rw [HS.out]; omega) (fun i hi => by rw [HC.out _ (by omega), castL_getD, HG.out i (by show i + 0 < L; omega)]; rfl)
      have HF := Lib.hid hfin
      clear hfin f5
      generalize T.getD 1 0 = X at *
      have hne : ((1 : Int) == (X : Int)) = false := by simp; omega
      go_quiet (fail)
      have hFq : OwnO (w2.drewN nq) w.heap.size _ (castL BN) := HF.out
      have hBq := below_drewN hB2 nq
      go_wp2
      go_ret
      exact ⟨_, rfl, hFq, hBq⟩
  · 
    have ht' : tok n s = false := by simpa using ht
    rw [basisF_no ht]
    go_enter Try.func17, Try.ntmps17
    go_wp2_with fail
    refine (turnOk_any _ _ _).mono ?_; rintro e w1 ⟨rfl, hb1⟩
    have hz1 := hb1.size
    try simp at hz1
    have t1 : Two w1 (w.heap.size) (.int .i64 n) (.int .i64 s) 24 := Two.below (by repeat (first | assumption | exact Two.new' _ _ _ _ _ (by simp) | refine Two.alloc ?_ _ | refine Two.drewN ?_ _)) hb1 (by first | omega | (simp <;> omega))
    have hlt1 : (w.heap.size) < w1.heap.size := t1.lt
    have hnt1 : ¬ (w.heap.size) = w1.heap.size := Nat.ne_of_lt hlt1
    have t1c := t1.cell0
    have t1d := t1.cell1
    rw [ht']
    go_wp2
    go_ret
    exact ⟨_, rfl, OwnO.nil _ _, (by repeat (first | exact Below.refl _ _ | assumption | (refine Below.trans ?_ (Below.mono (by assumption) (by first | omega | (simp <;> omega)))) | (refine Below.alloc ?_ (by first | omega | (simp <;> omega)) _) | (refine below_drewN ?_ _) | (refine Below.drew ?_) | (refine Below.setCell ?_ (by first | omega | (simp <;> omega)) _)))⟩

end Go.Proofs.Ytnpaicdbmmfdhaa
