/- Proves that FnOrderOf returns true for every code, and leaves the code as it was. No conditions. -/
import Derived.Test.YtppahekbgbbidabHead
import Derived.Test.YtppahekbgbbidabDrawO
import Derived.Test.YtppahekbgbbidabGOrdC
import Derived.Test.YtppahekbgbbidabGOrdB
import Derived.Test.YtppahekbgbbidabGFun2
set_option linter.unusedVariables false
namespace Go.Proofs.Ytppahekbgbbidab.lawOrderOf
open Go.ChangeShapes Go.WideShapes Go.ChangeAt Go.RowKit Go.Joins N

theorem Two.drew1' {w : World} {b : Nat} {x y : Value} {T : TypeId} (h : Two w b x y T) : Two w.drew b x y T := h

theorem next_ordT {n s : Int} (ht : tok n s = true) {m : Nat} (h1 : 1 ≤ m) (hm : (m : Int) ≤ n) {i : Nat} (hi : i < m) : nextT n s m ((ordT n s m).getD i 0) = (ordT n s m).getD ((i + 1) % m) 0 := by
  obtain ⟨t, t1, t2, _⟩ := ordT_at ht hm hi
  have hn := ordT_next ht h1 hm hi (nextT_is ht (by omega : (1 : Int) ≤ m) hm (t := (ordT n s m).getD i 0) (by omega) (by omega))
  rw [hn]
  by_cases c : i + 1 < m
  · rw [if_pos c, Nat.mod_eq_of_lt c]
  · rw [if_neg c, show i + 1 = m by omega, Nat.mod_self, ordT_zero ht h1 hm]

set_option maxHeartbeats 4000000 in

set_option maxRecDepth 4000 in
theorem walk (a : Option Addr) (len cap : Nat) (z : List Int) (w : World) (row : IsRow .u8 w a len cap z) :
    Calls Try.prog 7 #[.slice a len cap] w fun e w' => e = .returned (.bool true) ∧ Below w.heap.size w w' := by
  
  have hc := CodeIn.of row
  clear row
  by_cases hl : 1048576 < len
  · have hl' : (1048576 : Int) < len := by omega
    go_enter Try.func7, Try.ntmps7
    go_wp2
    go_ret
    exact ⟨rfl, (by repeat (first | exact Below.refl _ _ | assumption | (refine Below.trans ?_ (Below.mono (by assumption) (by first | omega | (simp <;> omega)))) | (refine Below.alloc ?_ (by first | omega | (simp <;> omega)) _) | (refine below_drewN ?_ _) | (refine Below.drew ?_) | (refine Below.setCell ?_ (by first | omega | (simp <;> omega)) _)))⟩
  · have hl' : ¬ (1048576 : Int) < len := by omega
    go_enter Try.func7, Try.ntmps7
    go_wp2_with fail
    refine (drawOrderOf_any a len cap _ hc (by omega)).mono ?_; rintro e w1 ⟨n, s, m, rfl, n0, n1, s0, s1, k0, k1, hb1⟩
    have hz1 := hb1.size
    try simp at hz1
    go_wp2_with fail
    refine (orderOf_any _ _ _ _).mono ?_; rintro e w2 ⟨v1, rfl, hp2, hb2⟩
    have hz2 := hb2.size
    try simp at hz2
    have t2 : Two w2 (w1.heap.size) (.int .i64 n) (.int .i64 s) 24 := Two.below (by repeat (first | assumption | exact Two.new' _ _ _ _ _ (by simp) | refine Two.alloc ?_ _ | refine Two.drewN ?_ _)) hb2 (by first | omega | (simp <;> omega))
    have hlt2 : (w1.heap.size) < w2.heap.size := t2.lt
    have hnt2 : ¬ (w1.heap.size) = w2.heap.size := Nat.ne_of_lt hlt2
    have t2c := t2.cell0
    have t2d := t2.cell1
    go_wp2_with fail
    refine (specOrderOf_any _ _ _ _).mono ?_; rintro e w3 ⟨v2, rfl, hq3, hb3⟩
    have hz3 := hb3.size
    try simp at hz3
    have t3 : Two w3 (w1.heap.size) (.int .i64 n) (.int .i64 s) 24 := Two.below (by repeat (first | assumption | exact Two.new' _ _ _ _ _ (by simp) | refine Two.alloc ?_ _ | refine Two.drewN ?_ _)) hb3 (by first | omega | (simp <;> omega))
    have hlt3 : (w1.heap.size) < w3.heap.size := t3.lt
    have hnt3 : ¬ (w1.heap.size) = w3.heap.size := Nat.ne_of_lt hlt3
    have t3c := t3.cell0
    have t3d := t3.cell1
    have hp3 := hp2.below hb3
    have hB3 : Below w.heap.size w w3 := (by repeat (first | exact Below.refl _ _ | assumption | (refine Below.trans ?_ (Below.mono (by assumption) (by first | omega | (simp <;> omega)))) | (refine Below.alloc ?_ (by first | omega | (simp <;> omega)) _) | (refine below_drewN ?_ _) | (refine Below.drew ?_) | (refine Below.setCell ?_ (by first | omega | (simp <;> omega)) _)))
    have hlen := orderF_len n s m
    clear hp2 hb1 hb2 hb3
    go_wp2_with fail
    refine (sameInts_any v1 v2 _ _ _ (OwnL.reads hp3) (OwnL.reads hq3) (by omega) (by omega)).mono ?_; rintro e w4 ⟨rfl, nq, rfl⟩
    rw [decide_eq_true rfl]
    have hB4 := below_drewN hB3 nq
    have t4 : Two (w3.drewN nq) w1.heap.size (.int .i64 n) (.int .i64 s) 24 := t3
    have hp4 : OwnL (w3.drewN nq) _ v1 (orderF n s m) := hp3
    have hlt4 : w1.heap.size < (w3.drewN nq).heap.size := hlt3
    clear hq3 hp3 hB3 t3 t3c t3d hlt3 hnt3
    generalize w3.drewN nq = w4 at *
    by_cases h : tok n s = true ∧ 1 ≤ m ∧ m ≤ n
    · obtain ⟨ht, h1, hmn⟩ := h
      have hb := tok_bd ht
      obtain ⟨m, rfl⟩ := Int.eq_ofNat_of_zero_le (by omega : 0 ≤ m)
      rw [orderF_yes ht (by omega) hmn] at hp4
      have hl0 := ordT_length n s m
      have HN : Hid (∀ i, i < m → nextT n s m ((ordT n s m).getD i 0) = (ordT n s m).getD ((i + 1) % m) 0) := fun i hi => next_ordT ht (by omega) hmn hi
      have HAll := Lib.hid (fun e => ordT_all (n := n) (s := s) ht (m := m) e)
      have EO := Lib.hid (oppT_yes ht)
      have EI := Lib.hid (tok_inv ht)
      have HT := Lib.hid ht
      obtain ⟨ga, cap1, e1, HC0⟩ := (OwnL.reads hp4).cells hl0
      obtain ⟨g, off, e2, HC⟩ := HC0 (by omega)
      have hg4 : g < w4.heap.size := World.block_lt_of_cell? w4 _ (HC.out 0 (by omega))
      have hv1 := e1
      rw [e2] at hv1
      have hm0 : ((m : Int) == 0) = false := by simp; omega
      have t4c := t4.cell0
      have t4d := t4.cell1
      clear HC0 ht hlen e1 e2
      subst hv1
      obtain ⟨v1, hv1⟩ : ∃ v1 : Value, v1 = .slice (some ⟨g, off, none⟩) m cap1 := ⟨_, rfl⟩
      rw [← hv1] at hp4
      have HV := Lib.hid hv1
      clear hv1
      go_wp2_with fail
      go_loopw [6] (fun x wr => ∃ k : Nat, x = .int .i64 k ∧ k ≤ m ∧ Below w4.heap.size w4 wr) (fun x _ => m - (intOf x).toNat)
      case atStart => exact ⟨0, rfl, by omega, Below.refl _ _⟩
      case round =>
        obtain ⟨k, rfl, hk, hB⟩ := hrel
        have hszr := hB.size
        have t5 : Two wr w1.heap.size (.int .i64 n) (.int .i64 s) 24 := Two.below t4 hB hlt4
        have t5c := t5.cell0
        have t5d := t5.cell1
        by_cases hkm : k < m
        · have hkm' : (k : Int) < m := by omega
          obtain ⟨r, hr⟩ : ∃ r, (k + 1) % m = r := ⟨_, rfl⟩
          have hrm : r < m := by rw [← hr]; exact Nat.mod_lt _ (by omega)
          have ck := (hB.cell (p := ⟨g, off + k, none⟩) hg4).trans (HC.out k hkm)
          have cr := (hB.cell (p := ⟨g, off + r, none⟩) hg4).trans (HC.out r hrm)
          have hn := HN.out k hkm
          rw [hr] at hn
          generalize (ordT n s m).getD k 0 = X at *
          generalize (ordT n s m).getD r 0 = Y at *
          have HNx := Lib.hid hn
          have rm : ((k : Int) + 1).tmod m = (r : Int) := by
            rw [Int.tmod_eq_emod_of_nonneg (by omega), ← hr]
            simp
          have nz : ¬ (m : Int) = 0 := by omega
          have nz2 : ¬ m = 0 := by omega
          have nz3 : ((m : Int) == 0) = false := by simp; omega
          have wk : IntKind.i64.wrap ((k : Int) + 1) = (k : Int) + 1 := IntWalk.i64_in _ (by omega)
          have wm : IntKind.i64.wrap (r : Int) = (r : Int) := IntWalk.i64_in _ (by omega)
          have hrm' : (r : Int) < m := by omega
          have yy : (Y != Y) = false := by simp
          have t5D : Two wr.drew w1.heap.size (.int .i64 n) (.int .i64 s) 24 := Two.drew1' t5
          have ckD : wr.drew.cell? ⟨g, off + k, none⟩ = some (.int .i64 X) := ck
          have crD : wr.drew.cell? ⟨g, off + r, none⟩ = some (.int .i64 Y) := cr
          have hBD : Below w4.heap.size w4 wr.drew := Below.drew hB
          have hsD : w4.heap.size ≤ wr.drew.heap.size := hBD.size
          clear hn hr HN HC t4 t4c t4d
          go_wp2_with fail
          go_region_held3 (fun w' => w'.cell? ⟨w1.heap.size, 0, none⟩ = some (.int .i64 n) ∧ w'.cell? ⟨w1.heap.size, 1, none⟩ = some (.int .i64 s) ∧ w'.cell? ⟨g, off + k, none⟩ = some (.int .i64 X) ∧ w'.cell? ⟨g, off + r, none⟩ = some (.int .i64 Y)) (first | go_keep | exact ⟨t'c, t'd, ck', cr'⟩)
            (first
              | (go_at_call 36; refine (nextAfter_any n s m X _).mono ?_; rintro e w' ⟨rfl, hb'⟩; rw [HNx.out]; have hsz' := hb'.size; have t' : Two w' w1.heap.size (.int .i64 n) (.int .i64 s) 24 := Two.below (by assumption) hb' (by omega); have t'c := t'.cell0; have t'd := t'.cell1; have ck' := (hb'.cell (p := ⟨g, off + k, none⟩) (by show g < _; omega)).trans (by assumption); have cr' := (hb'.cell (p := ⟨g, off + r, none⟩) (by show g < _; omega)).trans (by assumption); have hB' : Below w4.heap.size w4 w' := Below.trans (by assumption) (hb'.mono (by omega))))
          all_goals
            go_wp2_with fail
            go_roundw
            case rel => exact ⟨k + 1, by go_num, by omega, hB'⟩
            case measure => simp only [intOf]; omega
        · obtain rfl : k = m := by omega
          have hkm' : decide ((k : Int) < k) = false := by simp
          have hp5 := hp4.below hB
          have hB5 := hB4.trans (hB.mono hB4.size)
          have hl5 := t5.lt
          have hws : w.heap.size ≤ w1.heap.size := by omega
          clear HN HC t4 t4c t4d hp4 hB hB4
          by_cases hmn2 : (k : Int) = n
          · have hmn3 : ((k : Int) == n) = true := by simpa using hmn2
            have HA := Lib.hid (HAll.out hmn2)
            have EF := Lib.hid (firstF_yes EI.out h1 hmn)
            have HM2 := Lib.hid hmn2
            clear hmn2
            have h5 := oppositeOf_any n s wr
            rw [EO.out] at h5
            dsimp only at h5
            go_wp2_with fail
            refine h5.mono ?_; rintro e w6 ⟨rfl, hb6⟩
            have t6 := t5.below hb6 hl5
            have hp6 := hp5.below hb6
            have hB6 := hB5.trans (hb6.mono hB5.size)
            clear h5 t5 t5c t5d hp5 hB5 hb6
            have h7 := firstPoints_any n (invF n s) k w6
            rw [EF.out, Int.toNat_natCast, ← HA.out] at h7
            go_wp2_with fail
            refine h7.mono ?_; rintro e w7 ⟨v7, rfl, ho7, hb7⟩
            have t7 := t6.below hb7 t6.lt
            have hp7 := hp6.below hb7
            have hB7 := hB6.trans (hb7.mono hB6.size)
            have r7 := OwnL.reads ho7
            have s7 := OwnL.reads hp7
            rw [HV.out] at s7
            clear h7 t6 hp6 hB6 hb7
            go_wp2_with fail
            refine (sameInts_any v7 _ _ _ _ r7 s7 (by rw [hl0]; omega) (by rw [hl0]; omega)).mono ?_; rintro e w8 ⟨rfl, nr, rfl⟩
            rw [decide_eq_true rfl]
            have t8 : Two (w7.drewN nr) w1.heap.size (.int .i64 n) (.int .i64 s) 24 := t7
            have hp8 : OwnL (w7.drewN nr) _ v1 (ordT n s k) := hp7
            have hB8 := below_drewN hB7 nr
            have hl8 := t8.lt
            have t8c := t8.cell0
            have t8d := t8.cell1
            clear t7 hp7 hB7 r7 s7 ho7
            generalize w7.drewN nr = w8 at *
            obtain ⟨m, rfl⟩ : ∃ m, m = k := ⟨k, rfl⟩
            have szD : w1.heap.size < w8.drew.heap.size := show w1.heap.size < w8.heap.size by omega
            have tD : Two w8.drew w1.heap.size (.int .i64 n) (.int .i64 s) 24 := Two.drew1' t8
            have oD : OwnL w8.drew w1.heap.size v1 (ordT n s m) := OwnL.mono (b' := w1.heap.size) hp8 (by simp)
            have bD : Below w.heap.size w w8.drew := Below.drew hB8
            have bDs : w.heap.size ≤ w8.drew.heap.size := bD.size
            by_cases h2 : m < 2
            · have h2' : (m : Int) < 2 := by omega
              have HP := Lib.hid (nearA_no (n := n) (s := s) (m := m) (by omega))
              have HQ := Lib.hid (nearB_no (n := n) (s := s) (m := m) (by omega))
              have HX := orderBy_any m (-1) (-1)
              rw [orderByF_no (m := (m : Int)) (u := -1) (d := -1) (fun h => by have h3 := h.2.2.1; omega)] at HX
              unfold PairPost at HX
              dsimp only at HX
              go_wp2_with fail
              go_region_held3 (fun w' => w'.cell? ⟨w1.heap.size, 0, none⟩ = some (.int .i64 n) ∧ w'.cell? ⟨w1.heap.size, 1, none⟩ = some (.int .i64 s)) (first | go_keep | exact ⟨t'c, t'd⟩)
                (first
                  | (go_at_call 40; refine (nearAbove_any n s m _).mono ?_; rintro e w' ⟨rfl, hb'⟩; rw [HP.out]; have hsz' := hb'.size; have t' : Two w' w1.heap.size (.int .i64 n) (.int .i64 s) 24 := Two.below (by assumption) hb' (by omega); have t'c := t'.cell0; have t'd := t'.cell1; have o' : OwnL w' w1.heap.size v1 (ordT n s m) := OwnL.below (by assumption) hb'; have b' : Below w.heap.size w w' := Below.trans (by assumption) (hb'.mono (by omega)))
                  | (go_at_call 41; refine (nearBelow_any n s m _).mono ?_; rintro e w' ⟨rfl, hb'⟩; rw [HQ.out]; have hsz' := hb'.size; have t' : Two w' w1.heap.size (.int .i64 n) (.int .i64 s) 24 := Two.below (by assumption) hb' (by omega); have t'c := t'.cell0; have t'd := t'.cell1; have o' : OwnL w' w1.heap.size v1 (ordT n s m) := OwnL.below (by assumption) hb'; have b' : Below w.heap.size w w' := Below.trans (by assumption) (hb'.mono (by omega)))
                  | (go_at_call 39; refine (HX _).mono ?_; rintro e w' ⟨vx, rfl, hx', hb'⟩; have hsz' := hb'.size; have t' : Two w' w1.heap.size (.int .i64 n) (.int .i64 s) 24 := Two.below (by assumption) hb' (by omega); have t'c := t'.cell0; have t'd := t'.cell1; have b' : Below w.heap.size w w' := Below.trans (by assumption) (hb'.mono (by omega))))
              all_goals
                go_wp2
                go_ret
                exact ⟨rfl, b'⟩
            · have h2' : decide ((m : Int) < 2) = false := by simp; omega
              obtain ⟨hok, hLe⟩ := by_turn HT.out (by omega : 2 ≤ m) hmn
              obtain ⟨P, hP⟩ : ∃ P, nearA n s m = P := ⟨_, rfl⟩
              obtain ⟨Q, hQ⟩ : ∃ Q, nearB n s m = Q := ⟨_, rfl⟩
              rw [hP, hQ] at hok hLe
              have HP := Lib.hid hP
              have HQ := Lib.hid hQ
              have HX := orderBy_any m P Q
              rw [orderByF_yes hok, Int.toNat_natCast, hLe] at HX
              unfold PairPost at HX
              dsimp only at HX
              clear hP hQ hok hLe
              go_wp2_with fail
              go_region_held3 (fun w' => w'.cell? ⟨w1.heap.size, 0, none⟩ = some (.int .i64 n) ∧ w'.cell? ⟨w1.heap.size, 1, none⟩ = some (.int .i64 s)) (first | go_keep | exact ⟨t'c, t'd⟩)
                (first
                  | (go_at_call 40; refine (nearAbove_any n s m _).mono ?_; rintro e w' ⟨rfl, hb'⟩; rw [HP.out]; have hsz' := hb'.size; have t' : Two w' w1.heap.size (.int .i64 n) (.int .i64 s) 24 := Two.below (by assumption) hb' (by omega); have t'c := t'.cell0; have t'd := t'.cell1; have o' : OwnL w' w1.heap.size v1 (ordT n s m) := OwnL.below (by assumption) hb'; have b' : Below w.heap.size w w' := Below.trans (by assumption) (hb'.mono (by omega)))
                  | (go_at_call 41; refine (nearBelow_any n s m _).mono ?_; rintro e w' ⟨rfl, hb'⟩; rw [HQ.out]; have hsz' := hb'.size; have t' : Two w' w1.heap.size (.int .i64 n) (.int .i64 s) 24 := Two.below (by assumption) hb' (by omega); have t'c := t'.cell0; have t'd := t'.cell1; have o' : OwnL w' w1.heap.size v1 (ordT n s m) := OwnL.below (by assumption) hb'; have b' : Below w.heap.size w w' := Below.trans (by assumption) (hb'.mono (by omega)))
                  | (go_at_call 39; refine (HX _).mono ?_; rintro e w' ⟨vx, rfl, hx', hb'⟩; have hsz' := hb'.size; have t' : Two w' w1.heap.size (.int .i64 n) (.int .i64 s) 24 := Two.below (by assumption) hb' (by omega); have t'c := t'.cell0; have t'd := t'.cell1; have o' : OwnL w' w1.heap.size v1 (ordT n s m) := OwnL.below (by assumption) hb'; have b' : Below w.heap.size w w' := Below.trans (by assumption) (hb'.mono (by omega))))
              all_goals
                have rx := OwnL.reads hx'
                have ro := OwnL.reads o'
                clear t' t'c t'd hb' hx' o'
                go_wp2_with fail
                refine (sameInts_any vx _ _ _ _ rx (by rw [HV.out] at ro; exact ro) (by rw [ordT_length]; omega) (by rw [ordT_length]; omega)).mono ?_; rintro e w8 ⟨rfl, nr, rfl⟩
                rw [decide_eq_true rfl]
                go_wp2
                go_ret
                exact ⟨rfl, below_drewN b' nr⟩
          · have hmn3 : ((k : Int) == n) = false := by simpa using hmn2
            obtain ⟨m, rfl⟩ : ∃ m, m = k := ⟨k, rfl⟩
            have szD : w1.heap.size < wr.drew.heap.size := show w1.heap.size < wr.heap.size by omega
            have tD : Two wr.drew w1.heap.size (.int .i64 n) (.int .i64 s) 24 := Two.drew1' t5
            have oD : OwnL wr.drew w1.heap.size v1 (ordT n s m) := OwnL.mono (b' := w1.heap.size) hp5 (by simp)
            have bD : Below w.heap.size w wr.drew := Below.drew hB5
            have bDs : w.heap.size ≤ wr.drew.heap.size := bD.size
            by_cases h2 : m < 2
            · have h2' : (m : Int) < 2 := by omega
              have HP := Lib.hid (nearA_no (n := n) (s := s) (m := m) (by omega))
              have HQ := Lib.hid (nearB_no (n := n) (s := s) (m := m) (by omega))
              have HX := orderBy_any m (-1) (-1)
              rw [orderByF_no (m := (m : Int)) (u := -1) (d := -1) (fun h => by have h3 := h.2.2.1; omega)] at HX
              unfold PairPost at HX
              dsimp only at HX
              go_wp2_with fail
              go_region_held3 (fun w' => w'.cell? ⟨w1.heap.size, 0, none⟩ = some (.int .i64 n) ∧ w'.cell? ⟨w1.heap.size, 1, none⟩ = some (.int .i64 s)) (first | go_keep | exact ⟨t'c, t'd⟩)
                (first
                  | (go_at_call 40; refine (nearAbove_any n s m _).mono ?_; rintro e w' ⟨rfl, hb'⟩; rw [HP.out]; have hsz' := hb'.size; have t' : Two w' w1.heap.size (.int .i64 n) (.int .i64 s) 24 := Two.below (by assumption) hb' (by omega); have t'c := t'.cell0; have t'd := t'.cell1; have o' : OwnL w' w1.heap.size v1 (ordT n s m) := OwnL.below (by assumption) hb'; have b' : Below w.heap.size w w' := Below.trans (by assumption) (hb'.mono (by omega)))
                  | (go_at_call 41; refine (nearBelow_any n s m _).mono ?_; rintro e w' ⟨rfl, hb'⟩; rw [HQ.out]; have hsz' := hb'.size; have t' : Two w' w1.heap.size (.int .i64 n) (.int .i64 s) 24 := Two.below (by assumption) hb' (by omega); have t'c := t'.cell0; have t'd := t'.cell1; have o' : OwnL w' w1.heap.size v1 (ordT n s m) := OwnL.below (by assumption) hb'; have b' : Below w.heap.size w w' := Below.trans (by assumption) (hb'.mono (by omega)))
                  | (go_at_call 39; refine (HX _).mono ?_; rintro e w' ⟨vx, rfl, hx', hb'⟩; have hsz' := hb'.size; have t' : Two w' w1.heap.size (.int .i64 n) (.int .i64 s) 24 := Two.below (by assumption) hb' (by omega); have t'c := t'.cell0; have t'd := t'.cell1; have b' : Below w.heap.size w w' := Below.trans (by assumption) (hb'.mono (by omega))))
              all_goals
                go_wp2
                go_ret
                exact ⟨rfl, b'⟩
            · have h2' : decide ((m : Int) < 2) = false := by simp; omega
              obtain ⟨hok, hLe⟩ := by_turn HT.out (by omega : 2 ≤ m) hmn
              obtain ⟨P, hP⟩ : ∃ P, nearA n s m = P := ⟨_, rfl⟩
              obtain ⟨Q, hQ⟩ : ∃ Q, nearB n s m = Q := ⟨_, rfl⟩
              rw [hP, hQ] at hok hLe
              have HP := Lib.hid hP
              have HQ := Lib.hid hQ
              have HX := orderBy_any m P Q
              rw [orderByF_yes hok, Int.toNat_natCast, hLe] at HX
              unfold PairPost at HX
              dsimp only at HX
              clear hP hQ hok hLe
              go_wp2_with fail
              go_region_held3 (fun w' => w'.cell? ⟨w1.heap.size, 0, none⟩ = some (.int .i64 n) ∧ w'.cell? ⟨w1.heap.size, 1, none⟩ = some (.int .i64 s)) (first | go_keep | exact ⟨t'c, t'd⟩)
                (first
                  | (go_at_call 40; refine (nearAbove_any n s m _).mono ?_; rintro e w' ⟨rfl, hb'⟩; rw [HP.out]; have hsz' := hb'.size; have t' : Two w' w1.heap.size (.int .i64 n) (.int .i64 s) 24 := Two.below (by assumption) hb' (by omega); have t'c := t'.cell0; have t'd := t'.cell1; have o' : OwnL w' w1.heap.size v1 (ordT n s m) := OwnL.below (by assumption) hb'; have b' : Below w.heap.size w w' := Below.trans (by assumption) (hb'.mono (by omega)))
                  | (go_at_call 41; refine (nearBelow_any n s m _).mono ?_; rintro e w' ⟨rfl, hb'⟩; rw [HQ.out]; have hsz' := hb'.size; have t' : Two w' w1.heap.size (.int .i64 n) (.int .i64 s) 24 := Two.below (by assumption) hb' (by omega); have t'c := t'.cell0; have t'd := t'.cell1; have o' : OwnL w' w1.heap.size v1 (ordT n s m) := OwnL.below (by assumption) hb'; have b' : Below w.heap.size w w' := Below.trans (by assumption) (hb'.mono (by omega)))
                  | (go_at_call 39; refine (HX _).mono ?_; rintro e w' ⟨vx, rfl, hx', hb'⟩; have hsz' := hb'.size; have t' : Two w' w1.heap.size (.int .i64 n) (.int .i64 s) 24 := Two.below (by assumption) hb' (by omega); have t'c := t'.cell0; have t'd := t'.cell1; have o' : OwnL w' w1.heap.size v1 (ordT n s m) := OwnL.below (by assumption) hb'; have b' : Below w.heap.size w w' := Below.trans (by assumption) (hb'.mono (by omega))))
              all_goals
                have rx := OwnL.reads hx'
                have ro := OwnL.reads o'
                clear t' t'c t'd hb' hx' o'
                go_wp2_with fail
                refine (sameInts_any vx _ _ _ _ rx (by rw [HV.out] at ro; exact ro) (by rw [ordT_length]; omega) (by rw [ordT_length]; omega)).mono ?_; rintro e w8 ⟨rfl, nr, rfl⟩
                rw [decide_eq_true rfl]
                go_wp2
                go_ret
                exact ⟨rfl, below_drewN b' nr⟩
    · rw [orderF_no h] at hp4
      obtain ⟨ga, cap1, rfl⟩ := nil_cells (OwnL.reads hp4)
      clear hp4 hlen
      go_wp2_with fail
      refine (alive_any _).mono ?_; rintro e w5 ⟨rfl, hb5⟩
      go_wp2
      go_ret
      exact ⟨rfl, hB4.trans (hb5.mono hB4.size)⟩

set_option maxRecDepth 100000 in
theorem lifted (os : Os) (started : os.Started) (H : Type) (enc : TypeId × Value → H) :
    ReturnsInHanded {} Try.checked os 7 .any (Rows.fnOrderOfSpec.pre6 enc Try.prog Try.f7 Rows.fnOrderOfRow.domain false) (Rows.fnOrderOfSpec.post enc Try.prog Try.f7 false true false false) := by
  refine returnsInHanded_of_change (C := Try.checked) own started (by kernel_rfl) Try.func7
    (ChangeSpec.witness6 (enc := enc) (C := Try.checked) false ⟨#[], #[.slice none 0 0], []⟩ 8 (by kernel_rfl) (by kernel_rfl) (by kernel_rfl) (by kernel_rfl)) ?_
  intro W base args ds gs before hval0 hW hcnd _
  have hval : ∀ (j : Nat) t v, Try.f7.params[j]? = some t → args[j]? = some v → Value.okWide Try.prog W .any base t v := hval0
  have hW' := hW
  obtain ⟨p, q, hA0, hV, rfl, hfz, hnd⟩ := hW
  have hA : DataW.TrodAll enc Try.prog W 0 (fun _ => true) true Try.f7.params.toList args.toList ds p := hA0
  rw [Try.params7] at hA hval
  obtain ⟨v0, vs0, d0, ds0, p0, q0, hargs, rfl, rfl, h0, r0⟩ := trodAll_cons hA
  obtain ⟨rfl, rfl, rfl⟩ := trodAll_nil r0
  obtain rfl : args = #[v0] := by cases args; simp_all
  obtain ⟨rfl, rfl⟩ := trodVars_none hV
  obtain ⟨acode, lencode, capcode, rfl⟩ := okWide_slice Try.underlying22 (hval 0 22 v0 rfl rfl)
  have k0 := h0
  have lt0 : ∀ x ∈ p0, x.block < W.heap.size := by obtain ⟨m, hm⟩ := k0; exact DataW.trod_lt m _ _ _ hm
  obtain ⟨zcode, rowcode⟩ : ∃ zs, IsRow .u8 W acode lencode capcode zs := by
    obtain ⟨fuel, hf⟩ := h0
    rcases open_ints Try.underlying22 Try.underlying5 (by kernel_rfl) hf with ⟨hcs, _⟩ | ⟨x, l, c, zs, hcs, _, hl, hm, hz, _, hcell, hwz⟩
    · simp [Value.cells] at hcs
      obtain ⟨rfl, rfl, rfl⟩ := hcs
      exact ⟨[], .inl ⟨rfl, rfl, rfl, rfl⟩⟩
    · simp [Value.cells] at hcs
      obtain ⟨rfl, rfl, rfl⟩ := hcs
      exact ⟨zs, .inr ⟨_, rfl, hl, hm, by simpa using hz, hcell, hwz⟩⟩
  clear hA0 hval0
  refine (walk acode lencode capcode zcode W rowcode).mono fun e W' ⟨he, bel⟩ => ?_
  subst he
  exact ⟨_, rfl, _, _, _, [], _, [], hW', trodAll_mk1 (shut_bool Try.underlying4 _), (trodAll_cons_mk (Below.trod laidOut (by kernel_rfl) (of_decide_eq_true (by kernel_rfl)) k0 bel lt0) trodAll_mk0), rfl, bel.frame _, fun h => by cases h⟩

theorem facts : joinedFacts Try.pinned.checked.prog 7 Try.f7 Rows.fnOrderOfSpec Rows.fnOrderOfRow = true := by
  simp only [joinedFacts, Bool.and_eq_true]
  repeat' apply And.intro
  all_goals first | rw [mayEnter_eq] | (rw [liftsFinal_eq]; kernel_rfl) | (rw [make_eq]; kernel_rfl) | kernel_rfl

theorem over : Rows.fnOrderOfRow.holds Try.pinned (OpenSpec.ofChange Rows.fnOrderOfSpec) :=
  OpenClaim.holds_of_wide 7 Try.f7 rfl rfl rfl rfl rfl rfl rfl ⟨rfl, rfl, rfl, rfl, rfl⟩ rfl rfl rfl rfl rfl (by kernel_rfl) Try.func7 facts
    (of_decide_eq_true (by kernel_rfl)) (by unfold Func.isWrapper; first | (rw [if_pos (by decide +kernel)]; kernel_rfl) | (rw [if_neg (by decide +kernel)]; exact ⟨rfl, rfl⟩))
    (fun os started H enc _ => lifted os started H enc)

theorem proved : Rows.FnOrderOfSaid := over
#print axioms proved
end Go.Proofs.Ytppahekbgbbidab.lawOrderOf
