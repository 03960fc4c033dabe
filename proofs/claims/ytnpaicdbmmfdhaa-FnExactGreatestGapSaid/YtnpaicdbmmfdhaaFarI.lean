/- Contracts of chapter 11's functions of the program. -/
import Derived.Test.YtnpaicdbmmfdhaaSpread
import Derived.Test.YtnpaicdbmmfdhaaSpreadG
import Derived.Test.YtnpaicdbmmfdhaaGVisI
import Derived.Test.YtnpaicdbmmfdhaaGKinds
import Derived.BigQuiet
import Derived.Deep.RegionHeld3
set_option linter.unusedVariables false
namespace Go.Proofs.Ytnpaicdbmmfdhaa

set_option maxRecDepth 4000
open Go.ChangeShapes Go.WideShapes Go.ChangeAt Go.RowKit Go.Joins

/-- a block of four cells: a watch -/
def Four (w : World) (r : Nat) (a b c d : Value) (T : TypeId) : Prop := w.heap[r]? = some (.cells #[a, b, c, d] T (0, 0))

theorem Four.cell0 {w : World} {r : Nat} {a b c d : Value} {T : TypeId} (h : Four w r a b c d T) : w.cell? ⟨r, 0, none⟩ = some a := by unfold Four at h; simp [World.cell?, h]

theorem Four.cell1 {w : World} {r : Nat} {a b c d : Value} {T : TypeId} (h : Four w r a b c d T) : w.cell? ⟨r, 1, none⟩ = some b := by unfold Four at h; simp [World.cell?, h]

theorem Four.cell2 {w : World} {r : Nat} {a b c d : Value} {T : TypeId} (h : Four w r a b c d T) : w.cell? ⟨r, 2, none⟩ = some c := by unfold Four at h; simp [World.cell?, h]

theorem Four.cell3 {w : World} {r : Nat} {a b c d : Value} {T : TypeId} (h : Four w r a b c d T) : w.cell? ⟨r, 3, none⟩ = some d := by unfold Four at h; simp [World.cell?, h]

theorem Four.lt {w : World} {r : Nat} {a b c d : Value} {T : TypeId} (h : Four w r a b c d T) : r < w.heap.size := by unfold Four at h; exact (Array.getElem?_eq_some_iff.1 h).1

theorem Four.new (w : World) (a b c d : Value) (T : TypeId) : Four (w.alloc (.cells #[a, b, c, d] T)) w.heap.size a b c d T := heap_alloc_new w _

theorem Four.below {w w' : World} {g B : Nat} {a b c d : Value} {T : TypeId} (h : Four w g a b c d T) (hb : Below B w w') (hg : g < B) : Four w' g a b c d T := by unfold Four at *; rw [hb.block g hg]; exact h

theorem Four.drewS {w : World} {g : Nat} {a b c d : Value} {T : TypeId} (h : Four w g a b c d T) : Four w.drew g a b c d T := h

set_option maxHeartbeats 4000000 in
theorem off_any (N S M f u : Nat) (u0 : Int) (w : World) (hN : tokN N S = true) (hM : M ≤ N) (hu : u ≤ N) (hf : f < N) :
    Calls Try.prog 59 #[.agg #[.int .i64 N, .int .i64 S, .int .i64 M, .int .i64 u0], .int .i64 f, .int .i64 u] w fun e w' => e = .returned (.int .i64 (max (devI N S f u M) (-(devI N S f u M)))) ∧ Below w.heap.size w w' := by
  have ht := tok_of_tokN hN
  obtain ⟨b1, b2, b3, b4, _⟩ := tokN_bd hN
  have q := Four.new w (.int .i64 N) (.int .i64 S) (.int .i64 M) (.int .i64 u0) 50
  have hB0 := (Below.refl w.heap.size w).alloc (Nat.le_refl _) (.cells #[.int .i64 N, .int .i64 S, .int .i64 M, .int .i64 u0] 50)
  have hcall := Lib.hid (fun w => (visitsIn_any (N : Int) (S : Int) (M : Int) (f : Int) (u : Int) w).mono (R' := fun e w' => e = .returned (.int .i64 (visC N S f u M : Nat)) ∧ Below w.heap.size w w') (fun e w' h => by
    rw [visF_yes ht (by omega) (by omega) (by omega) (by omega) (by omega) (by omega), Int.toNat_natCast] at h
    exact h))
  have hb : visC N S f u M ≤ 60 := Nat.le_trans (visC_le N S f u M) (by omega)
  have hd : (N : Int) * ((visC N S f u M : Nat) : Int) - (M : Int) * (u : Int) = devI N S f u M := rfl
  have mu0 : 0 ≤ (M : Int) * (u : Int) := Int.mul_nonneg (by omega) (by omega)
  have mu1 : (M : Int) * (u : Int) ≤ 60 * 60 := Int.mul_le_mul (by omega) (by omega) (by omega) (by omega)
  have v0 : 0 ≤ (N : Int) * ((visC N S f u M : Nat) : Int) := Int.mul_nonneg (by omega) (by omega)
  have v1 : (N : Int) * ((visC N S f u M : Nat) : Int) ≤ 60 * 60 := Int.mul_le_mul (by omega) (by omega) (by omega) (by omega)
  generalize hV : ((visC N S f u M : Nat) : Int) = V at *
  have hwm : IntKind.i64.wrap ((M : Int) * (u : Int)) = (M : Int) * (u : Int) := IntWalk.i64_in _ (by omega)
  have hw1 : IntKind.i64.wrap ((N : Int) * V) = (N : Int) * V := IntWalk.i64_in _ (by omega)
  have hw2 : IntKind.i64.wrap ((N : Int) * V - (M : Int) * (u : Int)) = devI N S f u M := by rw [← hd]; exact IntWalk.i64_in _ (by omega)
  have hbd : -3600 ≤ devI N S f u M ∧ devI N S f u M ≤ 3600 := by rw [← hd]; omega
  generalize devI N S f u M = X at *
  have hw : IntKind.i64.wrap (-X) = -X := IntWalk.i64_in _ (by omega)
  obtain ⟨Y, hY⟩ : ∃ Y, max X (-X) = Y := ⟨_, rfl⟩
  have hY' : (if X < -X then -X else X) = Y := by split <;> omega
  rw [hY]
  have q0 := q.cell0
  have q1 := q.cell1
  have q2 := q.cell2
  have q3 := q.cell3
  clear hd hV hN ht
  go_enter Try.func59, Try.ntmps59
  go_wp2_with fail
  go_region_held3 (fun w' => w'.cell? ⟨w.heap.size, 0, none⟩ = some (.int .i64 (N : Int)) ∧ w'.cell? ⟨w.heap.size, 1, none⟩ = some (.int .i64 (S : Int)) ∧ w'.cell? ⟨w.heap.size, 2, none⟩ = some (.int .i64 (M : Int)))
    (first | go_keep | exact ⟨q'0, q'1, q'2⟩)
    (first | (go_at_call 66; refine (hcall.out _).mono ?_; rintro e w' ⟨rfl, hb'⟩; have q' := Four.below (Four.drewS q) hb' (by simp); have q'0 := q'.cell0; have q'1 := q'.cell1; have q'2 := q'.cell2))
  have hB2 := (below_drewN hB0 1).trans (hb'.mono (by simp))
  clear hcall hb'
  go_wp2
  go_ret
  exact ⟨rfl, hB2⟩

set_option maxHeartbeats 2000000 in
theorem farUpM_any (N S M : Nat) (hN : tokN N S = true) (hM : M ≤ N) (k : Nat) (hk : k < N + 1) (w : World) :
    Calls Try.prog 37 #[.agg #[.int .i64 (N : Int), .int .i64 (S : Int), .int .i64 (M : Int), .int .i64 0], .int .i64 k] w fun e w' => e = .returned (.int .i64 (max (exC N S (k : Int) M) (-(exC N S (k : Int) M)))) ∧ Below w.heap.size w w' := by
  have hcall := fun w => (show Calls Try.prog 59 #[.agg #[.int .i64 (N : Int), .int .i64 (S : Int), .int .i64 (M : Int), .int .i64 0], .int .i64 0, .int .i64 k] w fun e w' => e = .returned (.int .i64 (max (exC N S (k : Int) M) (-(exC N S (k : Int) M)))) ∧ Below w.heap.size w w' from off_any N S M 0 k 0 w hN hM (by omega) (by have := (tokN_bd hN).1; omega))
  obtain ⟨Y, hY⟩ : ∃ Y, max (exC N S (k : Int) M) (-(exC N S (k : Int) M)) = Y := ⟨_, rfl⟩
  rw [hY] at hcall
  rw [hY]
  go_enter Try.func37, Try.ntmps37
  go_wp2_with fail
  refine (hcall _).mono ?_; rintro e w2 ⟨rfl, hb2⟩
  go_wp2
  go_ret
  exact ⟨rfl, (by repeat (first | exact Below.refl _ _ | assumption | (refine Below.trans ?_ (Below.mono (by assumption) (by first | omega | (simp <;> omega)))) | (refine Below.alloc ?_ (by first | omega | (simp <;> omega)) _) | (refine below_drewN ?_ _) | (refine Below.drew ?_) | (refine Below.setCell ?_ (by first | omega | (simp <;> omega)) _)))⟩

set_option maxHeartbeats 2000000 in
theorem farUpO_any (N S M : Nat) (hN : tokN N S = true) (hM : M ≤ N) (w : World) :
    Calls Try.prog 36 #[.int .i64 ((N : Int) + 1), .func (.func 37) #[.agg #[.int .i64 (N : Int), .int .i64 (S : Int), .int .i64 (M : Int), .int .i64 0]] #[]] w fun e w' => e = .returned (.int .i64 (maxI (fun k => exC N S (k : Int) M) (N + 1))) ∧ Below w.heap.size w w' := by
  have HV := Lib.hid (fun (k : Nat) (hk : k < N + 1) w => farUpM_any N S M hN hM k hk w)
  obtain ⟨b1, b2, b3, b4, _⟩ := tokN_bd hN
  obtain ⟨K, hK⟩ : ∃ K, N + 1 = K := ⟨_, rfl⟩
  have hK' : ((N : Int) + 1 : Int) = (K : Int) := by omega
  have hKb : 1 ≤ K ∧ K ≤ 61 := by omega
  rw [hK']
  rw [hK] at HV ⊢
  have H1 : Hid (max (exC N S ((0 : Nat) : Int) M) (-(exC N S ((0 : Nat) : Int) M)) = maxI (fun k : Nat => exC N S (k : Int) M) 1) := by
    show _ = max (maxI _ 0) _
    have : ∀ X : Int, max X (-X) = max 0 (max X (-X)) := fun X => by omega
    exact this _
  have HSu : Hid (∀ k, maxI (fun k : Nat => exC N S (k : Int) M) (k + 1) = max (maxI (fun k : Nat => exC N S (k : Int) M) k) (max (exC N S (k : Int) M) (-(exC N S (k : Int) M)))) := fun k => rfl
  have hc0 := HV.out 0 (by omega)
  rw [H1.out] at hc0
  have hB0 := Below.refl w.heap.size w
  clear hN hM hK hK' H1
  generalize hf : (fun k : Nat => exC N S (k : Int) M) = f at *
  clear hf
  go_enter Try.func36, Try.ntmps36
  go_wp2_with fail
  refine (hc0 _).mono ?_; rintro e w1 ⟨rfl, hb1⟩
  clear hc0 hB0
  go_wp2_with fail
  go_loopw [5, 6] (fun x y wr => ∃ k : Nat, x = .int .i64 (maxI f k) ∧ y = .int .i64 k ∧ 1 ≤ k ∧ k ≤ K ∧ Below w.heap.size w wr) (fun _ y _ => K - (intOf y).toNat)
  case atStart => exact ⟨1, rfl, rfl, by omega, by omega, hb1⟩
  case round =>
    obtain ⟨k, rfl, rfl, hk1, hk, hB⟩ := hrel
    by_cases hkm : k < K
    · have hkm' : (k : Int) < K := by omega
      have hcall := HV.out k hkm wr
      have hsu := Lib.hid (HSu.out k)
      generalize max (exC N S (k : Int) M) (-(exC N S (k : Int) M)) = Y at *
      generalize maxI f k = F at *
      obtain ⟨Z, hZ⟩ : ∃ Z, max F Y = Z := ⟨_, rfl⟩
      have hZ' : (if F < Y then Y else F) = Z := by split <;> omega
      rw [hZ] at hsu
      go_wp2_with fail
      refine hcall.mono ?_; rintro e w2 ⟨rfl, hb2⟩
      have hB2 := hB.trans (hb2.mono hB.size)
      clear hb2 hcall hB
      go_wp2_with fail
      go_roundw
      case rel => exact ⟨k + 1, by rw [hsu.out], by go_num, by omega, by omega, hB2⟩
      case measure => simp only [intOf]; omega
    · have hkm' : decide ((k : Int) < K) = false := by simp; omega
      obtain rfl : k = K := by omega
      go_wp2
      go_ret
      exact ⟨rfl, hB⟩

set_option maxHeartbeats 2000000 in
theorem farFromM_any (N S M U : Nat) (hN : tokN N S = true) (hM : M ≤ N) (hU : U ≤ N) (k : Nat) (hk : k < N) (w : World) :
    Calls Try.prog 46 #[.agg #[.int .i64 (N : Int), .int .i64 (S : Int), .int .i64 (M : Int), .int .i64 (U : Int)], .int .i64 k] w fun e w' => e = .returned (.int .i64 (max (devI N S (k : Int) U M) (-(devI N S (k : Int) U M)))) ∧ Below w.heap.size w w' := by
  have hcall := fun w => off_any N S M k U U w hN hM hU hk
  obtain ⟨Y, hY⟩ : ∃ Y, max (devI N S (k : Int) U M) (-(devI N S (k : Int) U M)) = Y := ⟨_, rfl⟩
  rw [hY] at hcall
  rw [hY]
  go_enter Try.func46, Try.ntmps46
  go_wp2_with fail
  refine (hcall _).mono ?_; rintro e w2 ⟨rfl, hb2⟩
  go_wp2
  go_ret
  exact ⟨rfl, (by repeat (first | exact Below.refl _ _ | assumption | (refine Below.trans ?_ (Below.mono (by assumption) (by first | omega | (simp <;> omega)))) | (refine Below.alloc ?_ (by first | omega | (simp <;> omega)) _) | (refine below_drewN ?_ _) | (refine Below.drew ?_) | (refine Below.setCell ?_ (by first | omega | (simp <;> omega)) _)))⟩

set_option maxHeartbeats 2000000 in
theorem farFromO_any (N S M U : Nat) (hN : tokN N S = true) (hM : M ≤ N) (hU : U ≤ N) (w : World) :
    Calls Try.prog 36 #[.int .i64 ((N : Int)), .func (.func 46) #[.agg #[.int .i64 (N : Int), .int .i64 (S : Int), .int .i64 (M : Int), .int .i64 (U : Int)]] #[]] w fun e w' => e = .returned (.int .i64 (maxI (fun k => devI N S (k : Int) U M) (N))) ∧ Below w.heap.size w w' := by
  have HV := Lib.hid (fun (k : Nat) (hk : k < N) w => farFromM_any N S M U hN hM hU k hk w)
  obtain ⟨b1, b2, b3, b4, _⟩ := tokN_bd hN
  have hKb : 1 ≤ N ∧ N ≤ 61 := by omega
  have H1 : Hid (max (devI N S ((0 : Nat) : Int) U M) (-(devI N S ((0 : Nat) : Int) U M)) = maxI (fun k : Nat => devI N S (k : Int) U M) 1) := by
    show _ = max (maxI _ 0) _
    have : ∀ X : Int, max X (-X) = max 0 (max X (-X)) := fun X => by omega
    exact this _
  have HSu : Hid (∀ k, maxI (fun k : Nat => devI N S (k : Int) U M) (k + 1) = max (maxI (fun k : Nat => devI N S (k : Int) U M) k) (max (devI N S (k : Int) U M) (-(devI N S (k : Int) U M)))) := fun k => rfl
  have hc0 := HV.out 0 (by omega)
  rw [H1.out] at hc0
  have hB0 := Below.refl w.heap.size w
  clear hN hM H1
  generalize hf : (fun k : Nat => devI N S (k : Int) U M) = f at *
  clear hf
  go_enter Try.func36, Try.ntmps36
  go_wp2_with fail
  refine (hc0 _).mono ?_; rintro e w1 ⟨rfl, hb1⟩
  clear hc0 hB0
  go_wp2_with fail
  go_loopw [5, 6] (fun x y wr => ∃ k : Nat, x = .int .i64 (maxI f k) ∧ y = .int .i64 k ∧ 1 ≤ k ∧ k ≤ N ∧ Below w.heap.size w wr) (fun _ y _ => N - (intOf y).toNat)
  case atStart => exact ⟨1, rfl, rfl, by omega, by omega, hb1⟩
  case round =>
    obtain ⟨k, rfl, rfl, hk1, hk, hB⟩ := hrel
    by_cases hkm : k < N
    · have hkm' : (k : Int) < N := by omega
      have hcall := HV.out k hkm wr
      have hsu := Lib.hid (HSu.out k)
      generalize max (devI N S (k : Int) U M) (-(devI N S (k : Int) U M)) = Y at *
      generalize maxI f k = F at *
      obtain ⟨Z, hZ⟩ : ∃ Z, max F Y = Z := ⟨_, rfl⟩
      have hZ' : (if F < Y then Y else F) = Z := by split <;> omega
      rw [hZ] at hsu
      go_wp2_with fail
      refine hcall.mono ?_; rintro e w2 ⟨rfl, hb2⟩
      have hB2 := hB.trans (hb2.mono hB.size)
      clear hb2 hcall hB
      go_wp2_with fail
      go_roundw
      case rel => exact ⟨k + 1, by rw [hsu.out], by go_num, by omega, by omega, hB2⟩
      case measure => simp only [intOf]; omega
    · have hkm' : decide ((k : Int) < N) = false := by simp; omega
      obtain rfl : k = N := by omega
      go_wp2
      go_ret
      exact ⟨rfl, hB⟩

set_option maxHeartbeats 1000000 in
theorem maxG_any (g off N cap : Nat) (xs : List Int) (w : World) (h1 : 1 ≤ N) (h8 : N ≤ 60) (hp : ∀ j, j < N → 1 ≤ xs.getD j 0) (HC : Hid (∀ j, j < N → w.cell? ⟨g, off + j, none⟩ = some (.int .i64 (xs.getD j 0)))) :
    Calls Try.prog 50 #[.slice (some ⟨g, off, none⟩) N cap] w fun e w' => e = .returned (.int .i64 (grK xs N)) ∧ w = w' := by
  have c0 := HC.out 0 (by omega)
  rw [Nat.add_zero] at c0
  have hn1 : decide ((N : Int) < 1) = false := by simp; omega
  have hn2 : (0 : Int) < N := by omega
  have HP := Lib.hid hp
  have hp0 := hp 0 (by omega)
  have H1 : Hid (grK xs 1 = xs.getD 0 0) := by
    show grK xs 1 = _
    rw [grK_succ]; show max (-1) _ = _; omega
  have HSu := Lib.hid (fun k => grK_succ xs k)
  generalize xs.getD 0 0 = x0 at *
  clear hp
  go_enter Try.func50, Try.ntmps50
  go_wp2_with fail
  go_loop [3, 4] (fun xm xi => ∃ (k : Nat) (m : Int), xm = .int .i64 m ∧ xi = .int .i64 k ∧ 1 ≤ k ∧ k ≤ N ∧ 1 ≤ m ∧ Hid (grK xs k = m)) (fun _ xi => N - (intOf xi).toNat)
  case atStart => exact ⟨1, x0, rfl, rfl, by omega, by omega, hp0, H1⟩
  case round =>
    obtain ⟨k, m, rfl, rfl, hk1, hk, hm, HM⟩ := hrel
    by_cases hkm : k < N
    · have hkm' : (k : Int) < N := by omega
      have ck := HC.out k hkm
      have hpk := HP.out k hkm
      have ht := HSu.out k
      rw [HM.out] at ht
      generalize xs.getD k 0 = x at *
      obtain ⟨Z, hZ⟩ : ∃ Z, (if m < x then x else m) = Z := ⟨_, rfl⟩
      have hZ1 : 1 ≤ Z := by rw [← hZ]; split <;> omega
      have HM2 : Hid (grK xs (k + 1) = Z) := by
        show _ = _
        rw [ht, ← hZ]
        split <;> (try split) <;> omega
      clear HM ht
      go_wp2_with fail
      go_round
      case rel => exact ⟨k + 1, Z, rfl, by go_num, by omega, by omega, hZ1, HM2⟩
      case measure => simp only [intOf]; omega
    · obtain rfl : k = N := by omega
      have hkm' : decide ((k : Int) < k) = false := by simp
      clear HSu H1 HP HC
      go_wp2
      go_ret
      exact ⟨by rw [HM.out]; rfl, rfl⟩

set_option maxHeartbeats 1000000 in
theorem minG_any (g off N cap : Nat) (xs : List Int) (w : World) (h1 : 1 ≤ N) (h8 : N ≤ 60) (hp : ∀ j, j < N → 1 ≤ xs.getD j 0) (HC : Hid (∀ j, j < N → w.cell? ⟨g, off + j, none⟩ = some (.int .i64 (xs.getD j 0)))) :
    Calls Try.prog 56 #[.slice (some ⟨g, off, none⟩) N cap] w fun e w' => e = .returned (.int .i64 (leK xs N)) ∧ w = w' := by
  have c0 := HC.out 0 (by omega)
  rw [Nat.add_zero] at c0
  have hn1 : decide ((N : Int) < 1) = false := by simp; omega
  have hn2 : (0 : Int) < N := by omega
  have HP := Lib.hid hp
  have hp0 := hp 0 (by omega)
  have H1 : Hid (leK xs 1 = xs.getD 0 0) := by
    show leK xs 1 = _
    rw [leK_succ, if_pos (.inl (by show (-1 : Int) < 0; omega))]
  have HSu := Lib.hid (fun k => leK_succ xs k)
  generalize xs.getD 0 0 = x0 at *
  clear hp
  go_enter Try.func56, Try.ntmps56
  go_wp2_with fail
  go_loop [3, 4] (fun xm xi => ∃ (k : Nat) (m : Int), xm = .int .i64 m ∧ xi = .int .i64 k ∧ 1 ≤ k ∧ k ≤ N ∧ 1 ≤ m ∧ Hid (leK xs k = m)) (fun _ xi => N - (intOf xi).toNat)
  case atStart => exact ⟨1, x0, rfl, rfl, by omega, by omega, hp0, H1⟩
  case round =>
    obtain ⟨k, m, rfl, rfl, hk1, hk, hm, HM⟩ := hrel
    by_cases hkm : k < N
    · have hkm' : (k : Int) < N := by omega
      have ck := HC.out k hkm
      have hpk := HP.out k hkm
      have ht := HSu.out k
      rw [HM.out] at ht
      generalize xs.getD k 0 = x at *
      obtain ⟨Z, hZ⟩ : ∃ Z, (if x < m then x else m) = Z := ⟨_, rfl⟩
      have hZ1 : 1 ≤ Z := by rw [← hZ]; split <;> omega
      have HM2 : Hid (leK xs (k + 1) = Z) := by
        show _ = _
        rw [ht, ← hZ]
        split <;> (try split) <;> omega
      clear HM ht
      go_wp2_with fail
      go_round
      case rel => exact ⟨k + 1, Z, rfl, by go_num, by omega, by omega, hZ1, HM2⟩
      case measure => simp only [intOf]; omega
    · obtain rfl : k = N := by omega
      have hkm' : decide ((k : Int) < k) = false := by simp
      clear HSu H1 HP HC
      go_wp2
      go_ret
      exact ⟨by rw [HM.out]; rfl, rfl⟩

set_option maxHeartbeats 2000000 in
theorem greatestGap_any (n s m : Int) (w : World) :
    Calls Try.prog 23 #[(.agg #[.int .i64 (n), .int .i64 (s)]), .int .i64 m] w fun e w' => e = .returned (.int .i64 (greatF n s m)) ∧ Below w.heap.size w w' := by
  
  have hp := fun w => gapsOf_any n s m w
  have hlen := gapsF_len n s m
  have hpos : ∀ j, j < (gapsF n s m).length → 1 ≤ (gapsF n s m).getD j 0 := by
    intro j hj
    by_cases h : tok n s = true ∧ 1 ≤ m ∧ m ≤ n
    · obtain ⟨M, rfl⟩ := Int.eq_ofNat_of_zero_le (by omega : 0 ≤ m)
      have e := gapsF_yes (n := n) (s := s) (m := M) h.1 (by omega) h.2.2
      have l := gapsT_length n s M
      rw [e] at hj ⊢
      exact (gaps_pos (turns_of h.1) h.2.2 (by omega) 0).1
    · rw [gapsF_no h] at hj
      simp at hj
  unfold greatF
  generalize gapsF n s m = L at hp hlen hpos ⊢
  obtain ⟨K, hK⟩ : ∃ K, L.length = K := ⟨_, rfl⟩
  rw [hK] at hpos ⊢
  have H0 : Hid (grK L 0 = -1) := rfl
  have HK := Lib.hid hK
  rw [hK] at hlen
  clear hK
  go_enter Try.func23, Try.ntmps23
  go_wp2_with fail
  refine (hp _).mono ?_; rintro e w1 ⟨v1, rfl, ho1, hb1⟩
  have hz1 := hb1.size
  try simp at hz1
  have t1 : Two w1 (w.heap.size) (.int .i64 n) (.int .i64 s) 24 := Two.below (by repeat (first | assumption | exact Two.new' _ _ _ _ _ (by simp) | refine Two.alloc ?_ _ | refine Two.drewN ?_ _)) hb1 (by first | omega | (simp <;> omega))
  have hlt1 : (w.heap.size) < w1.heap.size := t1.lt
  have hnt1 : ¬ (w.heap.size) = w1.heap.size := Nat.ne_of_lt hlt1
  have t1c := t1.cell0
  have t1d := t1.cell1
  obtain ⟨a1, cap1, rfl, hcells⟩ := ho1.reads.cells HK.out
  have hB1 : Below w.heap.size w w1 := (by repeat (first | exact Below.refl _ _ | assumption | (refine Below.trans ?_ (Below.mono (by assumption) (by first | omega | (simp <;> omega)))) | (refine Below.alloc ?_ (by first | omega | (simp <;> omega)) _) | (refine below_drewN ?_ _) | (refine Below.drew ?_) | (refine Below.setCell ?_ (by first | omega | (simp <;> omega)) _)))
  clear ho1 hp hb1 t1 t1c t1d
  by_cases hk0 : K = 0
  · have hk1 : ((K : Int) == 0) = true := by simp; omega
    subst hk0
    go_wp2
    go_ret
    exact ⟨by rw [H0.out]; rfl, hB1⟩
  · have hk1 : ((K : Int) == 0) = false := by simp; omega
    obtain ⟨g, off, rfl, HC⟩ := hcells (by omega)
    have hcall := Lib.hid (maxG_any g off K cap1 L w1 (by omega) (by omega) hpos HC)
    clear hcells HC hpos
    go_wp2_with fail
    refine hcall.out.mono ?_; rintro e w2 ⟨rfl, rfl⟩
    go_wp2
    go_ret
    exact ⟨rfl, hB1⟩

set_option maxHeartbeats 2000000 in
theorem leastGap_any (n s m : Int) (w : World) :
    Calls Try.prog 28 #[(.agg #[.int .i64 (n), .int .i64 (s)]), .int .i64 m] w fun e w' => e = .returned (.int .i64 (leastF n s m)) ∧ Below w.heap.size w w' := by
  
  have hp := fun w => gapsOf_any n s m w
  have hlen := gapsF_len n s m
  have hpos : ∀ j, j < (gapsF n s m).length → 1 ≤ (gapsF n s m).getD j 0 := by
    intro j hj
    by_cases h : tok n s = true ∧ 1 ≤ m ∧ m ≤ n
    · obtain ⟨M, rfl⟩ := Int.eq_ofNat_of_zero_le (by omega : 0 ≤ m)
      have e := gapsF_yes (n := n) (s := s) (m := M) h.1 (by omega) h.2.2
      have l := gapsT_length n s M
      rw [e] at hj ⊢
      exact (gaps_pos (turns_of h.1) h.2.2 (by omega) 0).1
    · rw [gapsF_no h] at hj
      simp at hj
  unfold leastF
  generalize gapsF n s m = L at hp hlen hpos ⊢
  obtain ⟨K, hK⟩ : ∃ K, L.length = K := ⟨_, rfl⟩
  rw [hK] at hpos ⊢
  have H0 : Hid (leK L 0 = -1) := rfl
  have HK := Lib.hid hK
  rw [hK] at hlen
  clear hK
  go_enter Try.func28, Try.ntmps28
  go_wp2_with fail
  refine (hp _).mono ?_; rintro e w1 ⟨v1, rfl, ho1, hb1⟩
  have hz1 := hb1.size
  try simp at hz1
  have t1 : Two w1 (w.heap.size) (.int .i64 n) (.int .i64 s) 24 := Two.below (by repeat (first | assumption | exact Two.new' _ _ _ _ _ (by simp) | refine Two.alloc ?_ _ | refine Two.drewN ?_ _)) hb1 (by first | omega | (simp <;> omega))
  have hlt1 : (w.heap.size) < w1.heap.size := t1.lt
  have hnt1 : ¬ (w.heap.size) = w1.heap.size := Nat.ne_of_lt hlt1
  have t1c := t1.cell0
  have t1d := t1.cell1
  obtain ⟨a1, cap1, rfl, hcells⟩ := ho1.reads.cells HK.out
  have hB1 : Below w.heap.size w w1 := (by repeat (first | exact Below.refl _ _ | assumption | (refine Below.trans ?_ (Below.mono (by assumption) (by first | omega | (simp <;> omega)))) | (refine Below.alloc ?_ (by first | omega | (simp <;> omega)) _) | (refine below_drewN ?_ _) | (refine Below.drew ?_) | (refine Below.setCell ?_ (by first | omega | (simp <;> omega)) _)))
  clear ho1 hp hb1 t1 t1c t1d
  by_cases hk0 : K = 0
  · have hk1 : ((K : Int) == 0) = true := by simp; omega
    subst hk0
    go_wp2
    go_ret
    exact ⟨by rw [H0.out]; rfl, hB1⟩
  · have hk1 : ((K : Int) == 0) = false := by simp; omega
    obtain ⟨g, off, rfl, HC⟩ := hcells (by omega)
    have hcall := Lib.hid (minG_any g off K cap1 L w1 (by omega) (by omega) hpos HC)
    clear hcells HC hpos
    go_wp2_with fail
    refine hcall.out.mono ?_; rintro e w2 ⟨rfl, rfl⟩
    go_wp2
    go_ret
    exact ⟨rfl, hB1⟩

set_option maxHeartbeats 2000000 in
theorem farOf_any (n s m : Int) (w : World) :
    Calls Try.prog 12 #[(.agg #[.int .i64 (n), .int .i64 (s)]), .int .i64 m] w fun e w' => e = .returned (.int .i64 (farF n s m)) ∧ Below w.heap.size w w' := by
  
  have hU := fun w => upToSize_any n s m w
  by_cases h : tok n s = true ∧ 0 ≤ m ∧ m ≤ n
  · rw [upF_yes h.1 h.2.1 h.2.2] at hU
    obtain ⟨N, S, rfl, rfl, hN⟩ := tokN_of h.1
    obtain ⟨M, rfl⟩ := Int.eq_ofNat_of_zero_le h.2.1
    have hM : M ≤ N := by omega
    rw [farF_yes hN hM]
    
    have hcall := Lib.hid (fun w => farUpO_any N S M hN hM w)
    obtain ⟨b1, b2, b3, b4, _⟩ := tokN_bd hN
    have hw1 : IntKind.i64.wrap ((N : Int) + 1) = (N : Int) + 1 := IntWalk.i64_in _ (by omega)
    clear h hN
    go_enter Try.func12, Try.ntmps12
    go_wp2_with fail
    refine (hU _).mono ?_; rintro e w1 ⟨rfl, hb1⟩
    have hz1 := hb1.size
    try simp at hz1
    have t1 : Two w1 (w.heap.size) (.int .i64 N) (.int .i64 S) 24 := Two.below (by repeat (first | assumption | exact Two.new' _ _ _ _ _ (by simp) | refine Two.alloc ?_ _ | refine Two.drewN ?_ _)) hb1 (by first | omega | (simp <;> omega))
    have hlt1 : (w.heap.size) < w1.heap.size := t1.lt
    have hnt1 : ¬ (w.heap.size) = w1.heap.size := Nat.ne_of_lt hlt1
    have t1c := t1.cell0
    have t1d := t1.cell1
    have hB1 : Below w.heap.size w w1 := (by repeat (first | exact Below.refl _ _ | assumption | (refine Below.trans ?_ (Below.mono (by assumption) (by first | omega | (simp <;> omega)))) | (refine Below.alloc ?_ (by first | omega | (simp <;> omega)) _) | (refine below_drewN ?_ _) | (refine Below.drew ?_) | (refine Below.setCell ?_ (by first | omega | (simp <;> omega)) _)))
    clear hU hb1
    go_wp2_with fail
    refine (hcall.out _).mono ?_; rintro e w2 ⟨rfl, hb2⟩
    have hB2 := hB1.trans (hb2.mono hB1.size)
    go_wp2
    go_ret
    exact ⟨rfl, hB2⟩
  · rw [upF_no h] at hU
    
    rw [farF_no (fun q => h (by obtain ⟨a, b, c⟩ := farOk_iff.1 q; exact ⟨a, b, c⟩))]
    go_enter Try.func12, Try.ntmps12
    go_wp2_with fail
    refine (hU _).mono ?_; rintro e w1 ⟨rfl, hb1⟩
    have hz1 := hb1.size
    try simp at hz1
    have t1 : Two w1 (w.heap.size) (.int .i64 n) (.int .i64 s) 24 := Two.below (by repeat (first | assumption | exact Two.new' _ _ _ _ _ (by simp) | refine Two.alloc ?_ _ | refine Two.drewN ?_ _)) hb1 (by first | omega | (simp <;> omega))
    have hlt1 : (w.heap.size) < w1.heap.size := t1.lt
    have hnt1 : ¬ (w.heap.size) = w1.heap.size := Nat.ne_of_lt hlt1
    have t1c := t1.cell0
    have t1d := t1.cell1
    go_wp2
    go_ret
    exact ⟨rfl, (by repeat (first | exact Below.refl _ _ | assumption | (refine Below.trans ?_ (Below.mono (by assumption) (by first | omega | (simp <;> omega)))) | (refine Below.alloc ?_ (by first | omega | (simp <;> omega)) _) | (refine below_drewN ?_ _) | (refine Below.drew ?_) | (refine Below.setCell ?_ (by first | omega | (simp <;> omega)) _)))⟩

set_option maxHeartbeats 2000000 in
theorem farFrom_any (n s m u : Int) (w : World) :
    Calls Try.prog 19 #[(.agg #[.int .i64 (n), .int .i64 (s)]), .int .i64 m, .int .i64 u] w fun e w' => e = .returned (.int .i64 (fromFF n s m u)) ∧ Below w.heap.size w w' := by
  
  have hU := fun w => upToSize_any n s m w
  have hV := fun w => upToSize_any n s u w
  by_cases h : tok n s = true ∧ 0 ≤ m ∧ m ≤ n
  · rw [upF_yes h.1 h.2.1 h.2.2] at hU
    by_cases h2 : 0 ≤ u ∧ u ≤ n
    · rw [upF_yes h.1 h2.1 h2.2] at hV
      obtain ⟨N, S, rfl, rfl, hN⟩ := tokN_of h.1
      obtain ⟨M, rfl⟩ := Int.eq_ofNat_of_zero_le h.2.1
      obtain ⟨U, rfl⟩ := Int.eq_ofNat_of_zero_le h2.1
      have hM : M ≤ N := by omega
      have hUN : U ≤ N := by omega
      rw [fromFF_yes hN hM hUN]
      
      have hcall := Lib.hid (fun w => farFromO_any N S M U hN hM hUN w)
      obtain ⟨b1, b2, b3, b4, _⟩ := tokN_bd hN
      clear h h2 hN
      go_enter Try.func19, Try.ntmps19
      go_wp2_with fail
      refine (hU _).mono ?_; rintro e w1 ⟨rfl, hb1⟩
      have hz1 := hb1.size
      try simp at hz1
      have t1 : Two w1 (w.heap.size) (.int .i64 N) (.int .i64 S) 24 := Two.below (by repeat (first | assumption | exact Two.new' _ _ _ _ _ (by simp) | refine Two.alloc ?_ _ | refine Two.drewN ?_ _)) hb1 (by first | omega | (simp <;> omega))
      have hlt1 : (w.heap.size) < w1.heap.size := t1.lt
      have hnt1 : ¬ (w.heap.size) = w1.heap.size := Nat.ne_of_lt hlt1
      have t1c := t1.cell0
      have t1d := t1.cell1
      go_wp2_with fail
      refine (hV _).mono ?_; rintro e w2 ⟨rfl, hb2⟩
      have hz2 := hb2.size
      try simp at hz2
      have t2 : Two w2 (w.heap.size) (.int .i64 N) (.int .i64 S) 24 := Two.below (by repeat (first | assumption | exact Two.new' _ _ _ _ _ (by simp) | refine Two.alloc ?_ _ | refine Two.drewN ?_ _)) hb2 (by first | omega | (simp <;> omega))
      have hlt2 : (w.heap.size) < w2.heap.size := t2.lt
      have hnt2 : ¬ (w.heap.size) = w2.heap.size := Nat.ne_of_lt hlt2
      have t2c := t2.cell0
      have t2d := t2.cell1
      have hB2 : Below w.heap.size w w2 := (by repeat (first | exact Below.refl _ _ | assumption | (refine Below.trans ?_ (Below.mono (by assumption) (by first | omega | (simp <;> omega)))) | (refine Below.alloc ?_ (by first | omega | (simp <;> omega)) _) | (refine below_drewN ?_ _) | (refine Below.drew ?_) | (refine Below.setCell ?_ (by first | omega | (simp <;> omega)) _)))
      clear hU hV hb1 hb2
      go_wp2_with fail
      refine (hcall.out _).mono ?_; rintro e w3 ⟨rfl, hb3⟩
      have hB3 := hB2.trans (hb3.mono hB2.size)
      go_wp2
      go_ret
      exact ⟨rfl, hB3⟩
    · rw [upF_no (fun q => h2 q.2)] at hV
      
      rw [fromFF_no (fun q => h2 q.2)]
      go_enter Try.func19, Try.ntmps19
      go_wp2_with fail
      refine (hU _).mono ?_; rintro e w1 ⟨rfl, hb1⟩
      have hz1 := hb1.size
      try simp at hz1
      have t1 : Two w1 (w.heap.size) (.int .i64 n) (.int .i64 s) 24 := Two.below (by repeat (first | assumption | exact Two.new' _ _ _ _ _ (by simp) | refine Two.alloc ?_ _ | refine Two.drewN ?_ _)) hb1 (by first | omega | (simp <;> omega))
      have hlt1 : (w.heap.size) < w1.heap.size := t1.lt
      have hnt1 : ¬ (w.heap.size) = w1.heap.size := Nat.ne_of_lt hlt1
      have t1c := t1.cell0
      have t1d := t1.cell1
      go_wp2_with fail
      refine (hV _).mono ?_; rintro e w2 ⟨rfl, hb2⟩
      have hz2 := hb2.size
      try simp at hz2
      have t2 : Two w2 (w.heap.size) (.int .i64 n) (.int .i64 s) 24 := Two.below (by repeat (first | assumption | exact Two.new' _ _ _ _ _ (by simp) | refine Two.alloc ?_ _ | refine Two.drewN ?_ _)) hb2 (by first | omega | (simp <;> omega))
      have hlt2 : (w.heap.size) < w2.heap.size := t2.lt
      have hnt2 : ¬ (w.heap.size) = w2.heap.size := Nat.ne_of_lt hlt2
      have t2c := t2.cell0
      have t2d := t2.cell1
      go_wp2
      go_ret
      exact ⟨rfl, (by repeat (first | exact Below.refl _ _ | assumption | (refine Below.trans ?_ (Below.mono (by assumption) (by first | omega | (simp <;> omega)))) | (refine Below.alloc ?_ (by first | omega | (simp <;> omega)) _) | (refine below_drewN ?_ _) | (refine Below.drew ?_) | (refine Below.setCell ?_ (by first | omega | (simp <;> omega)) _)))⟩
  · rw [upF_no h] at hU
    
    rw [fromFF_no (fun q => h (by obtain ⟨a, b, c⟩ := farOk_iff.1 q.1; exact ⟨a, b, c⟩))]
    go_enter Try.func19, Try.ntmps19
    go_wp2_with fail
    refine (hU _).mono ?_; rintro e w1 ⟨rfl, hb1⟩
    have hz1 := hb1.size
    try simp at hz1
    have t1 : Two w1 (w.heap.size) (.int .i64 n) (.int .i64 s) 24 := Two.below (by repeat (first | assumption | exact Two.new' _ _ _ _ _ (by simp) | refine Two.alloc ?_ _ | refine Two.drewN ?_ _)) hb1 (by first | omega | (simp <;> omega))
    have hlt1 : (w.heap.size) < w1.heap.size := t1.lt
    have hnt1 : ¬ (w.heap.size) = w1.heap.size := Nat.ne_of_lt hlt1
    have t1c := t1.cell0
    have t1d := t1.cell1
    go_wp2
    go_ret
    exact ⟨rfl, (by repeat (first | exact Below.refl _ _ | assumption | (refine Below.trans ?_ (Below.mono (by assumption) (by first | omega | (simp <;> omega)))) | (refine Below.alloc ?_ (by first | omega | (simp <;> omega)) _) | (refine below_drewN ?_ _) | (refine Below.drew ?_) | (refine Below.setCell ?_ (by first | omega | (simp <;> omega)) _)))⟩

end Go.Proofs.Ytnpaicdbmmfdhaa
