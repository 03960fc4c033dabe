/- Contracts of chapter 11's functions of the program. -/
import Derived.Test.YtcfhjkaemhhndaaGFar
import Derived.Test.YtcfhjkaemhhndaaSpreadG
import Derived.Test.YtcfhjkaemhhndaaGVisI
import Derived.Test.YtcfhjkaemhhndaaGKinds
import Derived.BigQuiet
import Derived.Deep.RegionHeld3
set_option linter.unusedVariables false
namespace Go.Proofs.Ytcfhjkaemhhndaa

set_option maxRecDepth 4000
open Go.ChangeShapes Go.WideShapes Go.ChangeAt Go.RowKit Go.Joins

/-- a block of four cells: a watch -/
def Four (w : World) (r : Nat) (a b c d : Value) (T : TypeId) : Prop := w.heap[r]? = some (.cells #[a, b, c, d] T (0, 0))

theorem Four.cell0 {w : World} {r : Nat} {a b c d : Value} {T : TypeId} (h : Four w r a b c d T) : w.cell? ⟨r, 0, none⟩ = some a := by unfold Four at h; simp [World.cell?, h]

theorem Four.cell1 {w : World} {r : Nat} {a b c d : Value} {T : TypeId} (h : Four w r a b c d T) : w.cell? ⟨r, 1, none⟩ = some b := by unfold Four at h; simp [World.cell?, h]

theorem Four.cell2 {w : World} {r : Nat} {a b c d : Value} {T : TypeId} (h : Four w r a b c d T) : w.cell? ⟨r, 2, none⟩ = some c := by unfold Four at h; simp [World.cell?, h]

theorem Four.cell3 {w : World} {r : Nat} {a b c d : Value} {T : TypeId} (h : Four w r a b c d T) : w.cell? ⟨r, 3, none⟩ = some d := by unfold Four at h; simp [World.cell?, h]

theorem Four.lt {w : World} {r : Nat} {a b c d : Value} {T : TypeId} (h : Four w r a b c d T) : r < w.heap.size := by unfold Four at h; exact (Array.getElem?_eq_some_iff.1 h).1

theorem Four.new (w : World) (a b c d : Value) (T : TypeId) : Four (w.alloc (.cells #[a, b, c, d] T)) w.heap.size a b c d T := heap_alloc_new w _

theorem Four.below {w w' : World} {g B : Nat} {a b c d : Value} {T : TypeId} (h : Four w g a b c d T) (hb : Below B w w') (hg : g < B) : Four w' g a b c d T := by unfold Four at *; rw [hb.block g hg]; exact h

theorem Four.drewS {w : World} {g : Nat} {a b c d : Value} {T : TypeId} (h : Four w g a b c d T) : Four w.drew g a b c d T := h

set_option maxHeartbeats 1000000 in
theorem minG_any (g off N cap : Nat) (xs : List Int) (w : World) (h1 : 1 ≤ N) (h8 : N ≤ 60) (hp : ∀ j, j < N → 1 ≤ xs.getD j 0) (HC : Hid (∀ j, j < N → w.cell? ⟨g, off + j, none⟩ = some (.int .i64 (xs.getD j 0)))) :
    Calls Try.prog 58 #[.slice (some ⟨g, off, none⟩) N cap] w fun e w' => e = .returned (.int .i64 (leK xs N)) ∧ w = w' := by
  have c0 := HC.out 0 (by omega)
  rw [Nat.add_zero] at c0
  have hn1 : decide ((N : Int) < 1) = false := by simp; omega
  have hn2 : (0 : Int) < N := by omega
  have HP := Lib.hid hp
  have hp0 := hp 0 (by omega)
  have H1 : Hid (leK xs 1 = xs.getD 0 0) := by
    show leK xs 1 = _
    rw [leK_succ, if_pos (.inl (by show (-1 : Int) < 0; omega))]
  have HSu := Lib.hid (fun k => leK_succ xs k)
  generalize xs.getD 0 0 = x0 at *
  clear hp
  go_enter Try.func58, Try.ntmps58
  go_wp2_with fail
  go_loop [3, 4] (fun xm xi => ∃ (k : Nat) (m : Int), xm = .int .i64 m ∧ xi = .int .i64 k ∧ 1 ≤ k ∧ k ≤ N ∧ 1 ≤ m ∧ Hid (leK xs k = m)) (fun _ xi => N - (intOf xi).toNat)
  case atStart => exact ⟨1, x0, rfl, rfl, by omega, by omega, hp0, H1⟩
  case round =>
    obtain ⟨k, m, rfl, rfl, hk1, hk, hm, HM⟩ := hrel
    by_cases hkm : k < N
    · have hkm' : (k : Int) < N := by omega
      have ck := HC.out k hkm
      have hpk := HP.out k hkm
      have ht := HSu.out k
      rw [HM.out] at ht
      generalize xs.getD k 0 = x at *
      obtain ⟨Z, hZ⟩ : ∃ Z, (if x < m then x else m) = Z := ⟨_, rfl⟩
      have hZ1 : 1 ≤ Z := by rw [← hZ]; split <;> omega
      have HM2 : Hid (leK xs (k + 1) = Z) := by
        show _ = _
        rw [ht, ← hZ]
        split <;> (try split) <;> omega
      clear HM ht
      go_wp2_with fail
      go_round
      case rel => exact ⟨k + 1, Z, rfl, by go_num, by omega, by omega, hZ1, HM2⟩
      case measure => simp only [intOf]; omega
    · obtain rfl : k = N := by omega
      have hkm' : decide ((k : Int) < k) = false := by simp
      clear HSu H1 HP HC
      go_wp2
      go_ret
      exact ⟨by rw [HM.out]; rfl, rfl⟩

set_option maxHeartbeats 2000000 in
theorem leastGap_any (n s m : Int) (w : World) :
    Calls Try.prog 30 #[(.agg #[.int .i64 (n), .int .i64 (s)]), .int .i64 m] w fun e w' => e = .returned (.int .i64 (leastF n s m)) ∧ Below w.heap.size w w' := by
  
  have hp := fun w => gapsOf_any n s m w
  have hlen := gapsF_len n s m
  have hpos : ∀ j, j < (gapsF n s m).length → 1 ≤ (gapsF n s m).getD j 0 := by
    intro j hj
    by_cases h : tok n s = true ∧ 1 ≤ m ∧ m ≤ n
    · obtain ⟨M, rfl⟩ := Int.eq_ofNat_of_zero_le (by omega : 0 ≤ m)
      have e := gapsF_yes (n := n) (s := s) (m := M) h.1 (by omega) h.2.2
      have l := gapsT_length n s M
      rw [e] at hj ⊢
      exact (gaps_pos (turns_of h.1) h.2.2 (by omega) 0).1
    · rw [gapsF_no h] at hj
      simp at hj
  unfold leastF
  generalize gapsF n s m = L at hp hlen hpos ⊢
  obtain ⟨K, hK⟩ : ∃ K, L.length = K := ⟨_, rfl⟩
  rw [hK] at hpos ⊢
  have H0 : Hid (leK L 0 = -1) := rfl
  have HK := Lib.hid hK
  rw [hK] at hlen
  clear hK
  go_enter Try.func30, Try.ntmps30
  go_wp2_with fail
  refine (hp _).mono ?_; rintro e w1 ⟨v1, rfl, ho1, hb1⟩
  have hz1 := hb1.size
  try simp at hz1
  have t1 : Two w1 (w.heap.size) (.int .i64 n) (.int .i64 s) 24 := Two.below (by repeat (first | assumption | exact Two.new' _ _ _ _ _ (by simp) | refine Two.alloc ?_ _ | refine Two.drewN ?_ _)) hb1 (by first | omega | (simp <;> omega))
  have hlt1 : (w.heap.size) < w1.heap.size := t1.lt
  have hnt1 : ¬ (w.heap.size) = w1.heap.size := Nat.ne_of_lt hlt1
  have t1c := t1.cell0
  have t1d := t1.cell1
  obtain ⟨a1, cap1, rfl, hcells⟩ := ho1.reads.cells HK.out
  have hB1 : Below w.heap.size w w1 := (by repeat (first | exact Below.refl _ _ | assumption | (refine Below.trans ?_ (Below.mono (by assumption) (by first | omega | (simp <;> omega)))) | (refine Below.alloc ?_ (by first | omega | (simp <;> omega)) _) | (refine below_drewN ?_ _) | (refine Below.drew ?_) | (refine Below.setCell ?_ (by first | omega | (simp <;> omega)) _)))
  clear ho1 hp hb1 t1 t1c t1d
  by_cases hk0 : K = 0
  · have hk1 : ((K : Int) == 0) = true := by simp; omega
    subst hk0
    go_wp2
    go_ret
    exact ⟨by rw [H0.out]; rfl, hB1⟩
  · have hk1 : ((K : Int) == 0) = false := by simp; omega
    obtain ⟨g, off, rfl, HC⟩ := hcells (by omega)
    have hcall := Lib.hid (minG_any g off K cap1 L w1 (by omega) (by omega) hpos HC)
    clear hcells HC hpos
    go_wp2_with fail
    refine hcall.out.mono ?_; rintro e w2 ⟨rfl, rfl⟩
    go_wp2
    go_ret
    exact ⟨rfl, hB1⟩

end Go.Proofs.Ytcfhjkaemhhndaa
