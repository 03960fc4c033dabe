/- Contract of the model's CodeOk, and how often a text has 1, byte by byte. Contract of the model's BalancedOk. -/
import Derived.Test.YtcfhjkaemhhndaaDoorGCodeI
set_option linter.unusedVariables false
namespace Go.Proofs.YtcfhjkaemhhndaaDoor

set_option maxRecDepth 4000
open Go.ChangeShapes Go.WideShapes Go.ChangeAt Go.RowKit Go.Joins

/-- the bytes ahead of a place are 0 and 1 alone -/
def AllB (u : ByteArray) (k : Nat) : Prop := ∀ i (h : i < u.size), i < k → u[i] = 48 ∨ u[i] = 49

theorem AllB.next {u : ByteArray} {k : Nat} (h : AllB u k) (hk : k < u.size) (e : u[k] = 48 ∨ u[k] = 49) : AllB u (k + 1) := by
  intro i hi hik
  by_cases c : i = k
  · subst c; exact e
  · exact h i hi (by omega)

def CodeP (u : ByteArray) : Prop := u.size ≤ 60 ∧ AllB u u.size

theorem u8_nat {c : UInt8} {n : Nat} (h : (c.toNat : Int) = n) (hn : n < 256) : c = UInt8.ofNat n := by
  apply UInt8.toNat_inj.1
  rw [UInt8.toNat_ofNat']
  omega

theorem u8_48 {c : UInt8} (h : (c.toNat : Int) = 48) : c = 48 := u8_nat (n := 48) h (by omega)

theorem u8_49 {c : UInt8} (h : (c.toNat : Int) = 49) : c = 49 := u8_nat (n := 49) h (by omega)

theorem mem_bytes {u : ByteArray} {c : UInt8} : c ∈ u.toList ↔ ∃ i, ∃ h : i < u.size, u[i] = c := by
  rw [ByteArray.toList_eq, Array.mem_toList_iff, Array.mem_iff_getElem]
  rfl

theorem AllB.txt {u : ByteArray} (h : AllB u u.size) : txtB (bitsOf u) = u := by
  apply txt_bits
  intro c hc
  obtain ⟨i, hi, rfl⟩ := mem_bytes.1 hc
  exact h i hi hi

theorem AllB.of_txt (u : List Bool) (k : Nat) : AllB (txtB u) k := by
  intro i hi _
  rw [txtB_get hi]
  cases u.getD i false
  · exact .inl rfl
  · exact .inr rfl

theorem codeP_txt {u : List Bool} (h : u.length ≤ 60) : CodeP (txtB u) := ⟨by rw [txtB_size]; exact h, AllB.of_txt u _⟩

theorem codeP_bits {u : ByteArray} (h : CodeP u) : ∃ v : List Bool, v.length ≤ 60 ∧ txtB v = u := by
  refine ⟨bitsOf u, ?_, h.2.txt⟩
  have e := congrArg ByteArray.size h.2.txt
  rw [txtB_size] at e
  rw [e]
  exact h.1

def OkPost (u : ByteArray) (e : Ending) : Prop := ∃ c : Bool, e = .returned (.bool c) ∧ (c = true ↔ CodeP u)

/-- how often 1 comes ahead of a place -/
def onesB (u : ByteArray) (k : Nat) : Nat := (u.toList.take k).count 49

theorem onesB_all (u : ByteArray) : onesB u u.size = Lib.countByte u.data.toList 49 := by
  unfold onesB Lib.countByte
  rw [ByteArray.toList_eq, List.take_of_length_le (by rw [Array.length_toList]; exact Nat.le_refl _)]

theorem onesB_le (u : ByteArray) (k : Nat) : onesB u k ≤ k := by
  unfold onesB
  have h1 := List.count_le_length (a := (49 : UInt8)) (l := u.toList.take k)
  have h2 := List.length_take_le k u.toList
  omega

theorem onesB_succ {u : ByteArray} {k : Nat} (h : k < u.size) : onesB u (k + 1) = onesB u k + if u[k] = 49 then 1 else 0 := by
  unfold onesB
  have hl : k < u.toList.length := by rw [ByteArray.toList_eq, Array.length_toList]; exact h
  have e : u.toList[k]'hl = u[k] := by
    have : ∀ (l : List UInt8) (hl : k < l.length), l = u.data.toList → l[k] = u[k] := by
      intro l hl e; subst e; rfl
    exact this _ hl (ByteArray.toList_eq ..)
  rw [List.take_add_one, List.getElem?_eq_getElem hl, e, Option.toList_some, List.count_append, List.count_singleton]
  simp
end Go.Proofs.YtcfhjkaemhhndaaDoor

set_option linter.unusedVariables false
namespace Go.Proofs.YtcfhjkaemhhndaaDoor

set_option maxRecDepth 4000
open Go.ChangeShapes Go.WideShapes Go.ChangeAt Go.RowKit Go.Joins

def BalP (u : ByteArray) : Prop := ∃ v : List Bool, v.length ≤ 60 ∧ txtB v = u ∧ Bal v

theorem balP_code {u : ByteArray} (h : BalP u) : CodeP u := by
  obtain ⟨v, hv, rfl, _⟩ := h
  exact codeP_txt hv

theorem txtB_inj' {u v : List Bool} (h : txtB u = txtB v) : u = v := by
  have := congrArg bitsOf h
  rwa [bits_txt, bits_txt] at this

theorem balP_txt {v : List Bool} (hv : v.length ≤ 60) : BalP (txtB v) ↔ Bal v := by
  constructor
  · rintro ⟨u, _, e, h⟩
    rwa [txtB_inj' e] at h
  · intro h
    exact ⟨v, hv, rfl, h⟩

def BalPost (u : ByteArray) (e : Ending) : Prop := ∃ c : Bool, e = .returned (.bool c) ∧ (c = true ↔ BalP u)

theorem winO_zero (v : List Bool) (i : Nat) : winO v i 0 = 0 := by unfold winO; simp

theorem winO_succ {v : List Bool} {i j : Nat} (h : i + j < v.length) : winO v i (j + 1) = winO v i j + (v.getD (i + j) false).toNat := by
  unfold winO
  rw [List.take_add_one, List.getElem?_drop, List.getElem?_eq_getElem h, List.count_append, List.getD_eq_getElem?_getD, List.getElem?_eq_getElem h]
  cases v[i + j] <;> rfl

/-- all shorter lengths are even -/
def EvenTo (v : List Bool) (l : Nat) : Prop := ∀ k, 1 ≤ k → k < l → mostW v k (v.length + 1 - k) ≤ leastW v k (v.length + 1 - k) + 1

theorem EvenTo.next {v : List Bool} {l : Nat} (h : EvenTo v l) (e : mostW v l (v.length + 1 - l) ≤ leastW v l (v.length + 1 - l) + 1) : EvenTo v (l + 1) := by
  intro k h1 h2
  by_cases c : k = l
  · subst c; exact e
  · exact h k h1 (by omega)

theorem EvenTo.bal {v : List Bool} {l : Nat} (h : EvenTo v l) (hl : v.length < l) : Bal v := (bal_iff v).2 fun k h1 h2 => h k h1 (by omega)

end Go.Proofs.YtcfhjkaemhhndaaDoor
