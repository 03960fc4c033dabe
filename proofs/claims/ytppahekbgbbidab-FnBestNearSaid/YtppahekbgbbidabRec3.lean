/- Plain numbers: between near times none is nearer, for all turns, one by one. -/
import Derived.Test.YtppahekbgbbidabGRec
set_option linter.unusedVariables false
namespace Go.Proofs.Ytppahekbgbbidab

theorem chkBest_0 : ((List.range 31).all fun n => (List.range n).all fun s => !tokN n s || chkBest n s) = true := by decide +kernel

theorem chkBest_1 : (((List.range 10).map (· + 31)).all fun n => (List.range n).all fun s => !tokN n s || chkBest n s) = true := by decide +kernel

theorem chkBest_2 : (((List.range 10).map (· + 41)).all fun n => (List.range n).all fun s => !tokN n s || chkBest n s) = true := by decide +kernel

theorem chkBest_3 : (((List.range 10).map (· + 51)).all fun n => (List.range n).all fun s => !tokN n s || chkBest n s) = true := by decide +kernel

theorem chkBest_all : ((List.range 61).all fun n => (List.range n).all fun s => !tokN n s || chkBest n s) = true := by
  rw [List.all_eq_true]
  intro n hn
  simp at hn
  by_cases h0 : n < 31
  · exact List.all_eq_true.1 chkBest_0 n (by simp; omega)
  · by_cases h1 : n < 41
    · exact List.all_eq_true.1 chkBest_1 n (by simp; exact ⟨n - 31, by omega, by omega⟩)
    · by_cases h2 : n < 51
      · exact List.all_eq_true.1 chkBest_2 n (by simp; exact ⟨n - 41, by omega, by omega⟩)
      · exact List.all_eq_true.1 chkBest_3 n (by simp; exact ⟨n - 51, by omega, by omega⟩)
end Go.Proofs.Ytppahekbgbbidab
