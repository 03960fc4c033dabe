/- Contract of DrawGapsLong. -/
import Derived.Test.YtppahekbgbbidacDraw6
import Derived.Test.YtppahekbgbbidacGKinds
set_option linter.unusedVariables false
namespace Go.Proofs.Ytppahekbgbbidac
open Go.ChangeShapes Go.WideShapes Go.ChangeAt Go.RowKit Go.Joins

theorem kindsF_bd {n s m : Int} (x : Int) (hx : x ∈ kindsF n s m) : 1 ≤ x ∧ x ≤ 60 := by
  by_cases h : tok n s = true ∧ 1 ≤ m ∧ m ≤ n
  · obtain ⟨ht, h1, hm⟩ := h
    have hb := tok_bd ht
    obtain ⟨m, rfl⟩ := Int.eq_ofNat_of_zero_le (by omega : 0 ≤ m)
    unfold kindsF at hx
    rw [gapsF_yes ht (by omega) hm] at hx
    obtain ⟨j, hj, e⟩ := mem_getD 0 (((kindsL_is (gapsT n s m)).2 _).1 hx)
    rw [gapsT_length] at hj
    have := gaps_pos (turns_of ht) hm hj 0
    omega
  · rw [kindsF_no h] at hx; simp at hx

theorem kind_cells {w w' : World} {r g off K : Nat} {L : List Int} (HC : Hid (∀ j, j < K → w.cell? ⟨g, off + j, none⟩ = some (.int .i64 (L.getD j 0)))) (o : OnlyR r w.drew w') (hg : g ≠ r) :
    ∀ j, j < K → w'.cell? ⟨g, off + j, none⟩ = some (.int .i64 (L.getD j 0)) := fun j hj => by
  have c := HC.out j hj
  exact (o.cells.1 g (off + j) (World.block_lt_of_cell? w _ c) hg).trans c

theorem set_away {w : World} {A g : Nat} (h : ¬ g = A) (o : Nat) (x y : Value) (p q : Nat) : ((w.setCell ⟨A, p, none⟩ x).setCell ⟨A, q, none⟩ y).cell? ⟨g, o, none⟩ = w.cell? ⟨g, o, none⟩ := by
  rw [World.cell?_of_block (w := w.setCell ⟨A, p, none⟩ x) (Below.heap_setCell _ _ _ _ h), World.cell?_of_block (w := w) (Below.heap_setCell _ _ _ _ h)]

end Go.Proofs.Ytppahekbgbbidac
