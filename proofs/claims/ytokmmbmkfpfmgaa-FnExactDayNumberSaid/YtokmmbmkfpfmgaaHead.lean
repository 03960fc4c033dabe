/- Closed facts on the program that every law's row needs. -/
import Derived.Test.YtokmmbmkfpfmgaaGKit
import Derived.ProofKit
import Derived.OpenShut
import Derived.ShutString
import Derived.ChangeOld
import Derived.Lib.SmallJoins
namespace Go.Proofs.Ytokmmbmkfpfmgaa
set_option maxRecDepth 4000
open Go.ChangeShapes Go.WideShapes Go.ChangeAt Go.RowKit Go.Joins

/-! the line that says how the program starts, as numbers, and its first words: the kernel reads a long text slowly -/

def init0 : List Char := ([104, 97, 114, 110, 101, 115, 115] : List Nat).map Char.ofNat

def init1 : List Char := ([55, 53, 54, 54, 56, 56, 55, 51, 102, 98, 100, 102, 50, 53, 54, 51, 55, 48, 100, 49, 50, 53, 49, 49, 99, 99, 51, 53, 49, 50, 50, 50, 57, 100, 48, 98, 100, 49, 48, 51, 100, 57, 48, 56, 101, 57, 99, 55, 56, 100, 53, 57, 100, 101, 52, 97, 97, 57, 48, 51, 102, 51, 98, 56] : List Nat).map Char.ofNat

def init2 : List Char := ([99, 117, 116] : List Nat).map Char.ofNat

def init3 : List Char := ([97, 116, 32, 108, 111, 111, 112, 46, 101, 120, 97, 109, 112, 108, 101, 47, 114, 111, 117, 110, 100, 116, 117, 114, 110, 115, 47, 108, 97, 119, 115, 46, 70, 110, 76, 111, 110, 103, 89, 101, 97, 114, 32, 108, 111, 111, 112, 46, 101, 120, 97, 109, 112, 108, 101, 47, 114, 111, 117, 110, 100, 116, 117, 114, 110, 115, 47, 108, 97, 119, 115, 46, 70, 110, 76, 111, 110, 103, 66, 101, 102, 111, 114, 101, 32, 108, 111, 111, 112, 46, 101, 120, 97, 109, 112, 108, 101, 47, 114, 111, 117, 110, 100, 116, 117, 114, 110, 115, 47, 108, 97, 119, 115, 46, 70, 110, 68, 97, 121, 115, 66, 101, 102, 111, 114, 101, 32, 108, 111, 111, 112, 46, 101, 120, 97, 109, 112, 108, 101, 47, 114, 111, 117, 110, 100, 116, 117, 114, 110, 115, 47, 108, 97, 119, 115, 46, 70, 110, 68, 97, 121, 78, 117, 109, 98, 101, 114, 32, 108, 111, 111, 112, 46, 101, 120, 97, 109, 112, 108, 101, 47, 114, 111, 117, 110, 100, 116, 117, 114, 110, 115, 47, 108, 97, 119, 115, 46, 70, 110, 68, 97, 116, 101, 79, 102, 32, 108, 111, 111, 112, 46, 101, 120, 97, 109, 112, 108, 101, 47, 114, 111, 117, 110, 100, 116, 117, 114, 110, 115, 47, 108, 97, 119, 115, 46, 70, 110, 68, 114, 105, 102, 116, 79, 102, 32, 108, 111, 111, 112, 46, 101, 120, 97, 109, 112, 108, 101, 47, 114, 111, 117, 110, 100, 116, 117, 114, 110, 115, 47, 108, 97, 119, 115, 46, 70, 110, 69, 120, 97, 99, 116, 76, 111, 110, 103, 89, 101, 97, 114, 32, 108, 111, 111, 112, 46, 101, 120, 97, 109, 112, 108, 101, 47, 114, 111, 117, 110, 100, 116, 117, 114, 110, 115, 47, 108, 97, 119, 115, 46, 70, 110, 69, 120, 97, 99, 116, 76, 111, 110, 103, 66, 101, 102, 111, 114, 101, 32, 108, 111, 111, 112, 46, 101, 120, 97, 109, 112, 108, 101, 47, 114, 111, 117, 110, 100, 116, 117, 114, 110, 115, 47, 108, 97, 119, 115, 46, 70, 110, 69, 120, 97, 99, 116, 68, 97, 121, 115, 66, 101, 102, 111, 114, 101, 32, 108, 111, 111, 112, 46, 101, 120, 97, 109, 112, 108, 101, 47, 114, 111, 117, 110, 100, 116, 117, 114, 110, 115, 47, 108, 97, 119, 115, 46, 70, 110, 69, 120, 97, 99, 116, 68, 97, 121, 78, 117, 109, 98, 101, 114, 32, 108, 111, 111, 112, 46, 101, 120, 97, 109, 112, 108, 101, 47, 114, 111, 117, 110, 100, 116, 117, 114, 110, 115, 47, 108, 97, 119, 115, 46, 70, 110, 69, 120, 97, 99, 116, 68, 97, 116, 101, 79, 102, 32, 108, 111, 111, 112, 46, 101, 120, 97, 109, 112, 108, 101, 47, 114, 111, 117, 110, 100, 116, 117, 114, 110, 115, 47, 108, 97, 119, 115, 46, 70, 110, 69, 120, 97, 99, 116, 68, 114, 105, 102, 116, 79, 102] : List Nat).map Char.ofNat

def spaceSign : Char := Char.ofNat 32

theorem init_eq : Try.pinned.checked.prog.initOrder = String.ofList (init0 ++ spaceSign :: (init1 ++ spaceSign :: (init2 ++ spaceSign :: init3))) := by kernel_rfl

theorem words_space (r : List Char) : wordsSigns (spaceSign :: r) = [] :: wordsSigns r := rfl

theorem words_sign {c : Char} {r w : List Char} {ws : List (List Char)} (h : c ≠ spaceSign) (hr : wordsSigns r = w :: ws) : wordsSigns (c :: r) = (c :: w) :: ws := by
  rw [wordsSigns, hr]
  exact fun e => h e

theorem words_word (w r : List Char) (h : (w.all fun c => c != spaceSign) = true) : wordsSigns (w ++ spaceSign :: r) = w :: wordsSigns r := by
  induction w with
  | nil => exact words_space r
  | cons c w ih =>
    rw [List.all_cons, Bool.and_eq_true] at h
    exact words_sign (by simpa using h.1) (ih h.2)

theorem sum1 : isSumSigns init1 = true := by kernel_rfl

theorem word_is (l : List Char) (s : String) (h : s = String.ofList l) : s.toList = l := by rw [h, String.toList_ofList]

theorem word_not (l : List Char) (s : String) (h : String.ofList l ≠ s) : l ≠ s.toList := fun e => h (by rw [e, String.ofList_toList])

theorem head0 : "harness".toList = init0 := word_is _ _ (by kernel_rfl)

theorem head2 : "cut".toList = init2 := word_is _ _ (by kernel_rfl)

theorem cut_is : String.ofList init2 = "cut" := by kernel_rfl

theorem words_eq : behindMainWord (wordsSigns Try.pinned.checked.prog.initOrder.toList) = init2 :: wordsSigns init3 := by
  rw [init_eq, String.toList_ofList, words_word init0 _ (by kernel_rfl), words_word init1 _ (by kernel_rfl), words_word init2 _ (by kernel_rfl)]
  unfold behindMainWord
  dsimp only
  rw [head0, sum1, beq_self_eq_true, Bool.true_or, Bool.true_and, if_pos rfl]

theorem not_carried : (init2 == "carried".toList) = false := by
  rw [beq_eq_false_iff_ne]; exact word_not _ _ (by rw [cut_is]; decide)

theorem is_cut : (init2 == "cut".toList) = true := by rw [head2]; exact beq_self_eq_true _

theorem not_gc : (init2 == "gc".toList) = false := by
  rw [beq_eq_false_iff_ne]; exact word_not _ _ (by rw [cut_is]; decide)

theorem not_spec : (init2 == "spec".toList) = false := by
  rw [beq_eq_false_iff_ne]; exact word_not _ _ (by rw [cut_is]; decide)

theorem strip_none (os : List String) (c : List Char) (R : List (List Char)) (h : ∀ o ∈ os, c ≠ o.toList) : stripLifts os (c :: R) = ([], c :: R) := by
  induction os with
  | nil => rfl
  | cons o os ih =>
    rw [stripLifts, if_neg (by simpa using h o List.mem_cons_self), ih fun o ho => h o (List.mem_cons_of_mem _ ho)]

theorem strip_cut (R : List (List Char)) : stripLifts liftWords (init2 :: R) = ([], init2 :: R) :=
  strip_none _ _ _ fun o ho => word_not _ _ fun e => by
    rw [cut_is] at e
    subst e
    revert ho
    unfold liftWords
    simp
/-! the same of any program, so that nothing is computed -/

theorem lifts_of {P : Program} {c : List Char} {R : List (List Char)} (hw : behindMainWord (wordsSigns P.initOrder.toList) = c :: R) (hs : stripLifts liftWords (c :: R) = ([], c :: R)) : P.headLifts = [] := by
  unfold Program.headLifts
  rw [hw, hs]
  simp

theorem liftsFinal_of {P : Program} {c : List Char} {R : List (List Char)} (hw : behindMainWord (wordsSigns P.initOrder.toList) = c :: R) (hs : stripLifts liftWords (c :: R) = ([], c :: R))
    (h : (c == "carried".toList) = false) : P.liftsFinal = false := by
  unfold Program.liftsFinal
  rw [lifts_of hw hs, hw]
  simp only [List.head?_cons, Option.some_beq_some, h, Bool.false_and, Bool.false_or, List.contains_nil]

theorem make_of {P : Program} {c : List Char} {R : List (List Char)} (hw : behindMainWord (wordsSigns P.initOrder.toList) = c :: R)
    (h1 : (c == "gc".toList) = false) (h2 : (c == "spec".toList) = false) (h3 : (c == "cut".toList) = true) : P.make = some .cut := by
  unfold Program.make
  rw [hw]
  simp only [h1, h2, h3, Bool.or_self, Bool.true_or, Bool.false_eq_true, if_false, if_true]

theorem mayEnter_of {P : Program} {c : List Char} {R : List (List Char)} (hw : behindMainWord (wordsSigns P.initOrder.toList) = c :: R) (hs : stripLifts liftWords (c :: R) = ([], c :: R))
    (h3 : (c == "cut".toList) = true) (hl : P.laysLater = false) (hr : P.bearsReflect = false) (hd : P.doorFits [] = true) : P.mayEnter = true := by
  unfold Program.mayEnter
  rw [hw]
  simp only [hs, hl, hr, hd, List.head?_cons, Option.some_beq_some, h3, Bool.not_false, Bool.or_true, Bool.and_true, List.contains_nil]

theorem later_eq : Try.pinned.checked.prog.laysLater = false := by kernel_rfl

theorem reflect_eq : Try.pinned.checked.prog.bearsReflect = false := by kernel_rfl

theorem door_eq : Try.pinned.checked.prog.doorFits [] = true := by kernel_rfl

theorem liftsFinal_eq : Try.pinned.checked.prog.liftsFinal = false := liftsFinal_of words_eq (strip_cut _) not_carried

theorem make_eq : Try.pinned.checked.prog.make = some .cut := make_of words_eq not_gc not_spec is_cut

theorem mayEnter_eq : Try.pinned.checked.prog.mayEnter = true := mayEnter_of words_eq (strip_cut _) is_cut later_eq reflect_eq door_eq
end Go.Proofs.Ytokmmbmkfpfmgaa
