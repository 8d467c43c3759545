/- The best test: the pure part. -/
import Derived.Test.YtoigafjocckepaaSw0
namespace Go.Proofs.Ytoigafjocckepaa
open Go.ChangeShapes Go.WideShapes Go.ChangeAt Go.RowKit
set_option linter.unusedVariables false


theorem mt_comm (a b : Nat) : mtB a b = mtB b a := by unfold mtB; rw [Nat.and_comm]
/-- The greater number of lists with one of both results. -/
def mxc (M : List Nat) (y : Nat) : Nat := max (cm M y M.length) (M.length - cm M y M.length)
/-- The best test among the first k behind the empty one, by its place, and its number. -/
def bst (M T : List Nat) : Nat → Nat × Nat | 0 => (0, M.length + 1) | k + 1 => if mxc M (wa T (k + 1)) < (bst M T k).2 then (k + 1, mxc M (wa T (k + 1))) else bst M T k
theorem bst_yes {M T : List Nat} {k : Nat} (h : mxc M (wa T (k + 1)) < (bst M T k).2) : bst M T (k + 1) = (k + 1, mxc M (wa T (k + 1))) := by simp only [bst]; rw [if_pos h]
theorem bst_no {M T : List Nat} {k : Nat} (h : ¬ mxc M (wa T (k + 1)) < (bst M T k).2) : bst M T (k + 1) = bst M T k := by simp only [bst]; rw [if_neg h]
theorem bst_le (M T : List Nat) (k : Nat) : (bst M T k).1 ≤ k ∧ (bst M T k).2 ≤ M.length + 1 := by
  induction k with
  | zero => exact ⟨Nat.le_refl _, Nat.le_refl _⟩
  | succ k ih =>
    by_cases h : mxc M (wa T (k + 1)) < (bst M T k).2
    · rw [bst_yes h]; exact ⟨Nat.le_refl _, by omega⟩
    · rw [bst_no h]; omega
def bsI (f : Nat) (M : List Nat) : Nat := (bst M (la f f) ((la f f).length - 1)).1
def bsN (f : Nat) (M : List Nat) : Nat := (bst M (la f f) ((la f f).length - 1)).2
def btR (f : Int) (L : List (List Int)) (s : ByteArray) (m : Int) : List Int := if swB f L s m then row (wL f.toNat f.toNat) (bsI f.toNat (ftR f L s m)) else []
def btN (f : Int) (L : List (List Int)) (s : ByteArray) (m : Int) : Int := if swB f L s m then ((bsN f.toNat (ftR f L s m) : Nat) : Int) else 0
theorem la_pos (f m : Nat) : 0 < (la f m).length := by
  induction m with
  | zero => simp [la]
  | succ m ih => show 0 < (la f m ++ lm f (m + 1)).length; rw [List.length_append]; omega
theorem bsI_lt (f : Nat) (M : List Nat) : bsI f M < (la f f).length := by
  unfold bsI
  have := (bst_le M (la f f) ((la f f).length - 1)).1
  have h := la_pos f f
  omega
theorem btR_len (f : Int) (L : List (List Int)) (s : ByteArray) (m : Int) : (btR f L s m).length ≤ 1000 := by
  unfold btR; split
  · rename_i h
    have ha : askB f L s m = true := by simp only [swB, Bool.and_eq_true] at h; exact h.1
    have h1 := ask_parts ha
    have h2 := wi_parts h1.1
    have h3 := bsI_lt f.toNat (ftR f L s m)
    rw [la_lenw (by omega)] at h3
    have h4 := ris_len (by omega) (wL_row f.toNat h3)
    omega
  · simp
theorem la_two (f : Nat) (hf1 : 1 ≤ f) (hf : f ≤ 10) : 2 ≤ (la f f).length := by
  have key : ∀ m, 1 ≤ m → 2 ≤ (la f m).length := by
    intro m
    induction m with
    | zero => intro h; omega
    | succ m ih =>
      intro _
      show 2 ≤ (la f m ++ lm f (m + 1)).length
      rw [List.length_append]
      by_cases h1 : 1 ≤ m
      · have := ih h1; omega
      · obtain rfl : m = 0 := by omega
        have e0 : e16 0 = 0 := by decide +kernel
        have : (lm f 1).length = f := by
          show ((lm f 0).flatMap (lgr f)).length = f
          simp [lm, lgr, e0]
        have h2 := la_pos f 0
        rw [show 0 + 1 = 1 from rfl, this]; omega
  exact key f hf1

end Go.Proofs.Ytoigafjocckepaa
