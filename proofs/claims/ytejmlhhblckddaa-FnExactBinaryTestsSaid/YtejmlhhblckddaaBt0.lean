/- Tests for the binary digits: the pure part. -/
import Derived.Test.YtejmlhhblckddaaFw
namespace Go.Proofs.Ytejmlhhblckddaa
open Go.ChangeShapes Go.WideShapes Go.ChangeAt Go.RowKit
set_option linter.unusedVariables false


theorem and_one (y : Nat) (hy : y < 1024) : bits BinOp.and IntKind.i64 (y : Int) 1 = ((y % 2 : Nat) : Int) := by
  have hx2 : y &&& 1 < 2 ^ 10 := Nat.and_lt_two_pow (n := 10) _ (by decide)
  have h1 : (BitVec.ofInt 64 (y : Int)).toNat = y := by
    rw [BitVec.ofInt_natCast, BitVec.toNat_ofNat]; exact Nat.mod_eq_of_lt (by omega)
  have h2 : (BitVec.ofInt 64 (1 : Int)).toNat = 1 := rfl
  show IntKind.i64.wrap ((BitVec.ofInt 64 (y : Int) &&& BitVec.ofInt 64 (1 : Int)).toNat : Int) = _
  rw [BitVec.toNat_and, h1, h2, IntKind.wrap_i64, Nat.and_one_is_mod]
  omega

theorem digit_test (x k : Nat) (hx : x < 1024) : (bits BinOp.and IntKind.i64 ((x : Int) / 2 ^ k) 1 == 1) = x.testBit k := by
  have e : (x : Int) / 2 ^ k = ((x / 2 ^ k : Nat) : Int) := by simp
  have hlt : x / 2 ^ k < 1024 := Nat.lt_of_le_of_lt (Nat.div_le_self _ _) hx
  rw [e, and_one _ hlt, Nat.testBit_eq_decide_div_mod_eq]
  rw [Bool.eq_iff_iff]
  simp
  omega

theorem and_pow (n x : Nat) : n &&& 2 ^ x = if n.testBit x then 2 ^ x else 0 := by
  apply Nat.eq_of_testBit_eq
  intro i
  rw [Nat.testBit_and, Nat.testBit_two_pow]
  by_cases h : x = i
  · subst h
    cases hb : n.testBit x <;> simp [Nat.testBit_two_pow_self]
  · cases hb : n.testBit x <;> simp [h]

theorem bits_and_int (x y : Nat) (hx : x < 1024) (hy : y < 1024) : bits BinOp.and IntKind.i64 x y = ((x &&& y : Nat) : Int) := by
  have hx2 : x &&& y < 2 ^ 10 := Nat.and_lt_two_pow (n := 10) _ hy
  have h1 : (BitVec.ofInt 64 (x : Int)).toNat = x := by
    rw [BitVec.ofInt_natCast, BitVec.toNat_ofNat]; exact Nat.mod_eq_of_lt (by omega)
  have h2 : (BitVec.ofInt 64 (y : Int)).toNat = y := by
    rw [BitVec.ofInt_natCast, BitVec.toNat_ofNat]; exact Nat.mod_eq_of_lt (by omega)
  show IntKind.i64.wrap ((BitVec.ofInt 64 (x : Int) &&& BitVec.ofInt 64 (y : Int)).toNat : Int) = _
  rw [BitVec.toNat_and, h1, h2, IntKind.wrap_i64]
  omega

theorem bit_test (x k : Nat) (hx : x < 1024) (hk : k < 10) : (bits BinOp.and IntKind.i64 (x : Int) ((2 ^ k : Nat) : Int) != 0) = x.testBit k := by
  have hp : 2 ^ k < 1024 := Nat.pow_lt_pow_right (by decide) hk
  rw [bits_and_int x _ hx hp, and_pow]
  have h0 : 0 < 2 ^ k := Nat.two_pow_pos k
  cases x.testBit k
  · simp
  · simp only [if_true]; rw [bne_iff_ne]; omega

/-- The wires among the first whose number has a digit. -/
def bin (d : Nat) : Nat → List Int | 0 => [] | k + 1 => if (k + 1).testBit d then bin d k ++ [(k : Int)] else bin d k
theorem bin_length (d : Nat) (k : Nat) : (bin d k).length ≤ k := by
  induction k with
  | zero => exact Nat.le_refl _
  | succ k ih =>
    simp only [bin]
    split
    · simp; omega
    · omega
/-- The tests of the first digits. -/
def bts (n : Nat) : Nat → List (List Int) | 0 => [] | j + 1 => bts n j ++ [bin j n]
theorem bts_length (n : Nat) : ∀ j, (bts n j).length = j | 0 => rfl | j + 1 => by simp [bts, bts_length n j]
theorem bts_row (n j i : Nat) : (row (bts n j) i).length ≤ n := by
  induction j with
  | zero => simp [bts, row]
  | succ j ih =>
    show (row (bts n j ++ [bin j n]) i).length ≤ n
    by_cases h : i < j
    · rw [row_app_lt (by rw [bts_length]; exact h)]; exact ih
    · by_cases h2 : i = j
      · have e := row_app_eq (bts n j) (bin j n)
        rw [bts_length] at e
        rw [h2, e]; exact bin_length _ _
      · rw [row_none (by simp [bts_length]; omega)]; simp
/-- The tests while those of a digit are made. -/
def btp (n D d k : Nat) : List (List Int) := bts n d ++ bin d k :: List.replicate (D - d - 1) []
theorem btp_zero (n D d : Nat) (h : d < D) : btp n D d 0 = bts n d ++ List.replicate (D - d) [] := by
  unfold btp
  rw [show D - d = (D - d - 1) + 1 by omega, List.replicate_succ]
  rfl
theorem btp_last (n D d : Nat) : btp n D d n = bts n (d + 1) ++ List.replicate (D - (d + 1)) [] := by
  show bts n d ++ bin d n :: List.replicate (D - d - 1) [] = (bts n d ++ [bin d n]) ++ List.replicate (D - (d + 1)) []
  rw [show D - d - 1 = D - (d + 1) by omega]
  simp
theorem btp_length (n D d k : Nat) (h : d < D) : (btp n D d k).length = D := by
  unfold btp; simp [bts_length]; omega
theorem btp_row (n D d k : Nat) : row (btp n D d k) d = bin d k := by
  unfold btp row
  rw [List.getD_eq_getElem?_getD, List.getElem?_append_right (by rw [bts_length]; omega)]
  simp [bts_length]
theorem btp_set (n D d k : Nat) (x : List Int) : (btp n D d k).set d x = bts n d ++ x :: List.replicate (D - d - 1) [] := by
  unfold btp
  rw [List.set_append_right _ _ (by rw [bts_length]; omega)]
  simp [bts_length]
theorem btp_yes (n D d k : Nat) (h : (k + 1).testBit d = true) : (btp n D d k).set d (bin d k ++ [(k : Int)]) = btp n D d (k + 1) := by
  rw [btp_set]
  unfold btp
  rw [show bin d (k + 1) = bin d k ++ [(k : Int)] by simp only [bin]; rw [if_pos h]]
theorem btp_no (n D d k : Nat) (h : (k + 1).testBit d = false) : btp n D d (k + 1) = btp n D d k := by
  unfold btp
  rw [show bin d (k + 1) = bin d k by simp only [bin]; rw [if_neg (by rw [h]; decide)]]
theorem blN (n : Nat) (h1 : 1 ≤ n) (h : n ≤ 10) : ∃ D : Nat, bl n = D ∧ 1 ≤ D ∧ D ≤ 4 ∧ ∀ d, d ≤ 4 → (2 ^ d ≤ n ↔ d < D) := by
  have hc : n = 1 ∨ n = 2 ∨ n = 3 ∨ n = 4 ∨ n = 5 ∨ n = 6 ∨ n = 7 ∨ n = 8 ∨ n = 9 ∨ n = 10 := by omega
  clear h1 h
  rcases hc with rfl | rfl | rfl | rfl | rfl | rfl | rfl | rfl | rfl | rfl
  · exact ⟨1, rfl, by decide, by decide, by decide⟩
  · exact ⟨2, rfl, by decide, by decide, by decide⟩
  · exact ⟨2, rfl, by decide, by decide, by decide⟩
  · exact ⟨3, rfl, by decide, by decide, by decide⟩
  · exact ⟨3, rfl, by decide, by decide, by decide⟩
  · exact ⟨3, rfl, by decide, by decide, by decide⟩
  · exact ⟨3, rfl, by decide, by decide, by decide⟩
  · exact ⟨4, rfl, by decide, by decide, by decide⟩
  · exact ⟨4, rfl, by decide, by decide, by decide⟩
  · exact ⟨4, rfl, by decide, by decide, by decide⟩
def btR (f : Int) : List (List Int) := if wfB f then bts f.toNat (bl f).toNat else []
theorem bl_le (f : Int) : bl f ≤ 4 := by unfold bl; split <;> (try split) <;> (try split) <;> (try split) <;> omega
theorem btR_length (f : Int) : (btR f).length ≤ 1000 := by
  unfold btR; split
  · have := bl_le f; rw [bts_length]; omega
  · simp
theorem btR_row (f : Int) (i : Nat) : (row (btR f) i).length ≤ 1000 := by
  unfold btR; split
  · rename_i h; have := wf_parts h; exact Nat.le_trans (bts_row _ _ i) (by omega)
  · simp [row]

end Go.Proofs.Ytejmlhhblckddaa
