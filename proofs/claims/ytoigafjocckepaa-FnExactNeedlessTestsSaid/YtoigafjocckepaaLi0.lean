/- Lists of wires told by bits: the pure part. -/
import Derived.Test.YtoigafjocckepaaBmW
import Derived.Lib.Tables
namespace Go.Proofs.Ytoigafjocckepaa
open Go.ChangeShapes Go.WideShapes Go.ChangeAt Go.RowKit
set_option linter.unusedVariables false


/-- The wires below k of a list told by bits. -/
def lsT (n : Nat) : Nat → List Int | 0 => [] | k + 1 => if n.testBit k then lsT n k ++ [(k : Int)] else lsT n k
theorem lsT_len (n : Nat) (k : Nat) : (lsT n k).length ≤ k := by
  induction k with
  | zero => exact Nat.le_refl _
  | succ k ih =>
    simp only [lsT]
    split
    · simp; omega
    · omega
theorem lsT_yes {n k : Nat} (h : n.testBit k = true) : lsT n (k + 1) = lsT n k ++ [(k : Int)] := by simp only [lsT]; rw [if_pos h]
theorem lsT_no {n k : Nat} (h : n.testBit k = false) : lsT n (k + 1) = lsT n k := by simp only [lsT]; rw [if_neg (by rw [h]; decide)]
theorem lsT_stop (n e : Nat) (h : n < 2 ^ e) : ∀ d, lsT n (e + d) = lsT n e
  | 0 => rfl
  | d + 1 => by
    have hb : n.testBit (e + d) = false := Nat.testBit_lt_two_pow (Nat.lt_of_lt_of_le h (Nat.pow_le_pow_right (by omega : 0 < 2) (by omega)))
    rw [show e + (d + 1) = (e + d) + 1 by omega, lsT_no hb, lsT_stop n e h d]
/-- The least number above all wires. -/
def e16 (n : Nat) : Nat := if n < 256 then (Lib.len8 n).toNat else 8 + (Lib.len8 ((n / 256 : Nat) : Int)).toNat
theorem e16_all : ∀ n : Fin 1024, n.val < 2 ^ e16 n.val ∧ e16 n.val ≤ 10 ∧ (0 < n.val → 0 < e16 n.val ∧ 2 ^ (e16 n.val - 1) ≤ n.val) ∧ 0 ≤ Lib.len8 ((n.val % 256 : Nat) : Int) ∧ Lib.len8 ((n.val % 256 : Nat) : Int) ≤ 8 := by decide +kernel
theorem e16_lt {n : Nat} (h : n < 1024) : n < 2 ^ e16 n := (e16_all ⟨n, h⟩).1
theorem e16_le {n : Nat} (h : n < 1024) : e16 n ≤ 10 := (e16_all ⟨n, h⟩).2.1
theorem ls_all {n : Nat} (h : n < 1024) : lsT n (e16 n) = lsT n 10 := by
  have h1 := e16_le h
  have h2 := lsT_stop n (e16 n) (e16_lt h) (10 - e16 n)
  rw [show e16 n + (10 - e16 n) = 10 by omega] at h2
  exact h2.symm
theorem or_same (n x : Nat) : ((n : Int) == ((n ||| 2 ^ x : Nat) : Int)) = n.testBit x := by
  rw [Bool.eq_iff_iff]
  simp only [beq_iff_eq]
  constructor
  · intro h
    have e : n = n ||| 2 ^ x := by omega
    rw [e, Nat.testBit_or, Nat.testBit_two_pow_self]; simp
  · intro h
    have e : n = n ||| 2 ^ x := by
      apply Nat.eq_of_testBit_eq
      intro i
      rw [Nat.testBit_or, Nat.testBit_two_pow]
      by_cases hi : x = i
      · subst hi; rw [h]; rfl
      · simp [hi]
    exact congrArg _ e
theorem or_lt {n x : Nat} (hn : n < 1024) (hx : x < 10) : n ||| 2 ^ x < 1024 := Nat.or_lt_two_pow (n := 10) hn (pow_small x hx)

end Go.Proofs.Ytoigafjocckepaa
