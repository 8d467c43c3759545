/- Lists of wires as bits: the pure part. -/
import Derived.Test.YtoigafjocckepaaSg
namespace Go.Proofs.Ytoigafjocckepaa
open Go.ChangeShapes Go.WideShapes Go.ChangeAt Go.RowKit
set_option linter.unusedVariables false


theorem or_add (n x : Nat) (h : n < 2 ^ x) : n ||| 2 ^ x = n + 2 ^ x := by
  have e := Nat.two_pow_add_eq_or_of_lt h 1
  rw [Nat.mul_one] at e
  rw [Nat.or_comm, ← e]; omega

/-- The first k of a list of wires, as bits. -/
def bm (l : List Int) : Nat → Nat | 0 => 0 | k + 1 => bm l k ||| 2 ^ (na l k).toNat
/-- A list of wires as bits. -/
def bw (l : List Int) : Nat := bm l l.length

theorem bm_lt {f : Int} (hf : f ≤ 10) {l : List Int} (h : risB f l = true) : ∀ k, k ≤ l.length → bm l k < 2 ^ (lst l k).toNat ∧ bm l k < 1024
  | 0, _ => by simp [bm, lst]
  | k + 1, hk => by
    have h1 := bm_lt hf h k (by omega)
    have h2 := up_parts (ris_at h (j := k) (by omega))
    have hle : (lst l k).toNat ≤ (na l k).toNat := by
      cases k with
      | zero => simp [lst]
      | succ j => have := h2.2.2 (by omega); simp only [Nat.add_sub_cancel] at this; rw [lst_succ]; omega
    have h3 : bm l k < 2 ^ (na l k).toNat := Nat.lt_of_lt_of_le h1.1 (Nat.pow_le_pow_right (by decide) hle)
    have h4 : bm l (k + 1) = bm l k + 2 ^ (na l k).toNat := or_add _ _ h3
    have h5 : (lst l (k + 1)).toNat = (na l k).toNat + 1 := by rw [lst_succ]; omega
    have h6 : 2 ^ ((na l k).toNat + 1) ≤ 2 ^ 10 := Nat.pow_le_pow_right (by decide) (by omega)
    rw [h4, h5]
    have h7 : 2 ^ ((na l k).toNat + 1) = 2 ^ (na l k).toNat + 2 ^ (na l k).toNat := by rw [Nat.pow_succ]; omega
    constructor <;> omega

theorem bm_add {f : Int} (hf : f ≤ 10) {l : List Int} (h : risB f l = true) {k : Nat} (hk : k < l.length) : bm l (k + 1) = bm l k + 2 ^ (na l k).toNat := by
  have h1 := bm_lt hf h k (by omega)
  have h2 := up_parts (ris_at h (j := k) (by omega))
  have hle : (lst l k).toNat ≤ (na l k).toNat := by
    cases k with
    | zero => simp [lst]
    | succ j => have := h2.2.2 (by omega); simp only [Nat.add_sub_cancel] at this; rw [lst_succ]; omega
  exact or_add _ _ (Nat.lt_of_lt_of_le h1.1 (Nat.pow_le_pow_right (by decide) hle))

theorem bw_lt {f : Int} (hf : f ≤ 10) {l : List Int} (h : risB f l = true) : bw l < 1024 := (bm_lt hf h l.length (Nat.le_refl _)).2

theorem bm_has (l : List Int) (x : Nat) : ∀ k, (bm l k).testBit x = (List.range k).any fun j => (na l j).toNat == x
  | 0 => by simp [bm]
  | k + 1 => by
    rw [bm, Nat.testBit_or, bm_has l x k, List.range_succ, List.any_append, Nat.testBit_two_pow]
    simp only [List.any_cons, List.any_nil, Bool.or_false]
    congr 1

/-- Wires of a list but those of another. -/
def clr (a b : Nat) : Nat := a &&& (2 ^ 16 - 1 - b)
theorem clr_le (a b : Nat) : clr a b ≤ a := Nat.and_le_left
theorem clr_bit (a b i : Nat) (hb : b < 1024) (hi : i < 16) : (clr a b).testBit i = (a.testBit i && !b.testBit i) := by
  unfold clr
  rw [Nat.testBit_and, show 2 ^ 16 - 1 - b = 2 ^ 16 - (b + 1) by omega, Nat.testBit_two_pow_sub_succ (by omega)]
  simp [hi]
theorem bits_clr (x y : Nat) (hx : x < 1024) (hy : y < 1024) : bits BinOp.andNot IntKind.u16 (x : Int) (y : Int) = ((clr x y : Nat) : Int) := by
  have h0 := clr_le x y
  have h1 : (BitVec.ofInt 16 (x : Int)).toNat = x := by
    rw [BitVec.ofInt_natCast, BitVec.toNat_ofNat]; exact Nat.mod_eq_of_lt (by omega)
  have h2 : (BitVec.ofInt 16 (y : Int)).toNat = y := by
    rw [BitVec.ofInt_natCast, BitVec.toNat_ofNat]; exact Nat.mod_eq_of_lt (by omega)
  show IntKind.u16.wrap ((BitVec.ofInt 16 (x : Int) &&& ~~~ BitVec.ofInt 16 (y : Int)).toNat : Int) = _
  rw [BitVec.toNat_and, BitVec.toNat_not, h1, h2, IntKind.wrap_u16]
  show (((x &&& (2 ^ 16 - 1 - y) : Nat) : Int)) % 65536 = _
  have h3 : x &&& (2 ^ 16 - 1 - y) = clr x y := rfl
  rw [h3]
  omega
theorem bits_or16 (x y : Nat) (hx : x < 1024) (hy : y < 1024) : bits BinOp.or IntKind.u16 x y = ((x ||| y : Nat) : Int) := by
  have hx2 : x ||| y < 2 ^ 10 := Nat.or_lt_two_pow (n := 10) hx hy
  have h1 : (BitVec.ofInt 16 (x : Int)).toNat = x := by
    rw [BitVec.ofInt_natCast, BitVec.toNat_ofNat]; exact Nat.mod_eq_of_lt (by omega)
  have h2 : (BitVec.ofInt 16 (y : Int)).toNat = y := by
    rw [BitVec.ofInt_natCast, BitVec.toNat_ofNat]; exact Nat.mod_eq_of_lt (by omega)
  show IntKind.u16.wrap ((BitVec.ofInt 16 (x : Int) ||| BitVec.ofInt 16 (y : Int)).toNat : Int) = _
  rw [BitVec.toNat_or, h1, h2, IntKind.wrap_u16]
  omega
theorem bits_or_int (x y : Nat) (hx : x < 1024) (hy : y < 1024) : bits BinOp.or IntKind.i64 x y = ((x ||| y : Nat) : Int) := by
  have hx2 : x ||| y < 2 ^ 10 := Nat.or_lt_two_pow (n := 10) hx hy
  have h1 : (BitVec.ofInt 64 (x : Int)).toNat = x := by
    rw [BitVec.ofInt_natCast, BitVec.toNat_ofNat]; exact Nat.mod_eq_of_lt (by omega)
  have h2 : (BitVec.ofInt 64 (y : Int)).toNat = y := by
    rw [BitVec.ofInt_natCast, BitVec.toNat_ofNat]; exact Nat.mod_eq_of_lt (by omega)
  show IntKind.i64.wrap ((BitVec.ofInt 64 (x : Int) ||| BitVec.ofInt 64 (y : Int)).toNat : Int) = _
  rw [BitVec.toNat_or, h1, h2, IntKind.wrap_i64]
  omega
theorem bits_and_int (x y : Nat) (hx : x < 1024) (hy : y < 1024) : bits BinOp.and IntKind.i64 x y = ((x &&& y : Nat) : Int) := by
  have hx2 : x &&& y < 2 ^ 10 := Nat.and_lt_two_pow (n := 10) _ hy
  have h1 : (BitVec.ofInt 64 (x : Int)).toNat = x := by
    rw [BitVec.ofInt_natCast, BitVec.toNat_ofNat]; exact Nat.mod_eq_of_lt (by omega)
  have h2 : (BitVec.ofInt 64 (y : Int)).toNat = y := by
    rw [BitVec.ofInt_natCast, BitVec.toNat_ofNat]; exact Nat.mod_eq_of_lt (by omega)
  show IntKind.i64.wrap ((BitVec.ofInt 64 (x : Int) &&& BitVec.ofInt 64 (y : Int)).toNat : Int) = _
  rw [BitVec.toNat_and, h1, h2, IntKind.wrap_i64]
  omega
theorem wrap_pow16 : ∀ k : Nat, k < 10 → IntKind.u16.wrap ((2 : Int) ^ k) = ((2 ^ k : Nat) : Int) := by decide
theorem wrap_pow64 : ∀ k : Nat, k < 11 → wrap64 ((2 : Int) ^ k) = ((2 ^ k : Nat) : Int) := by unfold wrap64; decide
theorem pow_small (k : Nat) (h : k < 10) : 2 ^ k < 1024 := Nat.pow_lt_pow_right (by decide) h

/-- Two lists have a wire in common. -/
def mtB (a b : Nat) : Bool := a &&& b != 0
theorem big_bit {a i : Nat} (ha : a < 1024) (hi : 10 ≤ i) : a.testBit i = false := by
  have h : 2 ^ 10 ≤ 2 ^ i := Nat.pow_le_pow_right (by omega : 0 < 2) hi
  exact Nat.testBit_lt_two_pow (Nat.lt_of_lt_of_le ha h)
theorem clr_eq (a b : Nat) (ha : a < 1024) (hb : b < 1024) : (a == clr a b) = !mtB a b := by
  rw [Bool.eq_iff_iff]
  simp only [mtB, beq_iff_eq, Bool.not_eq_true', bne_eq_false_iff_eq]
  constructor
  · intro h
    apply Nat.eq_of_testBit_eq
    intro i
    rw [Nat.testBit_and, Nat.zero_testBit]
    by_cases hi : i < 16
    · have e := clr_bit a b i hb hi
      rw [← h] at e
      cases h1 : a.testBit i
      · rfl
      · cases h2 : b.testBit i
        · rfl
        · rw [h1, h2] at e; simp at e
    · have : a.testBit i = false := big_bit ha (by omega)
      rw [this]; rfl
  · intro h
    apply Nat.eq_of_testBit_eq
    intro i
    by_cases hi : i < 16
    · rw [clr_bit a b i hb hi]
      have e : (a &&& b).testBit i = false := by rw [h, Nat.zero_testBit]
      rw [Nat.testBit_and] at e
      cases h1 : a.testBit i
      · rfl
      · rw [h1] at e
        simp at e
        simp [e]
    · have h1 : a.testBit i = false := big_bit ha (by omega)
      have h2 : (clr a b).testBit i = false := big_bit (Nat.lt_of_le_of_lt (clr_le a b) ha) (by omega)
      rw [h1, h2]
theorem and_ne (a b : Nat) : (((a &&& b : Nat) : Int) != 0) = mtB a b := by
  rw [Bool.eq_iff_iff]; simp [mtB]

end Go.Proofs.Ytoigafjocckepaa
