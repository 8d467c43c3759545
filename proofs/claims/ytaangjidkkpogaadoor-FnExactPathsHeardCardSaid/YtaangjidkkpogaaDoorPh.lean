/- Lists of friends who pass on: the pure part. -/
import Derived.Test.YtaangjidkkpogaaDoorFs
import Derived.Test.YtaangjidkkpogaaDoorFit
namespace Go.Proofs.YtaangjidkkpogaaDoor
open Go.ChangeShapes Go.WideShapes Go.ChangeAt Go.RowKit
set_option linter.unusedVariables false


/-- So much for each of those below k who are in the set. -/
def psum (g : Nat → Nat) (m : Nat) : Nat → Nat
  | 0 => 0
  | k + 1 => psum g m k + if m.testBit k then g k else 0
def isum (g : Nat → Nat) (l : List Int) : Nat := (l.map fun x => g x.toNat).sum
theorem isum_snoc (g : Nat → Nat) (l : List Int) (x : Int) : isum g (l ++ [x]) = isum g l + g x.toNat := by simp [isum]
theorem isum_take (g : Nat → Nat) (l : List Int) (j : Nat) (h : j < l.length) : isum g (l.take (j + 1)) = isum g (l.take j) + g (na l j).toNat := by
  have : l.take (j + 1) = l.take j ++ [na l j] := by rw [List.take_succ_eq_append_getElem h]; simp [na, List.getD_eq_getElem?_getD, h]
  rw [this, isum_snoc]
theorem isum_bl (g : Nat → Nat) (m : Nat) : ∀ k, isum g (bl m k) = psum g m k
  | 0 => rfl
  | k + 1 => by
    cases h : m.testBit k
    · rw [bl_no m k h, isum_bl g m k, psum, h]; simp
    · rw [bl_yes m k h, isum_snoc, isum_bl g m k, psum, h]; simp
theorem isum_le (g : Nat → Nat) (B : Nat) (l : List Int) (h : ∀ x, g x ≤ B) : isum g l ≤ l.length * B := by
  induction l with
  | nil => simp [isum]
  | cons a r ih =>
    have := h a.toNat
    simp only [isum, List.map_cons, List.sum_cons, List.length_cons, Nat.add_mul] at ih ⊢
    omega
theorem psum_le (g : Nat → Nat) (B m : Nat) (h : ∀ x, g x ≤ B) : ∀ k, psum g m k ≤ k * B
  | 0 => by simp [psum]
  | k + 1 => by
    have ih := psum_le g B m h k
    have := h k
    rw [psum, Nat.add_mul]
    split <;> omega
/-- How many lists of friends from a to t, by those of a set, turn what is told (b) or don't; a is not in the set. -/
def ph (c : List Bool) (t : Nat) : Nat → Bool → Nat → Nat → Nat
  | 0 => fun _ _ _ => 0
  | f + 1 => fun b a m => if a = t then (if b = !hon c a then 1 else 0) else psum (fun x => ph c t f (b != !hon c a) x (clr m (2 ^ x))) m 10
theorem ph_le (c : List Bool) (t : Nat) : ∀ f b a m, ph c t f b a m ≤ 10 ^ f
  | 0, _, _, _ => by simp [ph]
  | f + 1, b, a, m => by
    have h := psum_le (fun x => ph c t f (b != !hon c a) x (clr m (2 ^ x))) (10 ^ f) m (fun x => ph_le c t f _ x _) 10
    have h2 : 10 ^ (f + 1) = 10 * 10 ^ f := by rw [Nat.pow_succ, Nat.mul_comm]
    have h3 : 0 < 10 ^ f := Nat.pow_pos (by decide)
    simp only [ph]
    split
    · split <;> omega
    · omega
theorem ph_at {c : List Bool} {t f : Nat} {b : Bool} {a m : Nat} (h : a = t) : ph c t (f + 1) b a m = if b = !hon c a then 1 else 0 := by simp only [ph, if_pos h]
theorem ph_go {c : List Bool} {t f : Nat} {b : Bool} {a m : Nat} (h : a ≠ t) : ph c t (f + 1) b a m = psum (fun x => ph c t f (b != !hon c a) x (clr m (2 ^ x))) m 10 := by simp only [ph, if_neg h]
theorem pow_le8 {f : Nat} (h : f ≤ 9) : 10 ^ f ≤ 1000000000 := Nat.le_trans (Nat.pow_le_pow_right (by decide) h) (by decide)
theorem pc_clr : ∀ m : Fin 1024, ∀ x : Fin 10, m.val.testBit x.val = true → pc (clr m.val (2 ^ x.val)) + 1 = pc m.val := by decide +kernel
theorem bit_lt {m n x : Nat} (h : m < 2 ^ n) (hx : m.testBit x = true) : x < n := by
  by_cases h2 : x < n
  · exact h2
  · have := Nat.testBit_lt_two_pow (Nat.lt_of_lt_of_le h (Nat.pow_le_pow_right (by decide) (show n ≤ x by omega)))
    rw [this] at hx; cases hx
theorem two8 {n : Nat} (h : n ≤ 8) : 2 ^ n ≤ 256 := Nat.le_trans (Nat.pow_le_pow_right (by decide) h) (by decide)

end Go.Proofs.YtaangjidkkpogaaDoor
