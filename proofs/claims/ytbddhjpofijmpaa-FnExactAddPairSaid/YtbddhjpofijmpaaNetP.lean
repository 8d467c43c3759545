/- Networks told by a rule on pairs. -/
import Derived.Test.YtbddhjpofijmpaaNeA
namespace Go.Proofs.Ytbddhjpofijmpaa
open Go.ChangeShapes Go.WideShapes Go.ChangeAt Go.RowKit


/-- The pairs of a friend with those between this one and a bound for which a rule holds. -/
def rowP (P : Nat → Nat → Bool) (a : Nat) : Nat → List (Int × Int)
  | 0 => []
  | b + 1 => rowP P a b ++ if decide (a < b) && P a b then [((a : Int), (b : Int))] else []
/-- Those of all friends before a bound. -/
def wholeP (P : Nat → Nat → Bool) (F : Nat) : Nat → List (Int × Int)
  | 0 => []
  | a + 1 => wholeP P F a ++ rowP P a F
/-- The model's four rules. -/
def pr (r g F a b : Nat) : Bool :=
  match r with
  | 0 => b == a + 1
  | 1 => b == a + 1 || (a == 0 && b + 1 == F)
  | 2 => a == g || b == g
  | _ => true
theorem rowP_low (P : Nat → Nat → Bool) (a : Nat) : ∀ b, b ≤ a + 1 → rowP P a b = []
  | 0, _ => rfl
  | b + 1, h => by
    have hd : decide (a < b) = false := by simp; omega
    rw [rowP, rowP_low P a b (by omega), hd]; rfl
theorem rowP_yes {P : Nat → Nat → Bool} {a b : Nat} (h : a < b) (hP : P a b = true) : rowP P a (b + 1) = rowP P a b ++ [((a : Int), (b : Int))] := by
  rw [rowP, hP]; simp [h]
theorem rowP_no {P : Nat → Nat → Bool} {a b : Nat} (hP : P a b = false) : rowP P a (b + 1) = rowP P a b := by
  rw [rowP, hP]; simp
theorem rowP_len (P : Nat → Nat → Bool) (a : Nat) : ∀ b, (rowP P a b).length ≤ b
  | 0 => Nat.le_refl _
  | b + 1 => by
    have ih := rowP_len P a b
    rw [rowP, List.length_append]
    split <;> simp <;> omega
theorem wholeP_len (P : Nat → Nat → Bool) {F : Nat} (hF : F ≤ 10) : ∀ a, (wholeP P F a).length ≤ 10 * a
  | 0 => Nat.le_refl _
  | a + 1 => by
    have ih := wholeP_len P hF a
    have := rowP_len P a F
    rw [wholeP, List.length_append]
    omega
/-- The network of a rule, where there is one. -/
def netR (ok : Bool) (r g : Nat) (f : Int) : List (Int × Int) := if ok then wholeP (pr r g f.toNat) f.toNat f.toNat else []
theorem netR_len {ok : Bool} (r g : Nat) {f : Int} (h : ok = true → f ≤ 10) : (netR ok r g f).length ≤ 100 := by
  unfold netR
  cases ok
  · simp
  · have := wholeP_len (pr r g f.toNat) (F := f.toNat) (by have := h rfl; omega) f.toNat
    have := h rfl
    simp only [if_true]
    omega

end Go.Proofs.Ytbddhjpofijmpaa
