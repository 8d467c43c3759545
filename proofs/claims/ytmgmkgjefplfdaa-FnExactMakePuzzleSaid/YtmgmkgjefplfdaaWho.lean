/- Who knows a news. -/
import Derived.Test.YtmgmkgjefplfdaaSums
namespace Go.Proofs.Ytmgmkgjefplfdaa
open Go.ChangeShapes Go.WideShapes Go.ChangeAt Go.RowKit
set_option linter.unusedVariables false

theorem wrap_pow16 : ∀ k : Nat, k < 10 → IntKind.u16.wrap ((2 : Int) ^ k) = ((2 ^ k : Nat) : Int) := wrap_pow

theorem pow_small : ∀ k : Nat, k < 10 → 2 ^ k < 1024 := by decide

theorem and_pow (n x : Nat) : n &&& 2 ^ x = if n.testBit x then 2 ^ x else 0 := by
  apply Nat.eq_of_testBit_eq
  intro i
  rw [Nat.testBit_and, Nat.testBit_two_pow]
  by_cases h : x = i
  · subst h
    cases hb : n.testBit x <;> simp [Nat.testBit_two_pow_self]
  · cases hb : n.testBit x <;> simp [h]

theorem has_test (n x : Nat) (hn : n < 1024) (hx : x < 10) : (bits BinOp.and IntKind.u16 (n : Int) (IntKind.u16.wrap (2 ^ x)) != 0) = n.testBit x := by
  rw [wrap_pow16 x hx, bits_and_nat n (2 ^ x) hn (pow_small x hx), and_pow]
  have hp : 0 < 2 ^ x := Nat.two_pow_pos x
  cases n.testBit x
  · simp
  · simp only [if_true]; rw [bne_iff_ne]; omega

theorem has_any (n x : Nat) (w : World) (hn : n < 1024) (hx : x < 10) :
    Calls Try.prog 131 #[.int .u16 n, .int .i64 x] w fun e w' => e = .returned (.bool (n.testBit x)) ∧ w = w' := by
  have HT := Lib.hid (has_test n x hn hx)
  go_enter Try.func131, Try.ntmps131
  go_wp2
  go_ret
  exact ⟨ret_bool HT.out, rfl⟩

def whoB (f : Int) (l : List (Int × Int)) (x : Int) : Bool := gdB f l && decide (0 ≤ x ∧ x ≤ f - 1)

end Go.Proofs.Ytmgmkgjefplfdaa
