/- The least number of letters: the model and the program; the walk of the law. -/
import Derived.Test.YtolkfgjgnpjpkaaGood
namespace Go.Proofs.Ytolkfgjgnpjpkaa
open Go.ChangeShapes Go.WideShapes Go.ChangeAt Go.RowKit


def fewL (f : Int) : Int := if frB f then 2 * (f - 1) else 0
theorem implFewL_any (f : Int) (w : World) : Calls Try.prog 50 #[.int .i64 f] w fun e w' => e = .returned (.tuple #[.int .i64 (fewL f), .bool (frB f)]) ∧ w = w' := by
  cases hf : frB f
  · rw [show fewL f = 0 by simp [fewL, hf]]
    have Hf := Lib.hid hf
    clear hf
    go_enter Try.func50, Try.ntmps50
    go_wp2_with fail
    refine (canBeFriends_any f w).mono ?_
    rintro e w' ⟨rfl, rfl⟩
    rw [Hf.out]
    go_wp2_with fail
    go_ret2
    exact ⟨rfl, rfl⟩
  · rw [show fewL f = 2 * (f - 1) by simp [fewL, hf]]
    have hff : 1 ≤ f ∧ f ≤ 10 := by simpa [frB] using hf
    have h1 := hff.1
    have h2 := hff.2
    have Hf := Lib.hid hf
    clear hf hff
    go_enter Try.func50, Try.ntmps50
    go_wp2_with fail
    refine (canBeFriends_any f w).mono ?_
    rintro e w' ⟨rfl, rfl⟩
    rw [Hf.out]
    go_wp2_with fail
    go_ret2
    exact ⟨rfl, rfl⟩
theorem specFewL_any (f : Int) (w : World) : Calls Try.prog 49 #[.int .i64 f] w fun e w' => e = .returned (.tuple #[.int .i64 (fewL f), .bool (frB f)]) ∧ w = w' := by
  cases hf : frB f
  · rw [show fewL f = 0 by simp [fewL, hf]]
    have Hf := Lib.hid hf
    clear hf
    go_enter Try.func49, Try.ntmps49
    go_wp2_with fail
    refine (caFriends_any f w).mono ?_
    rintro e w' ⟨rfl, rfl⟩
    rw [Hf.out]
    go_wp2_with fail
    go_ret2
    exact ⟨rfl, rfl⟩
  · rw [show fewL f = 2 * (f - 1) by simp [fewL, hf]]
    have hff : 1 ≤ f ∧ f ≤ 10 := by simpa [frB] using hf
    have h1 := hff.1
    have h2 := hff.2
    have Hf := Lib.hid hf
    clear hf hff
    go_enter Try.func49, Try.ntmps49
    go_wp2_with fail
    refine (caFriends_any f w).mono ?_
    rintro e w' ⟨rfl, rfl⟩
    rw [Hf.out]
    go_wp2_with fail
    go_ret2
    exact ⟨rfl, rfl⟩

theorem walkFewL (W : World) (a0 : Int) (_w0 : (Lit.int .i64 a0).wf = true) :
    Calls Try.prog 11 #[.int .i64 a0] W fun e w' => e = .returned (.bool true) ∧ Below W.heap.size W w' := by
  have h1 : (fewL a0 != fewL a0) = false := by simp
  have h2 : (frB a0 != frB a0) = false := by simp
  go_enter Try.func11, Try.ntmps11
  go_wp2_with fail
  refine (specFewL_any a0 W).mono ?_
  rintro e w' ⟨rfl, rfl⟩
  go_wp2_with fail
  refine (implFewL_any a0 W).mono ?_
  rintro e w' ⟨rfl, rfl⟩
  go_wp2_with fail
  go_ret
  exact ⟨rfl, Below.refl _ _⟩

end Go.Proofs.Ytolkfgjgnpjpkaa
