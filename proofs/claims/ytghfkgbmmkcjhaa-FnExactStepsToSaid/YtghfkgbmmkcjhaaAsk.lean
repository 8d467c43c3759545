/- The model asks for a delay and people. -/
import Derived.Test.YtghfkgbmmkcjhaaChk
namespace Go.Proofs.Ytghfkgbmmkcjhaa
open Go.ChangeShapes Go.WideShapes Go.ChangeAt Go.RowKit
set_option linter.unusedVariables false


theorem deAsked_any (d m : Int) (w : World) : Calls Try.prog 59 #[.int .i64 d, .int .i64 m] w fun e w' => e = .returned (.bool (deB d && peB m)) ∧ w = w' := by
  cases hA : deB d
  · have HA := Lib.hid hA
    clear hA
    go_enter Try.func59, Try.ntmps59
    go_wp2_with fail
    refine (deDelay_any _ w).mono ?_
    rintro e w' ⟨rfl, rfl⟩
    rw [HA.out]
    go_wp2_with fail
    go_ret
    exact ⟨rfl, rfl⟩
  · have HA := Lib.hid hA
    clear hA
    go_enter Try.func59, Try.ntmps59
    go_wp2_with fail
    refine (deDelay_any _ w).mono ?_
    rintro e w' ⟨rfl, rfl⟩
    rw [HA.out]
    go_wp2_with fail
    refine (l1In_any _ 1 40 w).mono ?_
    rintro e w' ⟨rfl, rfl⟩
    go_wp2_with fail
    go_ret
    exact ⟨ret_bool (by simp [peB]), rfl⟩

end Go.Proofs.Ytghfkgbmmkcjhaa
