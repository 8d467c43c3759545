/- The laws' own helpers on lists of clues: sizes and marks. -/
import Derived.Test.YtnhkabhchepieaaDoorCluH
namespace Go.Proofs.YtnhkabhchepieaaDoor
open Go.ChangeShapes Go.WideShapes Go.ChangeAt Go.RowKit
set_option linter.unusedVariables false


theorem szClueS_fit (ao : Option Addr) (n cap left : Nat) (w : World) (h : n ≤ left) (hl : left ≤ 1048576) :
    Calls Tryd.prog 46 #[.slice ao n cap, .int .i64 (left : Int)] w fun e w' => e = .returned (.int .i64 ((left - n : Nat) : Int)) ∧ w = w' := by
  have hd : decide ((left : Int) - (n : Int) < 0) = false := by simp; omega
  have e1 : ((left - n : Nat) : Int) = (left : Int) - n := by omega
  rw [e1]
  go_enter Tryd.func46, Tryd.ntmps46
  go_wp2
  go_ret
  exact ⟨rfl, rfl⟩

theorem szClueS_over (ao : Option Addr) (n cap left : Nat) (w : World) (h : left < n) (hl : left ≤ 1048576) (hm : n ≤ 9223372036854775807) :
    Calls Tryd.prog 46 #[.slice ao n cap, .int .i64 (left : Int)] w fun e w' => e = .returned (.int .i64 (-1)) ∧ w = w' := by
  have hd : decide ((left : Int) - (n : Int) < 0) = true := by simp; omega
  go_enter Tryd.func46, Tryd.ntmps46
  go_wp2
  go_ret
  exact ⟨rfl, rfl⟩

end Go.Proofs.YtnhkabhchepieaaDoor
