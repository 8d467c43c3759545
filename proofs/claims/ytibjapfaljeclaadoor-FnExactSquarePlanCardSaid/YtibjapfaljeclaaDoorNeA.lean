/- Is this a network: the model and the program. -/
import Derived.Test.YtibjapfaljeclaaDoorNeG
namespace Go.Proofs.YtibjapfaljeclaaDoor
open Go.ChangeShapes Go.WideShapes Go.ChangeAt Go.RowKit
set_option linter.unusedVariables false

theorem implPairs_any (w : World) (f : Int) (ao : Option Addr) (cap : Nat) (l : List (Int × Int)) (n : Nat) (Hn : Hid (n = l.length)) (hs : n ≤ 1048576) (Hc : CallsAt w ao l) :
    Calls Tryd.prog 36 #[.int .i64 f, .slice ao n cap] w fun e w' => e = .returned (.bool (netB f l)) ∧ Below w.heap.size w w' := by
  have HA := Lib.hid Hc
  clear Hc
  cases hf : frB f
  · have Hno : Hid (netB f l = false) := Lib.hid (by simp [netB, gdB, hf])
    have Hf := Lib.hid hf
    clear hf
    go_enter Tryd.func36, Tryd.ntmps36
    go_wp2_with fail
    refine (canBeNetted_any f w).mono ?_
    rintro e w1 ⟨rfl, rfl⟩
    rw [Hf.out]
    go_wp2_with fail
    go_ret
    exact ⟨ret_bool Hno.out.symm, Below.refl _ _⟩
  · have Hf := Lib.hid hf
    clear hf
    cases hg : gdB f l
    · have Hno : Hid (netB f l = false) := Lib.hid (by simp [netB, hg])
      have Hg := Lib.hid hg
      clear hg
      go_enter Tryd.func36, Tryd.ntmps36
      go_wp2_with fail
      refine (canBeNetted_any f w).mono ?_
      rintro e w1 ⟨rfl, rfl⟩
      rw [Hf.out]
      go_wp2_with fail
      refine (areCalls_any f ao cap l n w Hn.out (by omega) HA.out).mono ?_
      rintro e w1 ⟨rfl, hb1⟩
      rw [Hg.out]
      go_wp2_with fail
      go_ret
      exact ⟨ret_bool Hno.out.symm, hb1⟩
    · have Hno : Hid (netB f l = incB l) := Lib.hid (by simp [netB, hg])
      have Hg := Lib.hid hg
      clear hg
      go_enter Tryd.func36, Tryd.ntmps36
      go_wp2_with fail
      refine (canBeNetted_any f w).mono ?_
      rintro e w1 ⟨rfl, rfl⟩
      rw [Hf.out]
      go_wp2_with fail
      refine (areCalls_any f ao cap l n w Hn.out (by omega) HA.out).mono ?_
      rintro e w1 ⟨rfl, hb1⟩
      rw [Hg.out]
      go_wp2_with fail
      refine (areInc_any ao cap l n w1 Hn.out hs (HA.out.kept hb1)).mono ?_
      rintro e w2 ⟨rfl, hb2⟩
      have hb := hb1.trans (hb2.mono hb1.size)
      clear hb1 hb2
      go_wp2_with fail
      go_ret
      exact ⟨ret_bool Hno.out.symm, hb⟩

end Go.Proofs.YtibjapfaljeclaaDoor
