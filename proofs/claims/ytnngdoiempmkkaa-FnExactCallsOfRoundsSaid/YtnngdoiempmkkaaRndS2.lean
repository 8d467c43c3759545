/- Are these rounds: the model, whatever the arguments. -/
import Derived.Test.YtnngdoiempmkkaaRndS1
namespace Go.Proofs.Ytnngdoiempmkkaa
open Go.ChangeShapes Go.WideShapes Go.ChangeAt Go.RowKit
set_option linter.unusedVariables false


theorem roGood_any (f : Int) (ao : Option Addr) (cap : Nat) (L : List (List (Int × Int))) (n : Nat) (w : World) (Hn : Hid (n = L.length)) (hm : n ≤ 9223372036854775807) (HL : Hid (∀ i, (crow L i).length ≤ 9223372036854775807)) (HA : Hid (RowsAt w ao L)) :
    Calls Try.prog 25 #[.int .i64 f, .slice ao n cap] w fun e w' => e = .returned (.bool (rndsB f L)) ∧ Below w.heap.size w w' := by
  cases hf : frB f
  · have Hno := Lib.hid (rnds_fr (L := L) hf)
    have Hf := Lib.hid hf
    clear hf
    go_enter Try.func25, Try.ntmps25
    go_wp2_with fail
    refine (caFriends_any f w).mono ?_
    rintro e w1 ⟨rfl, rfl⟩
    rw [Hf.out]
    go_wp2_with fail
    go_ret
    exact ⟨ret_bool Hno.out.symm, Below.refl _ _⟩
  · by_cases hl : n ≤ 20
    · exact roGood_loop f ao cap L n w Hn hl HL hf HA
    · have Hf := Lib.hid hf
      have hd : decide ((n : Int) > 20) = true := by simp; omega
      have Hno := Lib.hid (rnds_len (f := f) (L := L) (by rw [← Hn.out]; omega))
      clear hf
      go_enter Try.func25, Try.ntmps25
      go_wp2_with fail
      refine (caFriends_any f w).mono ?_
      rintro e w1 ⟨rfl, rfl⟩
      rw [Hf.out]
      go_wp2_with fail
      go_ret
      exact ⟨ret_bool Hno.out.symm, Below.refl _ _⟩

theorem specAreRounds_any (f : Int) (ao : Option Addr) (cap : Nat) (L : List (List (Int × Int))) (n : Nat) (w : World) (Hn : Hid (n = L.length)) (hm : n ≤ 9223372036854775807) (HL : Hid (∀ i, (crow L i).length ≤ 9223372036854775807)) (HA : Hid (RowsAt w ao L)) :
    Calls Try.prog 8 #[.int .i64 f, .slice ao n cap] w fun e w' => e = .returned (.bool (rndsB f L)) ∧ Below w.heap.size w w' := by
  go_enter Try.func8, Try.ntmps8
  go_wp2_with fail
  refine (roGood_any f ao cap L n w Hn hm HL HA).mono ?_
  rintro e w1 ⟨rfl, hb⟩
  go_wp2_with fail
  go_ret
  exact ⟨rfl, hb⟩

end Go.Proofs.Ytnngdoiempmkkaa
