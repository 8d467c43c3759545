/- Are these rounds: the model, whatever the arguments. -/
import Derived.Test.YtjldfdaaoeomdaaDoorRndS1
namespace Go.Proofs.YtjldfdaaoeomdaaDoor
open Go.ChangeShapes Go.WideShapes Go.ChangeAt Go.RowKit
set_option linter.unusedVariables false


theorem roGood_any (f : Int) (ao : Option Addr) (cap : Nat) (L : List (List (Int × Int))) (n : Nat) (w : World) (Hn : Hid (n = L.length)) (hm : n ≤ 9223372036854775807) (HL : Hid (∀ i, (crow L i).length ≤ 9223372036854775807)) (HA : Hid (RowsAt w ao L)) :
    Calls Tryd.prog 15 #[.int .i64 f, .slice ao n cap] w fun e w' => e = .returned (.bool (rndsB f L)) ∧ Below w.heap.size w w' := by
  cases hf : frB f
  · have Hno := Lib.hid (rnds_fr (L := L) hf)
    have Hf := Lib.hid hf
    clear hf
    go_enter Tryd.func15, Tryd.ntmps15
    go_wp2_with fail
    refine (caFriends_any f w).mono ?_
    rintro e w1 ⟨rfl, rfl⟩
    rw [Hf.out]
    go_wp2_with fail
    go_ret
    exact ⟨ret_bool Hno.out.symm, Below.refl _ _⟩
  · by_cases hl : n ≤ 20
    · exact roGood_loop f ao cap L n w Hn hl HL hf HA
    · have Hf := Lib.hid hf
      have hd : decide ((n : Int) > 20) = true := by simp; omega
      have Hno := Lib.hid (rnds_len (f := f) (L := L) (by rw [← Hn.out]; omega))
      clear hf
      go_enter Tryd.func15, Tryd.ntmps15
      go_wp2_with fail
      refine (caFriends_any f w).mono ?_
      rintro e w1 ⟨rfl, rfl⟩
      rw [Hf.out]
      go_wp2_with fail
      go_ret
      exact ⟨ret_bool Hno.out.symm, Below.refl _ _⟩

end Go.Proofs.YtjldfdaaoeomdaaDoor
