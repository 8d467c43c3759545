/- The walk of the law FnExactParseGrouping: it answers true and turns nothing that was there. -/
import Derived.Test.YtoaobdeigangfaaPg
import Derived.Test.YtoaobdeigangfaaOpen
import Derived.ChangeMaps5
namespace Go.Proofs.Ytoaobdeigangfaa
open Go.ChangeShapes Go.WideShapes Go.ChangeAt Go.RowKit
set_option linter.unusedVariables false

set_option maxRecDepth 20000 in
theorem walkPgS (W : World) (a0 : ByteArray) (hs0 : a0.size ≤ 1048576) :
    Calls Try.prog 12 #[.string a0] W fun e w' => e = .returned (.bool true) ∧ Below W.heap.size W w' := by
  go_enter Try.func12, Try.ntmps12
  go_wp2_with fail
  refine (specPg_any W a0 hs0).mono ?_
  rintro e w1 ⟨vw, rfl, ownvw, bel1⟩
  have b1 : Below W.heap.size W w1 := bel1
  clear bel1
  have Hvw : W.heap.size ≤ W.heap.size := Nat.le_refl _
  have Ovw := Lib.hid ownvw
  clear ownvw
  have hok : ((pgB a0) != (pgB a0)) = false := by simp
  have OOvw := Ovw
  go_wp2_with fail
  refine (implPg_any w1 a0 hs0).mono ?_
  rintro e w2 ⟨vg, rfl, ownvg, bel2⟩
  have b2 : Below W.heap.size W w2 := b1.trans (bel2.mono b1.size)
  have Ovw := Lib.hid (own_later Ovw.out bel2)
  clear bel2
  have Hvg : W.heap.size ≤ w1.heap.size := b1.size
  have Ovg := Lib.hid ownvg
  clear ownvg
  have Avwvg := Lib.hid (apart_of OOvw.out Ovg.out)
  have Avgvw := Lib.hid (apart_of' OOvw.out Ovg.out)
  have hlen := pgR_length a0
  go_wp2_with fail
  refine (eqIntS_own _ _ (pgR a0) (pgR a0).length (pgR a0).length w2 rfl rfl (by omega) Ovg.out Ovw.out).mono ?_
  rintro e w3 ⟨rfl, bel3⟩
  have b3 : Below W.heap.size W w3 := b2.trans (bel3.mono b2.size)
  have Ovw := Lib.hid (own_later Ovw.out bel3)
  have Ovg := Lib.hid (own_later Ovg.out bel3)
  clear bel3
  go_wp2_with fail
  refine (markIntS_any _ _ (pgR a0) (pgR a0).length w3 1 (by omega) (by omega) rfl (by omega) Ovg.out).mono ?_
  rintro e w4 ⟨rfl, ownvg, gr4⟩
  have b4 : Below W.heap.size W w4 := b3.grown gr4 b3.size (fun k hk => Nat.le_trans Hvg (Ovg.out.lt k hk).1)
  have Ovw := Lib.hid (Ovw.out.kept gr4 Avwvg.out)
  have Ovg := Lib.hid ownvg
  clear ownvg gr4
  have hmm : ((1 + ((pgR a0).length : Int)) != (1 + ((pgR a0).length : Int))) = false := by simp
  go_wp2_with fail
  refine (heldIntS_any _ _ (pgR a0) (pgR a0).length w4 1 (by omega) (by omega) rfl (by omega) Ovg.out).mono ?_
  rintro e w' ⟨rfl, rfl⟩
  have OOvw := Ovw
  have OOvg := Ovg
  go_wp2_with fail
  refine (implPg_any w4 a0 hs0).mono ?_
  rintro e w5 ⟨vh, rfl, ownvh, bel5⟩
  have b5 : Below W.heap.size W w5 := b4.trans (bel5.mono b4.size)
  have Ovw := Lib.hid (own_later Ovw.out bel5)
  have Ovg := Lib.hid (own_later Ovg.out bel5)
  clear bel5
  have Hvh : W.heap.size ≤ w4.heap.size := b4.size
  have Ovh := Lib.hid ownvh
  clear ownvh
  have Avwvh := Lib.hid (apart_of OOvw.out Ovh.out)
  have Avhvw := Lib.hid (apart_of' OOvw.out Ovh.out)
  have Avgvh := Lib.hid (apart_of OOvg.out Ovh.out)
  have Avhvg := Lib.hid (apart_of' OOvg.out Ovh.out)
  go_wp2_with fail
  refine (eqIntS_own _ _ (pgR a0) (pgR a0).length (pgR a0).length w5 rfl rfl (by omega) Ovh.out Ovw.out).mono ?_
  rintro e w6 ⟨rfl, bel6⟩
  have b6 : Below W.heap.size W w6 := b5.trans (bel6.mono b5.size)
  have Ovw := Lib.hid (own_later Ovw.out bel6)
  have Ovg := Lib.hid (own_later Ovg.out bel6)
  have Ovh := Lib.hid (own_later Ovh.out bel6)
  clear bel6
  go_wp2_with fail
  refine (heldIntS_any _ _ (pgR a0) (pgR a0).length w6 1 (by omega) (by omega) rfl (by omega) Ovg.out).mono ?_
  rintro e w' ⟨rfl, rfl⟩
  go_wp2_with fail
  go_ret
  exact ⟨rfl, b6⟩

theorem walkPg (W : World) (a0 : ByteArray) (w0 : a0.size ≤ maxLen) :
    Calls Try.prog 12 #[.string a0] W fun e w' => e = .returned (.bool true) ∧ Below W.heap.size W w' := by
  by_cases hs0 : a0.size ≤ 1048576
  · exact walkPgS W a0 hs0
  · unfold maxLen at w0
    go_enter Try.func12, Try.ntmps12
    go_wp2_with fail
    go_ret
    exact ⟨rfl, Below.refl _ _⟩

end Go.Proofs.Ytoaobdeigangfaa
