/- The walk of the law FnExactStarNet: it answers true and turns nothing that was there. -/
import Derived.Test.YtbddhjpofijmpaaNetS
import Derived.Test.YtbddhjpofijmpaaNetX
import Derived.Test.YtbddhjpofijmpaaOpen
namespace Go.Proofs.Ytbddhjpofijmpaa
open Go.ChangeShapes Go.WideShapes Go.ChangeAt Go.RowKit
set_option linter.unusedVariables false

def starB (f x : Int) : Bool := frB f && decide (0 ≤ x ∧ x < f)
def starN (f x : Int) : List (Int × Int) := netR (frB f && decide (0 ≤ x ∧ x < f)) 2 x.toNat f
theorem starN_len (f x : Int) : (starN f x).length ≤ 100 := netR_len _ _ (fun h => by simp [frB] at h; omega)
theorem specStarN (w : World) (f x : Int) :
    Calls Try.prog 23 #[.int .i64 f, .int .i64 x] w fun e w' => ∃ v, e = .returned (.tuple #[v, .bool (starB f x)]) ∧ w'.ownsRow w.heap.size 46 2 v (starN f x).length (cs (starN f x)) ∧ Below w.heap.size w w' := specStar_any w f x
theorem implStarN (w : World) (f x : Int) :
    Calls Try.prog 24 #[.int .i64 f, .int .i64 x] w fun e w' => ∃ v, e = .returned (.tuple #[v, .bool (starB f x)]) ∧ w'.ownsRow w.heap.size 46 2 v (starN f x).length (cs (starN f x)) ∧ Below w.heap.size w w' := implStar_any w f x

set_option maxRecDepth 20000 in
theorem walkStar (W : World) (a0 : Int) (_w0 : (Lit.int .i64 a0).wf = true) (a1 : Int) (_w1 : (Lit.int .i64 a1).wf = true) :
    Calls Try.prog 6 #[.int .i64 a0, .int .i64 a1] W fun e w' => e = .returned (.bool true) ∧ Below W.heap.size W w' := by
  go_enter Try.func6, Try.ntmps6
  go_wp2_with fail
  refine (specStarN W a0 a1).mono ?_
  rintro e w1 ⟨vw, rfl, ownvw, bel1⟩
  have b1 : Below W.heap.size W w1 := bel1
  clear bel1
  have Hvw : W.heap.size ≤ W.heap.size := Nat.le_refl _
  have Ovw := Lib.hid ownvw
  clear ownvw
  have hok : ((starB a0 a1) != (starB a0 a1)) = false := by simp
  have OOvw := Ovw
  go_wp2_with fail
  refine (implStarN w1 a0 a1).mono ?_
  rintro e w2 ⟨vg, rfl, ownvg, bel2⟩
  have b2 : Below W.heap.size W w2 := b1.trans (bel2.mono b1.size)
  have Ovw := Lib.hid (own_later Ovw.out bel2)
  clear bel2
  have Hvg : W.heap.size ≤ w1.heap.size := b1.size
  have Ovg := Lib.hid ownvg
  clear ownvg
  have Avwvg := Lib.hid (apart_of OOvw.out Ovg.out)
  have Avgvw := Lib.hid (apart_of' OOvw.out Ovg.out)
  have hlen := starN_len a0 a1
  go_wp2_with fail
  refine (eqCallS_own _ _ (starN a0 a1) (starN a0 a1).length (starN a0 a1).length w2 rfl rfl (by omega) Ovg.out Ovw.out).mono ?_
  rintro e w3 ⟨rfl, bel3⟩
  have b3 : Below W.heap.size W w3 := b2.trans (bel3.mono b2.size)
  have Ovw := Lib.hid (own_later Ovw.out bel3)
  have Ovg := Lib.hid (own_later Ovg.out bel3)
  clear bel3
  go_wp2_with fail
  refine (markCallS_any _ _ (starN a0 a1) (starN a0 a1).length w3 rfl (by omega) Ovg.out).mono ?_
  rintro e w4 ⟨rfl, ownvg, gr4⟩
  have b4 : Below W.heap.size W w4 := b3.grown gr4 b3.size (fun k hk => Nat.le_trans Hvg (Ovg.out.lt k hk).1)
  have Ovw := Lib.hid (Ovw.out.kept gr4 Avwvg.out)
  have Ovg := Lib.hid ownvg
  clear ownvg gr4
  have hmm : ((1 + 2 * ((starN a0 a1).length : Int)) != (1 + 2 * ((starN a0 a1).length : Int))) = false := by simp
  go_wp2_with fail
  refine (heldCallS_any _ _ (starN a0 a1) (starN a0 a1).length w4 rfl (by omega) Ovg.out).mono ?_
  rintro e w' ⟨rfl, rfl⟩
  have OOvw := Ovw
  have OOvg := Ovg
  go_wp2_with fail
  refine (implStarN w4 a0 a1).mono ?_
  rintro e w5 ⟨vh, rfl, ownvh, bel5⟩
  have b5 : Below W.heap.size W w5 := b4.trans (bel5.mono b4.size)
  have Ovw := Lib.hid (own_later Ovw.out bel5)
  have Ovg := Lib.hid (own_later Ovg.out bel5)
  clear bel5
  have Hvh : W.heap.size ≤ w4.heap.size := b4.size
  have Ovh := Lib.hid ownvh
  clear ownvh
  have Avwvh := Lib.hid (apart_of OOvw.out Ovh.out)
  have Avhvw := Lib.hid (apart_of' OOvw.out Ovh.out)
  have Avgvh := Lib.hid (apart_of OOvg.out Ovh.out)
  have Avhvg := Lib.hid (apart_of' OOvg.out Ovh.out)
  go_wp2_with fail
  refine (eqCallS_own _ _ (starN a0 a1) (starN a0 a1).length (starN a0 a1).length w5 rfl rfl (by omega) Ovh.out Ovw.out).mono ?_
  rintro e w6 ⟨rfl, bel6⟩
  have b6 : Below W.heap.size W w6 := b5.trans (bel6.mono b5.size)
  have Ovw := Lib.hid (own_later Ovw.out bel6)
  have Ovg := Lib.hid (own_later Ovg.out bel6)
  have Ovh := Lib.hid (own_later Ovh.out bel6)
  clear bel6
  go_wp2_with fail
  refine (heldCallS_any _ _ (starN a0 a1) (starN a0 a1).length w6 rfl (by omega) Ovg.out).mono ?_
  rintro e w' ⟨rfl, rfl⟩
  go_wp2_with fail
  go_ret
  exact ⟨rfl, b6⟩

end Go.Proofs.Ytbddhjpofijmpaa
