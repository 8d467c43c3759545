/- The walk of the law FnExactFirstTelling: it answers true and turns nothing that was there. -/
import Derived.Test.YtcedacneagpjcaaFt
import Derived.Test.YtcedacneagpjcaaOpen
namespace Go.Proofs.Ytcedacneagpjcaa
open Go.ChangeShapes Go.WideShapes Go.ChangeAt Go.RowKit
set_option linter.unusedVariables false

set_option maxHeartbeats 800000 in
set_option maxRecDepth 20000 in
theorem walkFt (W : World) (a0 : Int) (_w0 : (Lit.int .i64 a0).wf = true) :
    Calls Try.prog 5 #[.int .i64 a0] W fun e w' => e = .returned (.bool true) ∧ Below W.heap.size W w' := by
  have hL1 := ftA_len a0
  have hL2 := ftB_len a0
  have hok : ((ftO a0) != (ftO a0)) = false := by simp
  go_enter Try.func5, Try.ntmps5
  go_wp2_with fail
  refine (specFt_any W a0).mono ?_
  rintro e w1 ⟨vw, uw, rfl, ow, ou, _, b1⟩
  have Ow := Lib.hid ow
  have Ou := Lib.hid ou
  have h1 := b1.size
  have B1 := Lib.hid b1
  clear ow ou b1
  go_wp2_with fail
  refine (implFt_any w1 a0).mono ?_
  rintro e w2 ⟨vg, vh, rfl, og, oh, ap, d2⟩
  have Og := Lib.hid og
  have Oh := Lib.hid oh
  have Ow2 := Lib.hid (own_later Ow.out d2)
  have Ou2 := Lib.hid (own_later Ou.out d2)
  have APP := Lib.hid ap
  have D2 := Lib.hid d2
  clear og oh ap d2
  go_wp2_with fail
  refine (eqIntS_own _ _ (ftA a0) (ftA a0).length (ftA a0).length w2 rfl rfl (by omega) Og.out Ow2.out).mono ?_
  rintro e w3 ⟨rfl, bel⟩
  have D3 := Lib.hid (D2.out.trans (bel.mono D2.out.size))
  have Og3 := Lib.hid (own_later Og.out bel)
  have Oh3 := Lib.hid (own_later Oh.out bel)
  have Ou3 := Lib.hid (own_later Ou2.out bel)
  clear bel
  go_wp2_with fail
  refine (eqIntS_own _ _ (ftB a0) (ftB a0).length (ftB a0).length w3 rfl rfl (by omega) Oh3.out Ou3.out).mono ?_
  rintro e w4 ⟨rfl, bel⟩
  have D4 := Lib.hid (D3.out.trans (bel.mono D3.out.size))
  have Og4 := Lib.hid (own_later Og3.out bel)
  have Oh4 := Lib.hid (own_later Oh3.out bel)
  clear bel
  go_wp2_with fail
  refine (markIntS_any _ _ (ftA a0) (ftA a0).length w4 1 (by omega) (by omega) rfl (by omega) Og4.out).mono ?_
  rintro e w5 ⟨rfl, own5, gr5⟩
  have D5 := Lib.hid (D4.out.grown gr5 D4.out.size (fun k hk => (Og4.out.lt k hk).1))
  have Oh5 := Lib.hid (APP.out.kept Oh4.out gr5)
  have Og5 := Lib.hid own5
  clear own5 gr5
  go_wp2_with fail
  refine (markIntS_any _ _ (ftB a0) (ftB a0).length w5 (1 + ((ftA a0).length : Int)) (by omega) (by omega) rfl (by omega) Oh5.out).mono ?_
  rintro e w6 ⟨rfl, own6, gr6⟩
  have D6 := Lib.hid (D5.out.grown gr6 D5.out.size (fun k hk => (Oh5.out.lt k hk).1))
  have Og6 := Lib.hid (APP.out.symm.kept Og5.out gr6)
  have Oh6 := Lib.hid own6
  clear own6 gr6
  have hmm : ((1 + ((ftA a0).length : Int) + ((ftB a0).length : Int)) != (1 + ((ftA a0).length : Int) + ((ftB a0).length : Int))) = false := by simp
  go_wp2_with fail
  refine (heldIntS_any _ _ (ftA a0) (ftA a0).length w6 1 (by omega) (by omega) rfl (by omega) Og6.out).mono ?_
  rintro e w' ⟨rfl, rfl⟩
  go_wp2_with fail
  refine (heldIntS_any _ _ (ftB a0) (ftB a0).length w6 (1 + ((ftA a0).length : Int)) (by omega) (by omega) rfl (by omega) Oh6.out).mono ?_
  rintro e w' ⟨rfl, rfl⟩
  go_wp2_with fail
  refine (implFt_any w6 a0).mono ?_
  rintro e w7 ⟨vk, vl, rfl, ok7, ol7, _, bel⟩
  have D7 := Lib.hid (D6.out.trans (bel.mono D6.out.size))
  have Og7 := Lib.hid (own_later Og6.out bel)
  have Oh7 := Lib.hid (own_later Oh6.out bel)
  have Ow7 := Lib.hid (own_later Ow.out D7.out)
  have Ou7 := Lib.hid (own_later Ou.out D7.out)
  have Ok7 := Lib.hid ok7
  have Ol7 := Lib.hid ol7
  clear bel ok7 ol7
  go_wp2_with fail
  refine (eqIntS_own _ _ (ftA a0) (ftA a0).length (ftA a0).length w7 rfl rfl (by omega) Ok7.out Ow7.out).mono ?_
  rintro e w8 ⟨rfl, bel⟩
  have D8 := Lib.hid (D7.out.trans (bel.mono D7.out.size))
  have Og8 := Lib.hid (own_later Og7.out bel)
  have Oh8 := Lib.hid (own_later Oh7.out bel)
  have Ol8 := Lib.hid (own_later Ol7.out bel)
  have Ou8 := Lib.hid (own_later Ou7.out bel)
  clear bel
  go_wp2_with fail
  refine (eqIntS_own _ _ (ftB a0) (ftB a0).length (ftB a0).length w8 rfl rfl (by omega) Ol8.out Ou8.out).mono ?_
  rintro e w9 ⟨rfl, bel⟩
  have D9 := Lib.hid (D8.out.trans (bel.mono D8.out.size))
  have Og9 := Lib.hid (own_later Og8.out bel)
  have Oh9 := Lib.hid (own_later Oh8.out bel)
  clear bel
  go_wp2_with fail
  refine (heldIntS_any _ _ (ftA a0) (ftA a0).length w9 1 (by omega) (by omega) rfl (by omega) Og9.out).mono ?_
  rintro e w' ⟨rfl, rfl⟩
  go_wp2_with fail
  refine (heldIntS_any _ _ (ftB a0) (ftB a0).length w9 (1 + ((ftA a0).length : Int)) (by omega) (by omega) rfl (by omega) Oh9.out).mono ?_
  rintro e w' ⟨rfl, rfl⟩
  go_wp2_with fail
  go_ret
  exact ⟨rfl, B1.out.trans (D9.out.mono h1)⟩

end Go.Proofs.Ytcedacneagpjcaa
