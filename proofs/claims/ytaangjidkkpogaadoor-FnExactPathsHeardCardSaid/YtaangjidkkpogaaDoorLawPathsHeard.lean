/- The law on PathsHeard, walked. -/
import Derived.Test.YtaangjidkkpogaaDoorPhT
namespace Go.Proofs.YtaangjidkkpogaaDoor
open Go.ChangeShapes Go.WideShapes Go.ChangeAt Go.RowKit
set_option linter.unusedVariables false

set_option maxRecDepth 20000 in
theorem lawPathsHeardS (W : World) (a0 : ByteArray) (_w0 : a0.size ≤ maxLen) (a1 : Int) (_w1 : (Lit.int .i64 a1).wf = true) (a2 : Int) (_w2 : (Lit.int .i64 a2).wf = true) (hs0 : a0.size ≤ 1048576) :
    Calls Tryd.prog 6 #[.string a0, .int .i64 a1, .int .i64 a2] W fun e w' => e = .returned (.bool true) ∧ Below W.heap.size W w' := by
  have hlen := phR_len2 a0 a1 a2
  have hok : ((phB a0 a1 a2) != (phB a0 a1 a2)) = false := by simp
  have hbg0 : decide ((a0.size : Int) > 1048576) = false := by simp; omega
  go_enter Tryd.func6, Tryd.ntmps6
  go_wp2_with fail
  refine (specPH_any W a0 hs0 a1 a2).mono ?_
  rintro e w1 ⟨vw, rfl, ownvw, bel1⟩
  have s1 := bel1.size
  have b1 : Below W.heap.size W w1 := bel1
  have Ovw := Lib.hid ownvw
  clear ownvw
  clear bel1
  have hW2 := b1.size
  have OW := Ovw
  go_wp2_with fail
  refine (implPH_any w1 a0 hs0 a1 a2).mono ?_
  rintro e w2 ⟨vg, rfl, ownvg, bel2⟩
  have s2 := bel2.size
  have d2 : Below w1.heap.size w1 w2 := bel2
  have Ovg := Lib.hid ownvg
  clear ownvg
  clear bel2
  have Ovw := Lib.hid (own_later OW.out d2)
  go_wp2_with fail
  refine (eqIntS_own _ _ (phR a0 a1 a2) (phR a0 a1 a2).length (phR a0 a1 a2).length w2 rfl rfl (by omega) Ovg.out Ovw.out).mono ?_
  rintro e w3 ⟨rfl, bel3⟩
  have s3 := bel3.size
  have d3 : Below w1.heap.size w1 w3 := d2.trans (bel3.mono d2.size)
  have Ovg := Lib.hid (own_later Ovg.out bel3)
  clear bel3
  go_wp2_with fail
  refine (markIntS_any _ vg (phR a0 a1 a2) (phR a0 a1 a2).length w3 1 (by omega) (by omega) rfl (by omega) Ovg.out).mono ?_
  rintro e w4 ⟨rfl, ownm, gr4⟩
  have s4 := gr4.size
  have d4 : Below w1.heap.size w1 w4 := d3.grown gr4 d3.size (fun k hk => Nat.le_trans (by omega) (Ovg.out.lt k hk).1)
  have Om := Lib.hid ownm
  clear ownm gr4
  have hmm : ((1 + ((phR a0 a1 a2).length : Int)) != (1 + ((phR a0 a1 a2).length : Int))) = false := by simp
  go_wp2_with fail
  refine (heldIntS_any _ vg (phR a0 a1 a2) (phR a0 a1 a2).length w4 1 (by omega) (by omega) rfl (by omega) Om.out).mono ?_
  rintro e w' ⟨rfl, rfl⟩
  go_wp2_with fail
  refine (implPH_any w4 a0 hs0 a1 a2).mono ?_
  rintro e w5 ⟨vh, rfl, ownvh, bel5⟩
  have s5 := bel5.size
  have d5 : Below w1.heap.size w1 w5 := d4.trans (bel5.mono d4.size)
  have Om := Lib.hid (own_later Om.out bel5)
  have Ovh := Lib.hid ownvh
  clear ownvh
  clear bel5
  have Ovw := Lib.hid (own_later OW.out d5)
  go_wp2_with fail
  refine (eqIntS_own _ _ (phR a0 a1 a2) (phR a0 a1 a2).length (phR a0 a1 a2).length w5 rfl rfl (by omega) Ovh.out Ovw.out).mono ?_
  rintro e w6 ⟨rfl, bel6⟩
  have s6 := bel6.size
  have d6 : Below w1.heap.size w1 w6 := d5.trans (bel6.mono d5.size)
  have Om := Lib.hid (own_later Om.out bel6)
  have Ovh := Lib.hid (own_later Ovh.out bel6)
  clear bel6
  go_wp2_with fail
  refine (heldIntS_any _ vg (phR a0 a1 a2) (phR a0 a1 a2).length w6 1 (by omega) (by omega) rfl (by omega) Om.out).mono ?_
  rintro e w' ⟨rfl, rfl⟩
  go_wp2_with fail
  go_ret
  exact ⟨rfl, (b1.trans (d6.mono hW2))⟩

set_option maxRecDepth 20000 in
theorem lawPathsHeard (W : World) (a0 : ByteArray) (_w0 : a0.size ≤ maxLen) (a1 : Int) (_w1 : (Lit.int .i64 a1).wf = true) (a2 : Int) (_w2 : (Lit.int .i64 a2).wf = true) :
    Calls Tryd.prog 6 #[.string a0, .int .i64 a1, .int .i64 a2] W fun e w' => e = .returned (.bool true) ∧ Below W.heap.size W w' := by
  by_cases hs0 : a0.size ≤ 1048576
  · exact lawPathsHeardS W a0 _w0 a1 _w1 a2 _w2 hs0
  · have hbg : decide ((a0.size : Int) > 1048576) = true := by simp; omega
    go_enter Tryd.func6, Tryd.ntmps6
    go_wp2_with fail
    go_ret
    exact ⟨rfl, Below.refl _ _⟩

end Go.Proofs.YtaangjidkkpogaaDoor
