/- The walk of the law FnExactMakePuzzle. -/
import Derived.Test.YtmgmkgjefplfdaaMks
import Derived.Test.YtmgmkgjefplfdaaAbv
import Derived.Test.YtmgmkgjefplfdaaDfp
namespace Go.Proofs.Ytmgmkgjefplfdaa
open Go.ChangeShapes Go.WideShapes Go.ChangeAt Go.RowKit
set_option linter.unusedVariables false

set_option maxHeartbeats 1600000 in
set_option maxRecDepth 20000 in
theorem walkMkS (W : World) (a0 : Int) (_w0 : (Lit.int .i64 a0).wf = true) (o1 : Option Addr) (n1 c1 : Nat) (l1 : List (Int × Int)) (q1n : n1 = l1.length) (q1m : n1 ≤ 9223372036854775807) (q1c : CallsAt W o1 l1) (a2 : Int) (_w2 : (Lit.int .i64 a2).wf = true) (a3 : Int) (_w3 : (Lit.int .i64 a3).wf = true) (hs1 : n1 ≤ 1048576) :
    Calls Try.prog 17 #[.int .i64 a0, .slice o1 n1 c1, .int .i64 a2, .int .i64 a3] W fun e w' => e = .returned (.bool true) ∧ Below W.heap.size W w' := by
  have Hn1 := Lib.hid q1n
  have Hc1 := Lib.hid q1c
  clear q1n q1c
  have hlen := mkL_len a0 l1 a2 a3
  have hok : ((mkB a0 l1 a2 a3) != (mkB a0 l1 a2 a3)) = false := by simp
  go_enter Try.func17, Try.ntmps17
  have hdl1 : decide ((1048576 : Int) - (n1 : Int) < 0) = false := by simp; omega
  go_wp2_with fail
  refine (szCall_fit o1 n1 c1 W hs1).mono ?_
  rintro e w' ⟨rfl, rfl⟩
  go_wp2_with fail
  refine (toCallS_any o1 c1 l1 n1 W Hn1 hs1 Hc1.out).mono ?_
  rintro e w1 ⟨capy1, rfl, owny1, bel1⟩
  have s1 := bel1.size
  have b1 : Below W.heap.size W w1 := bel1
  have Oy1 := Lib.hid owny1
  clear owny1 bel1
  go_wp2_with fail
  refine (specMk_any w1 a0 _ capy1 l1 n1 Hn1 hs1 (own_cap2 Oy1.out) (own_at Oy1.out Hn1.out) a2 a3).mono ?_
  rintro e w2 ⟨vw, rfl, ownvw, bel2⟩
  have s2 := bel2.size
  have b2 : Below W.heap.size W w2 := b1.trans (bel2.mono b1.size)
  have Oy1 := Lib.hid (own_later Oy1.out bel2)
  obtain ⟨avw, cvw, rfl, _⟩ := kown_shape ownvw rfl
  have Ovw := Lib.hid ownvw
  clear ownvw
  clear bel2
  have OPvw := Ovw
  obtain ⟨w3, hwrvw, bel3, hsrvw, rrvw⟩ := box1 w2 #[.int .i64 (mkF a0 l1 a2 a3), .int .i64 (mkG a0 l1 a2 a3), .slice avw (mkL a0 l1 a2 a3).length cvw] 35
  have hsqvw : w2.heap.size < w3.heap.size := by omega
  clear hsrvw
  have HWrvw := Lib.hid hwrvw
  clear hwrvw
  have HXRvw := Lib.hid rrvw
  clear rrvw
  have s3 := bel3.size
  have b3 : Below W.heap.size W w3 := b2.trans (bel3.mono b2.size)
  have Oy1 := Lib.hid (own_later Oy1.out bel3)
  have Ovw := Lib.hid (own_later Ovw.out bel3)
  clear bel3
  go_upto_region 6 with (fail)
  rw [HWrvw.out]
  clear Oy1
  have hW2 := b3.size
  have OW := Ovw
  go_wp2_with fail
  refine (toCallS_any o1 c1 l1 n1 w3 Hn1 hs1 (Hc1.out.kept b3)).mono ?_
  rintro e w4 ⟨capx1, rfl, ownx1, bel4⟩
  have s4 := bel4.size
  have d4 : Below w3.heap.size w3 w4 := bel4
  have Ox1 := Lib.hid ownx1
  clear ownx1 bel4
  have OX1 := Ox1
  go_wp2_with fail
  refine (implMk_any w4 a0 _ capx1 l1 n1 Hn1 hs1 (own_cap2 Ox1.out) (own_at Ox1.out Hn1.out) a2 a3).mono ?_
  rintro e w5 ⟨vg, rfl, ownvg, bel5⟩
  have s5 := bel5.size
  have d5 : Below w3.heap.size w3 w5 := d4.trans (bel5.mono d4.size)
  have Ox1 := Lib.hid (own_later Ox1.out bel5)
  obtain ⟨avg, cvg, rfl, _⟩ := kown_shape ownvg rfl
  have Ovg := Lib.hid ownvg
  clear ownvg
  clear bel5
  have OPvg := Ovg
  obtain ⟨w6, hwrvg, bel6, hsrvg, rrvg⟩ := box1 w5 #[.int .i64 (mkF a0 l1 a2 a3), .int .i64 (mkG a0 l1 a2 a3), .slice avg (mkL a0 l1 a2 a3).length cvg] 35
  have hsqvg : w5.heap.size < w6.heap.size := by omega
  clear hsrvg
  have HWrvg := Lib.hid hwrvg
  clear hwrvg
  have HXRvg := Lib.hid rrvg
  clear rrvg
  have s6 := bel6.size
  have d6 : Below w3.heap.size w3 w6 := d5.trans (bel6.mono d5.size)
  have Ox1 := Lib.hid (own_later Ox1.out bel6)
  have Ovg := Lib.hid (own_later Ovg.out bel6)
  clear bel6
  go_upto_region 8 with (fail)
  rw [HWrvg.out]
  have Ovw := Lib.hid (own_later OW.out d6)
  have bxvg0 : w6.cell? ⟨w5.heap.size, 0, none⟩ = some (.int .i64 (mkF a0 l1 a2 a3)) := cell_of_row _ _ _ _ _ _ HXRvg.out
  have bxvg1 : w6.cell? ⟨w5.heap.size, 1, none⟩ = some (.int .i64 (mkG a0 l1 a2 a3)) := cell_of_row _ _ _ _ _ _ HXRvg.out
  have bxvg2 : w6.cell? ⟨w5.heap.size, 2, none⟩ = some (.slice avg (mkL a0 l1 a2 a3).length cvg) := cell_of_row _ _ _ _ _ _ HXRvg.out
  have bxvw0 : w6.cell? ⟨w2.heap.size, 0, none⟩ = some (.int .i64 (mkF a0 l1 a2 a3)) := cell_of_row _ _ _ _ _ _ (row_later HXRvw.out d6)
  have bxvw1 : w6.cell? ⟨w2.heap.size, 1, none⟩ = some (.int .i64 (mkG a0 l1 a2 a3)) := cell_of_row _ _ _ _ _ _ (row_later HXRvw.out d6)
  have bxvw2 : w6.cell? ⟨w2.heap.size, 2, none⟩ = some (.slice avw (mkL a0 l1 a2 a3).length cvw) := cell_of_row _ _ _ _ _ _ (row_later HXRvw.out d6)
  go_wp2_with fail
  clear bxvg0 bxvg1 bxvg2 bxvw0 bxvw1 bxvw2
  refine (eqPuzzle_own (mkF a0 l1 a2 a3) (mkG a0 l1 a2 a3) _ _ (mkL a0 l1 a2 a3) (mkL a0 l1 a2 a3).length (mkL a0 l1 a2 a3).length w6 rfl rfl (by omega) Ovg.out Ovw.out).mono ?_
  rintro e w7 ⟨rfl, bel7⟩
  have s7 := bel7.size
  have d7 : Below w3.heap.size w3 w7 := d6.trans (bel7.mono d6.size)
  have HXRvg := Lib.hid (row_later HXRvg.out bel7)
  have Ox1 := Lib.hid (own_later Ox1.out bel7)
  have Ovg := Lib.hid (own_later Ovg.out bel7)
  clear bel7
  go_wp2_with fail
  refine (toCallS_any o1 c1 l1 n1 w7 Hn1 hs1 (Hc1.out.kept (b3.trans (d7.mono hW2)))).mono ?_
  rintro e w8 ⟨capz1, rfl, ownz1, bel8⟩
  have s8 := bel8.size
  have d8 : Below w3.heap.size w3 w8 := d7.trans (bel8.mono d7.size)
  have HXRvg := Lib.hid (row_later HXRvg.out bel8)
  have Ox1 := Lib.hid (own_later Ox1.out bel8)
  have Ovg := Lib.hid (own_later Ovg.out bel8)
  have Oz1 := Lib.hid ownz1
  clear ownz1 bel8
  go_wp2_with fail
  refine (eqCallS_own _ _ l1 n1 n1 w8 Hn1.out Hn1.out (by omega) Ox1.out Oz1.out).mono ?_
  rintro e w9 ⟨rfl, bel9⟩
  have s9 := bel9.size
  have d9 : Below w3.heap.size w3 w9 := d8.trans (bel9.mono d8.size)
  have HXRvg := Lib.hid (row_later HXRvg.out bel9)
  have Ox1 := Lib.hid (own_later Ox1.out bel9)
  have Ovg := Lib.hid (own_later Ovg.out bel9)
  clear bel9 Oz1
  go_wp2_with fail
  refine (markCallS_any _ _ l1 n1 w9 (1) (by omega) (by omega) Hn1.out (by omega) Ox1.out).mono ?_
  rintro e w10 ⟨rfl, ownm, gr10⟩
  have be10 : Below w3.heap.size w9 w10 := (Below.refl _ _).grown gr10 (by omega) (fun k hk => (Ox1.out.lt k hk).1)
  have ab10 : Above w4.heap.size w9 w10 := Above.one gr10 (fun b hb => (OX1.out.lt b hb).2)
  clear ownm gr10
  have s10 := be10.size
  have d10 : Below w3.heap.size w3 w10 := d9.trans (be10.mono (by omega))
  have Ovg := Lib.hid (own_above Ovg.out ab10 (by omega))
  have HXRvg := Lib.hid ((ab10.2 _ (by omega) (by omega)).trans HXRvg.out)
  clear be10 ab10
  have hk0 : decide (1 + 2 * (n1 : Int) < 0) = false := by simp; omega
  have Ovw := Lib.hid (own_later OW.out d10)
  have bxvg0 : w10.cell? ⟨w5.heap.size, 0, none⟩ = some (.int .i64 (mkF a0 l1 a2 a3)) := cell_of_row _ _ _ _ _ _ HXRvg.out
  have bxvg1 : w10.cell? ⟨w5.heap.size, 1, none⟩ = some (.int .i64 (mkG a0 l1 a2 a3)) := cell_of_row _ _ _ _ _ _ HXRvg.out
  have bxvg2 : w10.cell? ⟨w5.heap.size, 2, none⟩ = some (.slice avg (mkL a0 l1 a2 a3).length cvg) := cell_of_row _ _ _ _ _ _ HXRvg.out
  have bxvw0 : w10.cell? ⟨w2.heap.size, 0, none⟩ = some (.int .i64 (mkF a0 l1 a2 a3)) := cell_of_row _ _ _ _ _ _ (row_later HXRvw.out d10)
  have bxvw1 : w10.cell? ⟨w2.heap.size, 1, none⟩ = some (.int .i64 (mkG a0 l1 a2 a3)) := cell_of_row _ _ _ _ _ _ (row_later HXRvw.out d10)
  have bxvw2 : w10.cell? ⟨w2.heap.size, 2, none⟩ = some (.slice avw (mkL a0 l1 a2 a3).length cvw) := cell_of_row _ _ _ _ _ _ (row_later HXRvw.out d10)
  go_wp2_with fail
  clear bxvg0 bxvg1 bxvg2 bxvw0 bxvw1 bxvw2
  refine (eqPuzzle_own (mkF a0 l1 a2 a3) (mkG a0 l1 a2 a3) _ _ (mkL a0 l1 a2 a3) (mkL a0 l1 a2 a3).length (mkL a0 l1 a2 a3).length w10 rfl rfl (by omega) Ovg.out Ovw.out).mono ?_
  rintro e w11 ⟨rfl, bel11⟩
  have s11 := bel11.size
  have d11 : Below w3.heap.size w3 w11 := d10.trans (bel11.mono d10.size)
  have HXRvg := Lib.hid (row_later HXRvg.out bel11)
  have Ovg := Lib.hid (own_later Ovg.out bel11)
  clear bel11
  have bxvg0 : w11.cell? ⟨w5.heap.size, 0, none⟩ = some (.int .i64 (mkF a0 l1 a2 a3)) := cell_of_row _ _ _ _ _ _ HXRvg.out
  have bxvg1 : w11.cell? ⟨w5.heap.size, 1, none⟩ = some (.int .i64 (mkG a0 l1 a2 a3)) := cell_of_row _ _ _ _ _ _ HXRvg.out
  have bxvg2 : w11.cell? ⟨w5.heap.size, 2, none⟩ = some (.slice avg (mkL a0 l1 a2 a3).length cvg) := cell_of_row _ _ _ _ _ _ HXRvg.out
  go_wp2_with fail
  clear bxvg0 bxvg1 bxvg2
  refine (markPuzzle_any (mkF a0 l1 a2 a3) (mkG a0 l1 a2 a3) _ _ (mkL a0 l1 a2 a3) (mkL a0 l1 a2 a3).length w11 1 (by omega) (by omega) rfl (by omega) Ovg.out).mono ?_
  rintro e w12 ⟨rfl, ownm, wm, bem12, gr12⟩
  have sm12 := bem12.size
  have sg12 := gr12.size
  have s12 : w11.heap.size ≤ w12.heap.size := by omega
  have d12 : Below w3.heap.size w3 w12 := (d11.trans (bem12.mono d11.size)).grown gr12 (Nat.le_trans d11.size bem12.size) (fun k hk => Nat.le_trans (by omega) (Ovg.out.lt k hk).1)
  have abg : Above w5.heap.size w11 w12 := Above.two bem12 gr12 (fun b hb => (OPvg.out.lt b hb).2)
  have HXRvg := Lib.hid ((abg.2 _ (by omega) (by omega)).trans HXRvg.out)
  clear abg
  have Om := Lib.hid ownm
  clear ownm gr12 bem12
  have hmm : ((1 + 4 * ((mkL a0 l1 a2 a3).length : Int)) != (1 + 4 * ((mkL a0 l1 a2 a3).length : Int))) = false := by simp
  have hm0 : decide ((1 + 4 * ((mkL a0 l1 a2 a3).length : Int)) < 0) = false := by simp; omega
  have bxvg0 : w12.cell? ⟨w5.heap.size, 0, none⟩ = some (.int .i64 (mkF a0 l1 a2 a3)) := cell_of_row _ _ _ _ _ _ HXRvg.out
  have bxvg1 : w12.cell? ⟨w5.heap.size, 1, none⟩ = some (.int .i64 (mkG a0 l1 a2 a3)) := cell_of_row _ _ _ _ _ _ HXRvg.out
  have bxvg2 : w12.cell? ⟨w5.heap.size, 2, none⟩ = some (.slice avg (mkL a0 l1 a2 a3).length cvg) := cell_of_row _ _ _ _ _ _ HXRvg.out
  go_wp2_with fail
  clear bxvg0 bxvg1 bxvg2
  refine (heldPuzzle_any (mkF a0 l1 a2 a3) (mkG a0 l1 a2 a3) _ _ (mkL a0 l1 a2 a3) (mkL a0 l1 a2 a3).length w12 1 (by omega) (by omega) rfl (by omega) Om.out).mono ?_
  rintro e w13 ⟨rfl, bel13⟩
  have s13 := bel13.size
  have d13 : Below w3.heap.size w3 w13 := d12.trans (bel13.mono d12.size)
  have HXRvg := Lib.hid (row_later HXRvg.out bel13)
  have Om := Lib.hid (own_later Om.out bel13)
  clear bel13
  go_wp2_with fail
  refine (toCallS_any o1 c1 l1 n1 w13 Hn1 hs1 (Hc1.out.kept (b3.trans (d13.mono hW2)))).mono ?_
  rintro e w14 ⟨capu1, rfl, ownu1, bel14⟩
  have s14 := bel14.size
  have d14 : Below w3.heap.size w3 w14 := d13.trans (bel14.mono d13.size)
  have HXRvg := Lib.hid (row_later HXRvg.out bel14)
  have Om := Lib.hid (own_later Om.out bel14)
  have Ou1 := Lib.hid ownu1
  clear ownu1 bel14
  go_wp2_with fail
  refine (implMk_any w14 a0 _ capu1 l1 n1 Hn1 hs1 (own_cap2 Ou1.out) (own_at Ou1.out Hn1.out) a2 a3).mono ?_
  rintro e w15 ⟨vh, rfl, ownvh, bel15⟩
  have s15 := bel15.size
  have d15 : Below w3.heap.size w3 w15 := d14.trans (bel15.mono d14.size)
  have HXRvg := Lib.hid (row_later HXRvg.out bel15)
  have Om := Lib.hid (own_later Om.out bel15)
  have Ou1 := Lib.hid (own_later Ou1.out bel15)
  obtain ⟨avh, cvh, rfl, _⟩ := kown_shape ownvh rfl
  have Ovh := Lib.hid ownvh
  clear ownvh
  clear bel15
  have OPvh := Ovh
  obtain ⟨w16, hwrvh, bel16, hsrvh, rrvh⟩ := box1 w15 #[.int .i64 (mkF a0 l1 a2 a3), .int .i64 (mkG a0 l1 a2 a3), .slice avh (mkL a0 l1 a2 a3).length cvh] 35
  have hsqvh : w15.heap.size < w16.heap.size := by omega
  clear hsrvh
  have HWrvh := Lib.hid hwrvh
  clear hwrvh
  have HXRvh := Lib.hid rrvh
  clear rrvh
  have s16 := bel16.size
  have d16 : Below w3.heap.size w3 w16 := d15.trans (bel16.mono d15.size)
  have HXRvg := Lib.hid (row_later HXRvg.out bel16)
  have Om := Lib.hid (own_later Om.out bel16)
  have Ou1 := Lib.hid (own_later Ou1.out bel16)
  have Ovh := Lib.hid (own_later Ovh.out bel16)
  clear bel16
  go_upto_region 25 with (fail)
  rw [HWrvh.out]
  have Ovw := Lib.hid (own_later OW.out d16)
  have bxvh0 : w16.cell? ⟨w15.heap.size, 0, none⟩ = some (.int .i64 (mkF a0 l1 a2 a3)) := cell_of_row _ _ _ _ _ _ HXRvh.out
  have bxvh1 : w16.cell? ⟨w15.heap.size, 1, none⟩ = some (.int .i64 (mkG a0 l1 a2 a3)) := cell_of_row _ _ _ _ _ _ HXRvh.out
  have bxvh2 : w16.cell? ⟨w15.heap.size, 2, none⟩ = some (.slice avh (mkL a0 l1 a2 a3).length cvh) := cell_of_row _ _ _ _ _ _ HXRvh.out
  have bxvw0 : w16.cell? ⟨w2.heap.size, 0, none⟩ = some (.int .i64 (mkF a0 l1 a2 a3)) := cell_of_row _ _ _ _ _ _ (row_later HXRvw.out d16)
  have bxvw1 : w16.cell? ⟨w2.heap.size, 1, none⟩ = some (.int .i64 (mkG a0 l1 a2 a3)) := cell_of_row _ _ _ _ _ _ (row_later HXRvw.out d16)
  have bxvw2 : w16.cell? ⟨w2.heap.size, 2, none⟩ = some (.slice avw (mkL a0 l1 a2 a3).length cvw) := cell_of_row _ _ _ _ _ _ (row_later HXRvw.out d16)
  go_wp2_with fail
  clear bxvh0 bxvh1 bxvh2 bxvw0 bxvw1 bxvw2
  refine (eqPuzzle_own (mkF a0 l1 a2 a3) (mkG a0 l1 a2 a3) _ _ (mkL a0 l1 a2 a3) (mkL a0 l1 a2 a3).length (mkL a0 l1 a2 a3).length w16 rfl rfl (by omega) Ovh.out Ovw.out).mono ?_
  rintro e w17 ⟨rfl, bel17⟩
  have s17 := bel17.size
  have d17 : Below w3.heap.size w3 w17 := d16.trans (bel17.mono d16.size)
  have HXRvg := Lib.hid (row_later HXRvg.out bel17)
  have HXRvh := Lib.hid (row_later HXRvh.out bel17)
  have Om := Lib.hid (own_later Om.out bel17)
  have Ou1 := Lib.hid (own_later Ou1.out bel17)
  have Ovh := Lib.hid (own_later Ovh.out bel17)
  clear bel17
  have bxvg0 : w17.cell? ⟨w5.heap.size, 0, none⟩ = some (.int .i64 (mkF a0 l1 a2 a3)) := cell_of_row _ _ _ _ _ _ HXRvg.out
  have bxvg1 : w17.cell? ⟨w5.heap.size, 1, none⟩ = some (.int .i64 (mkG a0 l1 a2 a3)) := cell_of_row _ _ _ _ _ _ HXRvg.out
  have bxvg2 : w17.cell? ⟨w5.heap.size, 2, none⟩ = some (.slice avg (mkL a0 l1 a2 a3).length cvg) := cell_of_row _ _ _ _ _ _ HXRvg.out
  go_wp2_with fail
  clear bxvg0 bxvg1 bxvg2
  refine (heldPuzzle_any (mkF a0 l1 a2 a3) (mkG a0 l1 a2 a3) _ _ (mkL a0 l1 a2 a3) (mkL a0 l1 a2 a3).length w17 1 (by omega) (by omega) rfl (by omega) Om.out).mono ?_
  rintro e w18 ⟨rfl, bel18⟩
  have s18 := bel18.size
  have d18 : Below w3.heap.size w3 w18 := d17.trans (bel18.mono d17.size)
  have HXRvg := Lib.hid (row_later HXRvg.out bel18)
  have HXRvh := Lib.hid (row_later HXRvh.out bel18)
  have Om := Lib.hid (own_later Om.out bel18)
  have Ou1 := Lib.hid (own_later Ou1.out bel18)
  have Ovh := Lib.hid (own_later Ovh.out bel18)
  clear bel18
  go_wp2_with fail
  go_ret
  exact ⟨rfl, (b3.trans (d18.mono hW2))⟩

set_option maxRecDepth 20000 in
theorem walkMk (W : World) (a0 : Int) (_w0 : (Lit.int .i64 a0).wf = true) (o1 : Option Addr) (n1 c1 : Nat) (l1 : List (Int × Int)) (q1n : n1 = l1.length) (q1m : n1 ≤ 9223372036854775807) (q1c : CallsAt W o1 l1) (a2 : Int) (_w2 : (Lit.int .i64 a2).wf = true) (a3 : Int) (_w3 : (Lit.int .i64 a3).wf = true) :
    Calls Try.prog 17 #[.int .i64 a0, .slice o1 n1 c1, .int .i64 a2, .int .i64 a3] W fun e w' => e = .returned (.bool true) ∧ Below W.heap.size W w' := by
  by_cases hs : n1 ≤ 1048576
  · exact walkMkS W a0 _w0 o1 n1 c1 l1 q1n q1m q1c a2 _w2 a3 _w3 hs
  · have Hn := Lib.hid q1n
    clear q1n q1c
    go_enter Try.func17, Try.ntmps17
    go_wp2_with fail
    refine (szCall_over o1 n1 c1 _ (by omega) q1m).mono ?_
    rintro e w' ⟨rfl, rfl⟩
    go_wp2_with fail
    go_ret
    exact ⟨rfl, Below.refl _ _⟩

end Go.Proofs.Ytmgmkgjefplfdaa
