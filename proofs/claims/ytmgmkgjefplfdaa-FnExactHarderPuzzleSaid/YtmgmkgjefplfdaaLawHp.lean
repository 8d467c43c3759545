/- The walk of the law FnExactHarderPuzzle. -/
import Derived.Test.YtmgmkgjefplfdaaHps
import Derived.Test.YtmgmkgjefplfdaaAbv
namespace Go.Proofs.Ytmgmkgjefplfdaa
open Go.ChangeShapes Go.WideShapes Go.ChangeAt Go.RowKit
set_option linter.unusedVariables false

set_option maxHeartbeats 1600000 in
set_option maxRecDepth 20000 in
theorem walkHpS (W : World) (F0 G0 : Int) (o0 : Option Addr) (n0 c0 : Nat) (l0 : List Clu) (q0n : n0 = l0.length) (q0m : n0 ≤ 9223372036854775807) (q0c : CluesAt W o0 l0) (hs0 : n0 ≤ 1048576) :
    Calls Try.prog 16 #[.agg #[.int .i64 F0, .int .i64 G0, .slice o0 n0 c0]] W fun e w' => e = .returned (.bool true) ∧ Below W.heap.size W w' := by
  obtain ⟨W0, hW0, hb0, hsW0, rX0⟩ := box1 W #[.int .i64 F0, .int .i64 G0, .slice o0 n0 c0] 30
  have HW0 := Lib.hid hW0
  clear hW0
  have HX0 := Lib.hid rX0
  clear rX0
  have Hn0 := Lib.hid q0n
  have Hc0 := Lib.hid (q0c.kept hb0)
  clear q0n q0c
  have hlen := hpL_len F0 G0 l0
  have hok : ((hpB F0 G0 l0) != (hpB F0 G0 l0)) = false := by simp
  go_enter Try.func16, Try.ntmps16
  have hdl0 : decide (((1048576 - n0 : Nat) : Int) < 0) = false := by simp
  have cx0 : W0.cell? ⟨W.heap.size, 0, none⟩ = some (.int .i64 F0) := cell_of_row _ _ _ _ _ _ HX0.out
  have cx1 : W0.cell? ⟨W.heap.size, 1, none⟩ = some (.int .i64 G0) := cell_of_row _ _ _ _ _ _ HX0.out
  have cx2 : W0.cell? ⟨W.heap.size, 2, none⟩ = some (.slice o0 n0 c0) := cell_of_row _ _ _ _ _ _ HX0.out
  go_wp2_with fail
  rw [HW0.out]
  clear cx0 cx1 cx2
  refine (szPuzzle_fit F0 G0 o0 n0 c0 1048576 W0 hs0 (by omega)).mono ?_
  rintro e w1 ⟨rfl, bel1⟩
  have s1 := bel1.size
  have b1 : Below W0.heap.size W0 w1 := bel1
  clear bel1
  have cx0 : w1.cell? ⟨W.heap.size, 0, none⟩ = some (.int .i64 F0) := cell_old b1 (cell_of_row _ _ _ _ _ _ HX0.out)
  have cx1 : w1.cell? ⟨W.heap.size, 1, none⟩ = some (.int .i64 G0) := cell_old b1 (cell_of_row _ _ _ _ _ _ HX0.out)
  have cx2 : w1.cell? ⟨W.heap.size, 2, none⟩ = some (.slice o0 n0 c0) := cell_old b1 (cell_of_row _ _ _ _ _ _ HX0.out)
  go_wp2_with fail
  clear cx0 cx1 cx2
  refine (toPuzzle_any F0 G0 o0 c0 l0 n0 w1 Hn0 hs0 (Hc0.out.kept b1)).mono ?_
  rintro e w2 ⟨gy0, capy0, rfl, owny0, bel2⟩
  have s2 := bel2.size
  have b2 : Below W0.heap.size W0 w2 := b1.trans (bel2.mono b1.size)
  have Oy0 := Lib.hid owny0
  clear owny0 bel2
  go_wp2_with fail
  refine (specHp_any w2 F0 G0 _ capy0 l0 n0 Hn0 hs0 (own_cap4 Oy0.out) (kown_at Oy0.out Hn0.out)).mono ?_
  rintro e w3 ⟨vw, rfl, ownvw, bel3⟩
  have s3 := bel3.size
  have b3 : Below W0.heap.size W0 w3 := b2.trans (bel3.mono b2.size)
  have Oy0 := Lib.hid (own_later Oy0.out bel3)
  obtain ⟨avw, cvw, rfl, _⟩ := kown_shape ownvw rfl
  have Ovw := Lib.hid ownvw
  clear ownvw
  clear bel3
  have OPvw := Ovw
  obtain ⟨w4, hwrvw, bel4, hsrvw, rrvw⟩ := box1 w3 #[.int .i64 (hpF F0 G0 l0), .int .i64 (hpG F0 G0 l0), .slice avw (hpL F0 G0 l0).length cvw] 35
  have HWrvw := Lib.hid hwrvw
  clear hwrvw
  have HXRvw := Lib.hid rrvw
  clear rrvw
  have s4 := bel4.size
  have b4 : Below W0.heap.size W0 w4 := b3.trans (bel4.mono b3.size)
  have Oy0 := Lib.hid (own_later Oy0.out bel4)
  have Ovw := Lib.hid (own_later Ovw.out bel4)
  clear bel4
  go_upto_region 6 with (fail)
  rw [HWrvw.out]
  clear Oy0
  have hW2 := b4.size
  have OW := Ovw
  have cx0 : w4.cell? ⟨W.heap.size, 0, none⟩ = some (.int .i64 F0) := cell_old b4 (cell_of_row _ _ _ _ _ _ HX0.out)
  have cx1 : w4.cell? ⟨W.heap.size, 1, none⟩ = some (.int .i64 G0) := cell_old b4 (cell_of_row _ _ _ _ _ _ HX0.out)
  have cx2 : w4.cell? ⟨W.heap.size, 2, none⟩ = some (.slice o0 n0 c0) := cell_old b4 (cell_of_row _ _ _ _ _ _ HX0.out)
  go_wp2_with fail
  clear cx0 cx1 cx2
  refine (toPuzzle_any F0 G0 o0 c0 l0 n0 w4 Hn0 hs0 (Hc0.out.kept b4)).mono ?_
  rintro e w5 ⟨gx0, capx0, rfl, ownx0, bel5⟩
  have s5 := bel5.size
  have d5 : Below w4.heap.size w4 w5 := bel5
  have Ox0 := Lib.hid ownx0
  clear ownx0 bel5
  obtain ⟨w6, hwx0, bel6, hsx0, rxx0⟩ := box1 w5 #[.int .i64 F0, .int .i64 G0, .slice (some ⟨gx0, 0, none⟩) n0 capx0] 35
  have HWx0 := Lib.hid hwx0
  clear hwx0
  have HXx0 := Lib.hid rxx0
  clear rxx0
  have s6 := bel6.size
  have d6 : Below w4.heap.size w4 w6 := d5.trans (bel6.mono d5.size)
  have Ox0 := Lib.hid (own_later Ox0.out bel6)
  clear bel6
  have OX0 := Ox0
  have dx0 : w6.cell? ⟨w5.heap.size, 0, none⟩ = some (.int .i64 F0) := cell_of_row _ _ _ _ _ _ HXx0.out
  have dx1 : w6.cell? ⟨w5.heap.size, 1, none⟩ = some (.int .i64 G0) := cell_of_row _ _ _ _ _ _ HXx0.out
  have dx2 : w6.cell? ⟨w5.heap.size, 2, none⟩ = some (.slice (some ⟨gx0, 0, none⟩) n0 capx0) := cell_of_row _ _ _ _ _ _ HXx0.out
  go_wp2_with fail
  rw [HWx0.out]
  clear dx0 dx1 dx2
  refine (implHp_any w6 F0 G0 _ capx0 l0 n0 Hn0 hs0 (own_cap4 Ox0.out) (kown_at Ox0.out Hn0.out)).mono ?_
  rintro e w7 ⟨vg, rfl, ownvg, bel7⟩
  have s7 := bel7.size
  have d7 : Below w4.heap.size w4 w7 := d6.trans (bel7.mono d6.size)
  have HXx0 := Lib.hid (row_later HXx0.out bel7)
  have Ox0 := Lib.hid (own_later Ox0.out bel7)
  obtain ⟨avg, cvg, rfl, _⟩ := kown_shape ownvg rfl
  have Ovg := Lib.hid ownvg
  clear ownvg
  clear bel7
  have OPvg := Ovg
  obtain ⟨w8, hwrvg, bel8, hsrvg, rrvg⟩ := box1 w7 #[.int .i64 (hpF F0 G0 l0), .int .i64 (hpG F0 G0 l0), .slice avg (hpL F0 G0 l0).length cvg] 35
  have HWrvg := Lib.hid hwrvg
  clear hwrvg
  have HXRvg := Lib.hid rrvg
  clear rrvg
  have s8 := bel8.size
  have d8 : Below w4.heap.size w4 w8 := d7.trans (bel8.mono d7.size)
  have HXx0 := Lib.hid (row_later HXx0.out bel8)
  have Ox0 := Lib.hid (own_later Ox0.out bel8)
  have Ovg := Lib.hid (own_later Ovg.out bel8)
  clear bel8
  go_upto_region 8 with (fail)
  rw [HWrvg.out]
  have Ovw := Lib.hid (own_later OW.out d8)
  have bxvg0 : w8.cell? ⟨w7.heap.size, 0, none⟩ = some (.int .i64 (hpF F0 G0 l0)) := cell_of_row _ _ _ _ _ _ HXRvg.out
  have bxvg1 : w8.cell? ⟨w7.heap.size, 1, none⟩ = some (.int .i64 (hpG F0 G0 l0)) := cell_of_row _ _ _ _ _ _ HXRvg.out
  have bxvg2 : w8.cell? ⟨w7.heap.size, 2, none⟩ = some (.slice avg (hpL F0 G0 l0).length cvg) := cell_of_row _ _ _ _ _ _ HXRvg.out
  have bxvw0 : w8.cell? ⟨w3.heap.size, 0, none⟩ = some (.int .i64 (hpF F0 G0 l0)) := cell_of_row _ _ _ _ _ _ (row_later HXRvw.out d8)
  have bxvw1 : w8.cell? ⟨w3.heap.size, 1, none⟩ = some (.int .i64 (hpG F0 G0 l0)) := cell_of_row _ _ _ _ _ _ (row_later HXRvw.out d8)
  have bxvw2 : w8.cell? ⟨w3.heap.size, 2, none⟩ = some (.slice avw (hpL F0 G0 l0).length cvw) := cell_of_row _ _ _ _ _ _ (row_later HXRvw.out d8)
  go_wp2_with fail
  clear bxvg0 bxvg1 bxvg2 bxvw0 bxvw1 bxvw2
  refine (eqPuzzle_own (hpF F0 G0 l0) (hpG F0 G0 l0) _ _ (hpL F0 G0 l0) (hpL F0 G0 l0).length (hpL F0 G0 l0).length w8 rfl rfl (by omega) Ovg.out Ovw.out).mono ?_
  rintro e w9 ⟨rfl, bel9⟩
  have s9 := bel9.size
  have d9 : Below w4.heap.size w4 w9 := d8.trans (bel9.mono d8.size)
  have HXx0 := Lib.hid (row_later HXx0.out bel9)
  have HXRvg := Lib.hid (row_later HXRvg.out bel9)
  have Ox0 := Lib.hid (own_later Ox0.out bel9)
  have Ovg := Lib.hid (own_later Ovg.out bel9)
  clear bel9
  go_wp2_with fail
  have HS : Hid (w9.cell? ⟨W.heap.size, 0, none⟩ = some (.int .i64 F0) ∧ w9.cell? ⟨W.heap.size, 1, none⟩ = some (.int .i64 G0) ∧ w9.cell? ⟨W.heap.size, 2, none⟩ = some (.slice o0 n0 c0) ∧ w9.cell? ⟨w5.heap.size, 0, none⟩ = some (.int .i64 F0) ∧ w9.cell? ⟨w5.heap.size, 1, none⟩ = some (.int .i64 G0) ∧ w9.cell? ⟨w5.heap.size, 2, none⟩ = some (.slice (some ⟨gx0, 0, none⟩) n0 capx0)) := ⟨cell_old (b4.trans (d9.mono hW2)) (cell_of_row _ _ _ _ _ _ HX0.out), cell_old (b4.trans (d9.mono hW2)) (cell_of_row _ _ _ _ _ _ HX0.out), cell_old (b4.trans (d9.mono hW2)) (cell_of_row _ _ _ _ _ _ HX0.out), cell_of_row _ _ _ _ _ _ HXx0.out, cell_of_row _ _ _ _ _ _ HXx0.out, cell_of_row _ _ _ _ _ _ HXx0.out⟩
  have HSc := Lib.hid (Hc0.out.kept (b4.trans (d9.mono hW2)))
  go_region_held3 (fun w' => w'.cell? ⟨W.heap.size, 0, none⟩ = some (.int .i64 F0) ∧ w'.cell? ⟨W.heap.size, 1, none⟩ = some (.int .i64 G0) ∧ w'.cell? ⟨W.heap.size, 2, none⟩ = some (.slice o0 n0 c0) ∧ w'.cell? ⟨w5.heap.size, 0, none⟩ = some (.int .i64 F0) ∧ w'.cell? ⟨w5.heap.size, 1, none⟩ = some (.int .i64 G0) ∧ w'.cell? ⟨w5.heap.size, 2, none⟩ = some (.slice (some ⟨gx0, 0, none⟩) n0 capx0) ∧ CluesAt w' o0 l0 ∧ OwnQ l0 n0 (.slice (some ⟨gx0, 0, none⟩) n0 capx0) w' ∧ Below w9.heap.size w9 w')
    (first
      | exact ⟨HS.out.1, HS.out.2.1, HS.out.2.2.1, HS.out.2.2.2.1, HS.out.2.2.2.2.1, HS.out.2.2.2.2.2, HSc.out, ⟨_, Ox0.out⟩, (Below.refl _ _).drew⟩
      | (go_split_ands
         refine ⟨?_, ?_, ?_, ?_, ?_, ?_, ?_, ?_, ?_⟩
         all_goals first | exact cell_old hb2 (by assumption) | exact CluesAt.kept (by assumption) hb2 | exact OwnQ.later (by assumption) hb2 | exact Below.trans (by assumption) (hb2.mono (Below.size (by assumption))))
      | go_keep)
    (first
      | (go_at_call 23; (with_reducible refine (toPuzzle_any F0 G0 o0 c0 l0 n0 _ Hn0 hs0 ?_).mono ?_); (go_split_ands; assumption); rintro e wz ⟨gz, capz, rfl, ownz, hb2⟩)
      | (go_at_call 25; (with_reducible refine (eqPuzzle_q F0 G0 _ _ l0 n0 n0 _ Hn0.out Hn0.out (by omega) ?_ ?_).mono ?_); (go_split_ands; assumption); (first | exact ⟨_, ownz⟩ | exact ⟨_, own_later ownz hb2⟩ | fail); rintro e w10 ⟨rfl, hb2⟩)
      | fail)
  rename_i hh
  have bel10 : Below w9.heap.size w9 w10 := hh.2.2.2.2.2.2.2.2
  clear hh HS HSc
  have s10 := bel10.size
  have d10 : Below w4.heap.size w4 w10 := d9.trans (bel10.mono d9.size)
  have HXx0 := Lib.hid (row_later HXx0.out bel10)
  have HXRvg := Lib.hid (row_later HXRvg.out bel10)
  have Ox0 := Lib.hid (own_later Ox0.out bel10)
  have Ovg := Lib.hid (own_later Ovg.out bel10)
  clear bel10
  have dx0 : w10.cell? ⟨w5.heap.size, 0, none⟩ = some (.int .i64 F0) := cell_of_row _ _ _ _ _ _ HXx0.out
  have dx1 : w10.cell? ⟨w5.heap.size, 1, none⟩ = some (.int .i64 G0) := cell_of_row _ _ _ _ _ _ HXx0.out
  have dx2 : w10.cell? ⟨w5.heap.size, 2, none⟩ = some (.slice (some ⟨gx0, 0, none⟩) n0 capx0) := cell_of_row _ _ _ _ _ _ HXx0.out
  go_wp2_with fail
  clear dx0 dx1 dx2
  refine (markPuzzle_any F0 G0 _ _ l0 n0 w10 (1) (by omega) (by omega) Hn0.out (by omega) Ox0.out).mono ?_
  rintro e w11 ⟨rfl, ownm, wm, bem11, gr11⟩
  have sm11 := bem11.size
  have be11 : Below w4.heap.size w10 w11 := (bem11.mono (by omega)).grown gr11 (by omega) (fun k hk => (Ox0.out.lt k hk).1)
  have ab11 : Above w6.heap.size w10 w11 := Above.two bem11 gr11 (fun b hb => (OX0.out.lt b hb).2)
  clear ownm gr11 bem11 sm11
  have s11 := be11.size
  have d11 : Below w4.heap.size w4 w11 := d10.trans (be11.mono (by omega))
  have Ovg := Lib.hid (own_above Ovg.out ab11 (by omega))
  have HXRvg := Lib.hid ((ab11.2 _ (by omega) (by omega)).trans HXRvg.out)
  clear be11 ab11
  have hk0 : decide (1 + 4 * (n0 : Int) < 0) = false := by simp; omega
  have Ovw := Lib.hid (own_later OW.out d11)
  have bxvg0 : w11.cell? ⟨w7.heap.size, 0, none⟩ = some (.int .i64 (hpF F0 G0 l0)) := cell_of_row _ _ _ _ _ _ HXRvg.out
  have bxvg1 : w11.cell? ⟨w7.heap.size, 1, none⟩ = some (.int .i64 (hpG F0 G0 l0)) := cell_of_row _ _ _ _ _ _ HXRvg.out
  have bxvg2 : w11.cell? ⟨w7.heap.size, 2, none⟩ = some (.slice avg (hpL F0 G0 l0).length cvg) := cell_of_row _ _ _ _ _ _ HXRvg.out
  have bxvw0 : w11.cell? ⟨w3.heap.size, 0, none⟩ = some (.int .i64 (hpF F0 G0 l0)) := cell_of_row _ _ _ _ _ _ (row_later HXRvw.out d11)
  have bxvw1 : w11.cell? ⟨w3.heap.size, 1, none⟩ = some (.int .i64 (hpG F0 G0 l0)) := cell_of_row _ _ _ _ _ _ (row_later HXRvw.out d11)
  have bxvw2 : w11.cell? ⟨w3.heap.size, 2, none⟩ = some (.slice avw (hpL F0 G0 l0).length cvw) := cell_of_row _ _ _ _ _ _ (row_later HXRvw.out d11)
  go_wp2_with fail
  clear bxvg0 bxvg1 bxvg2 bxvw0 bxvw1 bxvw2
  refine (eqPuzzle_own (hpF F0 G0 l0) (hpG F0 G0 l0) _ _ (hpL F0 G0 l0) (hpL F0 G0 l0).length (hpL F0 G0 l0).length w11 rfl rfl (by omega) Ovg.out Ovw.out).mono ?_
  rintro e w12 ⟨rfl, bel12⟩
  have s12 := bel12.size
  have d12 : Below w4.heap.size w4 w12 := d11.trans (bel12.mono d11.size)
  have HXRvg := Lib.hid (row_later HXRvg.out bel12)
  have Ovg := Lib.hid (own_later Ovg.out bel12)
  clear bel12
  have bxvg0 : w12.cell? ⟨w7.heap.size, 0, none⟩ = some (.int .i64 (hpF F0 G0 l0)) := cell_of_row _ _ _ _ _ _ HXRvg.out
  have bxvg1 : w12.cell? ⟨w7.heap.size, 1, none⟩ = some (.int .i64 (hpG F0 G0 l0)) := cell_of_row _ _ _ _ _ _ HXRvg.out
  have bxvg2 : w12.cell? ⟨w7.heap.size, 2, none⟩ = some (.slice avg (hpL F0 G0 l0).length cvg) := cell_of_row _ _ _ _ _ _ HXRvg.out
  go_wp2_with fail
  clear bxvg0 bxvg1 bxvg2
  refine (markPuzzle_any (hpF F0 G0 l0) (hpG F0 G0 l0) _ _ (hpL F0 G0 l0) (hpL F0 G0 l0).length w12 1 (by omega) (by omega) rfl (by omega) Ovg.out).mono ?_
  rintro e w13 ⟨rfl, ownm, wm, bem13, gr13⟩
  have sm13 := bem13.size
  have sg13 := gr13.size
  have s13 : w12.heap.size ≤ w13.heap.size := by omega
  have d13 : Below w4.heap.size w4 w13 := (d12.trans (bem13.mono d12.size)).grown gr13 (Nat.le_trans d12.size bem13.size) (fun k hk => Nat.le_trans (by omega) (Ovg.out.lt k hk).1)
  have abg : Above w7.heap.size w12 w13 := Above.two bem13 gr13 (fun b hb => (OPvg.out.lt b hb).2)
  have HXRvg := Lib.hid ((abg.2 _ (by omega) (by omega)).trans HXRvg.out)
  clear abg
  have Om := Lib.hid ownm
  clear ownm gr13 bem13
  have hmm : ((1 + 4 * ((hpL F0 G0 l0).length : Int)) != (1 + 4 * ((hpL F0 G0 l0).length : Int))) = false := by simp
  have hm0 : decide ((1 + 4 * ((hpL F0 G0 l0).length : Int)) < 0) = false := by simp; omega
  have bxvg0 : w13.cell? ⟨w7.heap.size, 0, none⟩ = some (.int .i64 (hpF F0 G0 l0)) := cell_of_row _ _ _ _ _ _ HXRvg.out
  have bxvg1 : w13.cell? ⟨w7.heap.size, 1, none⟩ = some (.int .i64 (hpG F0 G0 l0)) := cell_of_row _ _ _ _ _ _ HXRvg.out
  have bxvg2 : w13.cell? ⟨w7.heap.size, 2, none⟩ = some (.slice avg (hpL F0 G0 l0).length cvg) := cell_of_row _ _ _ _ _ _ HXRvg.out
  go_wp2_with fail
  clear bxvg0 bxvg1 bxvg2
  refine (heldPuzzle_any (hpF F0 G0 l0) (hpG F0 G0 l0) _ _ (hpL F0 G0 l0) (hpL F0 G0 l0).length w13 1 (by omega) (by omega) rfl (by omega) Om.out).mono ?_
  rintro e w14 ⟨rfl, bel14⟩
  have s14 := bel14.size
  have d14 : Below w4.heap.size w4 w14 := d13.trans (bel14.mono d13.size)
  have HXRvg := Lib.hid (row_later HXRvg.out bel14)
  have Om := Lib.hid (own_later Om.out bel14)
  clear bel14
  have cx0 : w14.cell? ⟨W.heap.size, 0, none⟩ = some (.int .i64 F0) := cell_old (b4.trans (d14.mono hW2)) (cell_of_row _ _ _ _ _ _ HX0.out)
  have cx1 : w14.cell? ⟨W.heap.size, 1, none⟩ = some (.int .i64 G0) := cell_old (b4.trans (d14.mono hW2)) (cell_of_row _ _ _ _ _ _ HX0.out)
  have cx2 : w14.cell? ⟨W.heap.size, 2, none⟩ = some (.slice o0 n0 c0) := cell_old (b4.trans (d14.mono hW2)) (cell_of_row _ _ _ _ _ _ HX0.out)
  go_wp2_with fail
  clear cx0 cx1 cx2
  refine (toPuzzle_any F0 G0 o0 c0 l0 n0 w14 Hn0 hs0 (Hc0.out.kept (b4.trans (d14.mono hW2)))).mono ?_
  rintro e w15 ⟨gu0, capu0, rfl, ownu0, bel15⟩
  have s15 := bel15.size
  have d15 : Below w4.heap.size w4 w15 := d14.trans (bel15.mono d14.size)
  have HXRvg := Lib.hid (row_later HXRvg.out bel15)
  have Om := Lib.hid (own_later Om.out bel15)
  have Ou0 := Lib.hid ownu0
  clear ownu0 bel15
  go_wp2_with fail
  refine (implHp_any w15 F0 G0 _ capu0 l0 n0 Hn0 hs0 (own_cap4 Ou0.out) (kown_at Ou0.out Hn0.out)).mono ?_
  rintro e w16 ⟨vh, rfl, ownvh, bel16⟩
  have s16 := bel16.size
  have d16 : Below w4.heap.size w4 w16 := d15.trans (bel16.mono d15.size)
  have HXRvg := Lib.hid (row_later HXRvg.out bel16)
  have Om := Lib.hid (own_later Om.out bel16)
  have Ou0 := Lib.hid (own_later Ou0.out bel16)
  obtain ⟨avh, cvh, rfl, _⟩ := kown_shape ownvh rfl
  have Ovh := Lib.hid ownvh
  clear ownvh
  clear bel16
  have OPvh := Ovh
  obtain ⟨w17, hwrvh, bel17, hsrvh, rrvh⟩ := box1 w16 #[.int .i64 (hpF F0 G0 l0), .int .i64 (hpG F0 G0 l0), .slice avh (hpL F0 G0 l0).length cvh] 35
  have HWrvh := Lib.hid hwrvh
  clear hwrvh
  have HXRvh := Lib.hid rrvh
  clear rrvh
  have s17 := bel17.size
  have d17 : Below w4.heap.size w4 w17 := d16.trans (bel17.mono d16.size)
  have HXRvg := Lib.hid (row_later HXRvg.out bel17)
  have Om := Lib.hid (own_later Om.out bel17)
  have Ou0 := Lib.hid (own_later Ou0.out bel17)
  have Ovh := Lib.hid (own_later Ovh.out bel17)
  clear bel17
  go_upto_region 25 with (fail)
  rw [HWrvh.out]
  have Ovw := Lib.hid (own_later OW.out d17)
  have bxvh0 : w17.cell? ⟨w16.heap.size, 0, none⟩ = some (.int .i64 (hpF F0 G0 l0)) := cell_of_row _ _ _ _ _ _ HXRvh.out
  have bxvh1 : w17.cell? ⟨w16.heap.size, 1, none⟩ = some (.int .i64 (hpG F0 G0 l0)) := cell_of_row _ _ _ _ _ _ HXRvh.out
  have bxvh2 : w17.cell? ⟨w16.heap.size, 2, none⟩ = some (.slice avh (hpL F0 G0 l0).length cvh) := cell_of_row _ _ _ _ _ _ HXRvh.out
  have bxvw0 : w17.cell? ⟨w3.heap.size, 0, none⟩ = some (.int .i64 (hpF F0 G0 l0)) := cell_of_row _ _ _ _ _ _ (row_later HXRvw.out d17)
  have bxvw1 : w17.cell? ⟨w3.heap.size, 1, none⟩ = some (.int .i64 (hpG F0 G0 l0)) := cell_of_row _ _ _ _ _ _ (row_later HXRvw.out d17)
  have bxvw2 : w17.cell? ⟨w3.heap.size, 2, none⟩ = some (.slice avw (hpL F0 G0 l0).length cvw) := cell_of_row _ _ _ _ _ _ (row_later HXRvw.out d17)
  go_wp2_with fail
  clear bxvh0 bxvh1 bxvh2 bxvw0 bxvw1 bxvw2
  refine (eqPuzzle_own (hpF F0 G0 l0) (hpG F0 G0 l0) _ _ (hpL F0 G0 l0) (hpL F0 G0 l0).length (hpL F0 G0 l0).length w17 rfl rfl (by omega) Ovh.out Ovw.out).mono ?_
  rintro e w18 ⟨rfl, bel18⟩
  have s18 := bel18.size
  have d18 : Below w4.heap.size w4 w18 := d17.trans (bel18.mono d17.size)
  have HXRvg := Lib.hid (row_later HXRvg.out bel18)
  have HXRvh := Lib.hid (row_later HXRvh.out bel18)
  have Om := Lib.hid (own_later Om.out bel18)
  have Ou0 := Lib.hid (own_later Ou0.out bel18)
  have Ovh := Lib.hid (own_later Ovh.out bel18)
  clear bel18
  have bxvg0 : w18.cell? ⟨w7.heap.size, 0, none⟩ = some (.int .i64 (hpF F0 G0 l0)) := cell_of_row _ _ _ _ _ _ HXRvg.out
  have bxvg1 : w18.cell? ⟨w7.heap.size, 1, none⟩ = some (.int .i64 (hpG F0 G0 l0)) := cell_of_row _ _ _ _ _ _ HXRvg.out
  have bxvg2 : w18.cell? ⟨w7.heap.size, 2, none⟩ = some (.slice avg (hpL F0 G0 l0).length cvg) := cell_of_row _ _ _ _ _ _ HXRvg.out
  go_wp2_with fail
  clear bxvg0 bxvg1 bxvg2
  refine (heldPuzzle_any (hpF F0 G0 l0) (hpG F0 G0 l0) _ _ (hpL F0 G0 l0) (hpL F0 G0 l0).length w18 1 (by omega) (by omega) rfl (by omega) Om.out).mono ?_
  rintro e w19 ⟨rfl, bel19⟩
  have s19 := bel19.size
  have d19 : Below w4.heap.size w4 w19 := d18.trans (bel19.mono d18.size)
  have HXRvg := Lib.hid (row_later HXRvg.out bel19)
  have HXRvh := Lib.hid (row_later HXRvh.out bel19)
  have Om := Lib.hid (own_later Om.out bel19)
  have Ou0 := Lib.hid (own_later Ou0.out bel19)
  have Ovh := Lib.hid (own_later Ovh.out bel19)
  clear bel19
  go_wp2_with fail
  go_ret
  exact ⟨rfl, hb0.trans ((b4.trans (d19.mono hW2)).mono hb0.size)⟩

set_option maxRecDepth 20000 in
theorem walkHp (W : World) (F0 G0 : Int) (o0 : Option Addr) (n0 c0 : Nat) (l0 : List Clu) (q0n : n0 = l0.length) (q0m : n0 ≤ 9223372036854775807) (q0c : CluesAt W o0 l0) :
    Calls Try.prog 16 #[.agg #[.int .i64 F0, .int .i64 G0, .slice o0 n0 c0]] W fun e w' => e = .returned (.bool true) ∧ Below W.heap.size W w' := by
  by_cases hs : n0 ≤ 1048576
  · exact walkHpS W F0 G0 o0 n0 c0 l0 q0n q0m q0c hs
  · have Hn := Lib.hid q0n
    clear q0n q0c
    go_enter Try.func16, Try.ntmps16
    go_wp2_with fail
    refine (szPuzzle_over F0 G0 o0 n0 c0 1048576 _ (by omega) (by omega) q0m).mono ?_
    rintro e w1 ⟨rfl, hb⟩
    go_wp2_with fail
    go_ret
    exact ⟨rfl, ((Below.refl _ _).alloc (Nat.le_refl _) _).trans (hb.mono (by simp))⟩

end Go.Proofs.Ytmgmkgjefplfdaa
