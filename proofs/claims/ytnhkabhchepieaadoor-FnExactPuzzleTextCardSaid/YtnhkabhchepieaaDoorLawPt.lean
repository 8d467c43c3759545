/- The walk of the law FnExactPuzzleText. -/
import Derived.Test.YtnhkabhchepieaaDoorPtI
import Derived.Test.YtnhkabhchepieaaDoorPzQ
namespace Go.Proofs.YtnhkabhchepieaaDoor
open Go.ChangeShapes Go.WideShapes Go.ChangeAt Go.RowKit
set_option linter.unusedVariables false

set_option maxHeartbeats 1600000 in
set_option maxRecDepth 20000 in
theorem walkPtS (W : World) (F0 G0 : Int) (o0 : Option Addr) (n0 c0 : Nat) (l0 : List Clu) (q0n : n0 = l0.length) (q0m : n0 ≤ 9223372036854775807) (q0c : CluesAt W o0 l0) (hs0 : n0 ≤ 1048576) :
    Calls Tryd.prog 7 #[.agg #[.int .i64 F0, .int .i64 G0, .slice o0 n0 c0]] W fun e w' => e = .returned (.bool true) ∧ Below W.heap.size W w' := by
  obtain ⟨W0, hW0, hb0, hsW0, rX0⟩ := box1 W #[.int .i64 F0, .int .i64 G0, .slice o0 n0 c0] 39
  have HW0 := Lib.hid hW0
  clear hW0
  have HX0 := Lib.hid rX0
  clear rX0
  have Hn0 := Lib.hid q0n
  have Hc0 := Lib.hid (q0c.kept hb0)
  clear q0n q0c
  have hok : ((goodB F0 G0 l0) != (goodB F0 G0 l0)) = false := by simp
  go_enter Tryd.func7, Tryd.ntmps7
  have hdl0 : decide (((1048576 - n0 : Nat) : Int) < 0) = false := by simp
  have cx0 : W0.cell? ⟨W.heap.size, 0, none⟩ = some (.int .i64 F0) := cell_of_row _ _ _ _ _ _ HX0.out
  have cx1 : W0.cell? ⟨W.heap.size, 1, none⟩ = some (.int .i64 G0) := cell_of_row _ _ _ _ _ _ HX0.out
  have cx2 : W0.cell? ⟨W.heap.size, 2, none⟩ = some (.slice o0 n0 c0) := cell_of_row _ _ _ _ _ _ HX0.out
  go_wp2_with fail
  rw [HW0.out]
  clear cx0 cx1 cx2
  refine (szPuzzle_fit F0 G0 o0 n0 c0 1048576 W0 hs0 (by omega)).mono ?_
  rintro e w1 ⟨rfl, bel1⟩
  have s1 := bel1.size
  have b1 : Below W0.heap.size W0 w1 := bel1
  clear bel1
  have cx0 : w1.cell? ⟨W.heap.size, 0, none⟩ = some (.int .i64 F0) := cell_old b1 (cell_of_row _ _ _ _ _ _ HX0.out)
  have cx1 : w1.cell? ⟨W.heap.size, 1, none⟩ = some (.int .i64 G0) := cell_old b1 (cell_of_row _ _ _ _ _ _ HX0.out)
  have cx2 : w1.cell? ⟨W.heap.size, 2, none⟩ = some (.slice o0 n0 c0) := cell_old b1 (cell_of_row _ _ _ _ _ _ HX0.out)
  go_wp2_with fail
  clear cx0 cx1 cx2
  refine (toPuzzle_any F0 G0 o0 c0 l0 n0 w1 Hn0 hs0 (Hc0.out.kept b1)).mono ?_
  rintro e w2 ⟨gy0, capy0, rfl, owny0, bel2⟩
  have s2 := bel2.size
  have b2 : Below W0.heap.size W0 w2 := b1.trans (bel2.mono b1.size)
  have Oy0 := Lib.hid owny0
  clear owny0 bel2
  go_wp2_with fail
  refine (specPt_any w2 F0 G0 _ capy0 l0 n0 Hn0 hs0 (own_cap4 Oy0.out) (kown_at Oy0.out Hn0.out)).mono ?_
  rintro e w3 ⟨rfl, bel3⟩
  have s3 := bel3.size
  have b3 : Below W0.heap.size W0 w3 := b2.trans (bel3.mono b2.size)
  have Oy0 := Lib.hid (own_later Oy0.out bel3)
  clear bel3
  clear Oy0
  have hW2 := b3.size
  have cx0 : w3.cell? ⟨W.heap.size, 0, none⟩ = some (.int .i64 F0) := cell_old b3 (cell_of_row _ _ _ _ _ _ HX0.out)
  have cx1 : w3.cell? ⟨W.heap.size, 1, none⟩ = some (.int .i64 G0) := cell_old b3 (cell_of_row _ _ _ _ _ _ HX0.out)
  have cx2 : w3.cell? ⟨W.heap.size, 2, none⟩ = some (.slice o0 n0 c0) := cell_old b3 (cell_of_row _ _ _ _ _ _ HX0.out)
  go_wp2_with fail
  clear cx0 cx1 cx2
  refine (toPuzzle_any F0 G0 o0 c0 l0 n0 w3 Hn0 hs0 (Hc0.out.kept b3)).mono ?_
  rintro e w4 ⟨gx0, capx0, rfl, ownx0, bel4⟩
  have s4 := bel4.size
  have d4 : Below w3.heap.size w3 w4 := bel4
  have Ox0 := Lib.hid ownx0
  clear ownx0 bel4
  obtain ⟨w5, hwx0, bel5, hsx0, rxx0⟩ := box1 w4 #[.int .i64 F0, .int .i64 G0, .slice (some ⟨gx0, 0, none⟩) n0 capx0] 44
  have HWx0 := Lib.hid hwx0
  clear hwx0
  have HXx0 := Lib.hid rxx0
  clear rxx0
  have s5 := bel5.size
  have d5 : Below w3.heap.size w3 w5 := d4.trans (bel5.mono d4.size)
  have Ox0 := Lib.hid (own_later Ox0.out bel5)
  clear bel5
  have OX0 := Ox0
  have dx0 : w5.cell? ⟨w4.heap.size, 0, none⟩ = some (.int .i64 F0) := cell_of_row _ _ _ _ _ _ HXx0.out
  have dx1 : w5.cell? ⟨w4.heap.size, 1, none⟩ = some (.int .i64 G0) := cell_of_row _ _ _ _ _ _ HXx0.out
  have dx2 : w5.cell? ⟨w4.heap.size, 2, none⟩ = some (.slice (some ⟨gx0, 0, none⟩) n0 capx0) := cell_of_row _ _ _ _ _ _ HXx0.out
  go_wp2_with fail
  rw [HWx0.out]
  clear dx0 dx1 dx2
  refine (implPt_any w5 F0 G0 _ capx0 l0 n0 Hn0 hs0 (own_cap4 Ox0.out) (kown_at Ox0.out Hn0.out)).mono ?_
  rintro e w6 ⟨rfl, bel6⟩
  have s6 := bel6.size
  have d6 : Below w3.heap.size w3 w6 := d5.trans (bel6.mono d5.size)
  have HXx0 := Lib.hid (row_later HXx0.out bel6)
  have Ox0 := Lib.hid (own_later Ox0.out bel6)
  clear bel6
  go_wp2_with fail
  have HS : Hid (w6.cell? ⟨W.heap.size, 0, none⟩ = some (.int .i64 F0) ∧ w6.cell? ⟨W.heap.size, 1, none⟩ = some (.int .i64 G0) ∧ w6.cell? ⟨W.heap.size, 2, none⟩ = some (.slice o0 n0 c0) ∧ w6.cell? ⟨w4.heap.size, 0, none⟩ = some (.int .i64 F0) ∧ w6.cell? ⟨w4.heap.size, 1, none⟩ = some (.int .i64 G0) ∧ w6.cell? ⟨w4.heap.size, 2, none⟩ = some (.slice (some ⟨gx0, 0, none⟩) n0 capx0)) := ⟨cell_old (b3.trans (d6.mono hW2)) (cell_of_row _ _ _ _ _ _ HX0.out), cell_old (b3.trans (d6.mono hW2)) (cell_of_row _ _ _ _ _ _ HX0.out), cell_old (b3.trans (d6.mono hW2)) (cell_of_row _ _ _ _ _ _ HX0.out), cell_of_row _ _ _ _ _ _ HXx0.out, cell_of_row _ _ _ _ _ _ HXx0.out, cell_of_row _ _ _ _ _ _ HXx0.out⟩
  have HSc := Lib.hid (Hc0.out.kept (b3.trans (d6.mono hW2)))
  go_region_held3 (fun w' => w'.cell? ⟨W.heap.size, 0, none⟩ = some (.int .i64 F0) ∧ w'.cell? ⟨W.heap.size, 1, none⟩ = some (.int .i64 G0) ∧ w'.cell? ⟨W.heap.size, 2, none⟩ = some (.slice o0 n0 c0) ∧ w'.cell? ⟨w4.heap.size, 0, none⟩ = some (.int .i64 F0) ∧ w'.cell? ⟨w4.heap.size, 1, none⟩ = some (.int .i64 G0) ∧ w'.cell? ⟨w4.heap.size, 2, none⟩ = some (.slice (some ⟨gx0, 0, none⟩) n0 capx0) ∧ CluesAt w' o0 l0 ∧ OwnQ l0 n0 (.slice (some ⟨gx0, 0, none⟩) n0 capx0) w' ∧ Below w6.heap.size w6 w')
    (first
      | exact ⟨HS.out.1, HS.out.2.1, HS.out.2.2.1, HS.out.2.2.2.1, HS.out.2.2.2.2.1, HS.out.2.2.2.2.2, HSc.out, ⟨_, Ox0.out⟩, (Below.refl _ _).drew⟩
      | (go_split_ands
         refine ⟨?_, ?_, ?_, ?_, ?_, ?_, ?_, ?_, ?_⟩
         all_goals first | exact cell_old hb2 (by assumption) | exact CluesAt.kept (by assumption) hb2 | exact OwnQ.later (by assumption) hb2 | exact Below.trans (by assumption) (hb2.mono (Below.size (by assumption))))
      | go_keep)
    (first
      | (go_at_call 24; (with_reducible refine (toPuzzle_any F0 G0 o0 c0 l0 n0 _ Hn0 hs0 ?_).mono ?_); (go_split_ands; assumption); rintro e wz ⟨gz, capz, rfl, ownz, hb2⟩)
      | (go_at_call 26; (with_reducible refine (eqPuzzle_q F0 G0 _ _ l0 n0 n0 _ Hn0.out Hn0.out (by omega) ?_ ?_).mono ?_); (go_split_ands; assumption); (first | exact ⟨_, ownz⟩ | exact ⟨_, own_later ownz hb2⟩ | fail); rintro e w7 ⟨rfl, hb2⟩)
      | fail)
  rename_i hh
  have bel7 : Below w6.heap.size w6 w7 := hh.2.2.2.2.2.2.2.2
  clear hh HS HSc
  have s7 := bel7.size
  have d7 : Below w3.heap.size w3 w7 := d6.trans (bel7.mono d6.size)
  have HXx0 := Lib.hid (row_later HXx0.out bel7)
  have Ox0 := Lib.hid (own_later Ox0.out bel7)
  clear bel7
  go_wp2_with fail
  go_ret
  exact ⟨rfl, hb0.trans ((b3.trans (d7.mono hW2)).mono hb0.size)⟩

set_option maxRecDepth 20000 in
theorem walkPt (W : World) (F0 G0 : Int) (o0 : Option Addr) (n0 c0 : Nat) (l0 : List Clu) (q0n : n0 = l0.length) (q0m : n0 ≤ 9223372036854775807) (q0c : CluesAt W o0 l0) :
    Calls Tryd.prog 7 #[.agg #[.int .i64 F0, .int .i64 G0, .slice o0 n0 c0]] W fun e w' => e = .returned (.bool true) ∧ Below W.heap.size W w' := by
  by_cases hs : n0 ≤ 1048576
  · exact walkPtS W F0 G0 o0 n0 c0 l0 q0n q0m q0c hs
  · have Hn := Lib.hid q0n
    clear q0n q0c
    go_enter Tryd.func7, Tryd.ntmps7
    go_wp2_with fail
    refine (szPuzzle_over F0 G0 o0 n0 c0 1048576 _ (by omega) (by omega) q0m).mono ?_
    rintro e w1 ⟨rfl, hb⟩
    go_wp2_with fail
    go_ret
    exact ⟨rfl, ((Below.refl _ _).alloc (Nat.le_refl _) _).trans (hb.mono (by simp))⟩

end Go.Proofs.YtnhkabhchepieaaDoor
