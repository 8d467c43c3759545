/- The walk of the law FnExactFirstDesk. -/
import Derived.Test.YtncpkjpffadlfaaFd
namespace Go.Proofs.Ytncpkjpffadlfaa
open Go.ChangeShapes Go.WideShapes Go.ChangeAt Go.RowKit
set_option linter.unusedVariables false


set_option maxRecDepth 20000 in
theorem walkFd (w : World) :
    Calls Try.prog 3 #[] w fun e w' => e = .returned (.bool true) ∧ Below w.heap.size w w' := by
  have hmm : ((5 : Int) != 5) = false := by decide
  have hL : Hid ((2 : Nat) = fdL.length) := Lib.hid rfl
  go_enter Try.func3, Try.ntmps3
  go_wp2_with fail
  refine (specFirst_any w).mono ?_
  rintro e w1 ⟨aw, cw, rfl, ownw, b1⟩
  obtain ⟨w2, hw2, b12, hs2, r2⟩ := box1 w1 #[.int .i64 4, .slice aw 2 cw] 24
  have HW2 := Lib.hid hw2
  have HR2 := Lib.hid r2
  have OW := Lib.hid (own_later ownw b12)
  have B2 := Lib.hid (b1.trans (b12.mono b1.size))
  have hs02 := B2.out.size
  clear hw2 r2 ownw b1 b12
  go_upto_region 2 with (fail)
  rw [HW2.out]
  go_wp2_with fail
  refine (implFirst_any w2).mono ?_
  rintro e w3 ⟨ag, cg, rfl, owng, b3⟩
  have s3 := b3.size
  obtain ⟨w4, hw4, b34, hs4, r4⟩ := box1 w3 #[.int .i64 4, .slice ag 2 cg] 24
  have HW4 := Lib.hid hw4
  have HG := Lib.hid r4
  have D4 := Lib.hid (b3.trans (b34.mono b3.size))
  have OG := Lib.hid (own_later owng b34)
  have OG3 := Lib.hid owng
  have HR4 := Lib.hid (row_later HR2.out D4.out)
  have OW4 := Lib.hid (own_later OW.out D4.out)
  have s4 := D4.out.size
  clear hw4 r4 owng b3 b34
  go_upto_region 3 with (fail)
  rw [HW4.out]
  have g0 : w4.cell? ⟨w3.heap.size, 0, none⟩ = some (.int .i64 4) := cell_of_row _ _ _ _ _ _ HG.out
  have g1 : w4.cell? ⟨w3.heap.size, 1, none⟩ = some (.slice ag 2 cg) := cell_of_row _ _ _ _ _ _ HG.out
  have m0 : w4.cell? ⟨w1.heap.size, 0, none⟩ = some (.int .i64 4) := cell_of_row _ _ _ _ _ _ HR4.out
  have m1 : w4.cell? ⟨w1.heap.size, 1, none⟩ = some (.slice aw 2 cw) := cell_of_row _ _ _ _ _ _ HR4.out
  go_wp2_with fail
  refine (eqDesk_own 4 _ _ fdL 2 2 w4 hL.out hL.out (by omega) OG.out OW4.out).mono ?_
  rintro e w5 ⟨rfl, b5⟩
  have D5 := Lib.hid (D4.out.trans (b5.mono D4.out.size))
  have OG5 := Lib.hid (own_later OG.out b5)
  have HG5 := Lib.hid (row_later HG.out b5)
  have s5 := b5.size
  clear b5 g0 g1 m0 m1
  have g0 : w5.cell? ⟨w3.heap.size, 0, none⟩ = some (.int .i64 4) := cell_of_row _ _ _ _ _ _ HG5.out
  have g1 : w5.cell? ⟨w3.heap.size, 1, none⟩ = some (.slice ag 2 cg) := cell_of_row _ _ _ _ _ _ HG5.out
  go_wp2_with fail
  refine (markDesk_any 4 w2.heap.size _ fdL 2 w5 1 (by omega) (by omega) hL.out (by omega) OG5.out).mono ?_
  rintro e w6 ⟨rfl, ownm, wm, bm, gr⟩
  have sm := bm.size
  have sg := gr.size
  have D6 := Lib.hid ((D5.out.trans (bm.mono D5.out.size)).grown gr (Nat.le_trans D5.out.size bm.size) (fun k hk => (OG5.out.lt k hk).1))
  have HG6 : Hid (w6.heap[w3.heap.size]? = some (.cells #[.int .i64 4, .slice ag 2 cg] 24 (0, 0))) := Lib.hid (by
    rw [gr.block _ (by omega) (fun e => by have := (OG3.out.lt _ e.symm).2; omega), bm.block _ (by omega)]; exact HG5.out)
  have OM := Lib.hid ownm
  clear ownm bm gr g0 g1
  have hs6 := D6.out.size
  have g0 : w6.cell? ⟨w3.heap.size, 0, none⟩ = some (.int .i64 4) := cell_of_row _ _ _ _ _ _ HG6.out
  have g1 : w6.cell? ⟨w3.heap.size, 1, none⟩ = some (.slice ag 2 cg) := cell_of_row _ _ _ _ _ _ HG6.out
  go_wp2_with fail
  refine (heldDesk_any 4 w2.heap.size _ fdL 2 w6 1 (by omega) (by omega) hL.out (by omega) OM.out).mono ?_
  rintro e w7 ⟨rfl, b7⟩
  have D7 := Lib.hid (D6.out.trans (b7.mono hs6))
  have OM7 := Lib.hid (own_later OM.out b7)
  have HG7 := Lib.hid (row_later HG6.out b7)
  clear b7 g0 g1
  go_wp2_with fail
  refine (implFirst_any w7).mono ?_
  rintro e w8 ⟨ah, ch, rfl, ownh, b8⟩
  obtain ⟨w9, hw9, b9, hs9, r9⟩ := box1 w8 #[.int .i64 4, .slice ah 2 ch] 24
  have HW9 := Lib.hid hw9
  have HR9 := Lib.hid r9
  have D79 := Lib.hid (b8.trans (b9.mono b8.size))
  have OH := Lib.hid (own_later ownh b9)
  have OM9 := Lib.hid (own_later OM7.out D79.out)
  have HG9 := Lib.hid (row_later HG7.out D79.out)
  have D9 := Lib.hid (D7.out.trans (D79.out.mono D7.out.size))
  have OW9 := Lib.hid (own_later OW.out D9.out)
  have HRw9 := Lib.hid (row_later HR2.out D9.out)
  clear hw9 r9 ownh b8 b9
  go_upto_region 14 with (fail)
  rw [HW9.out]
  have g0 : w9.cell? ⟨w8.heap.size, 0, none⟩ = some (.int .i64 4) := cell_of_row _ _ _ _ _ _ HR9.out
  have g1 : w9.cell? ⟨w8.heap.size, 1, none⟩ = some (.slice ah 2 ch) := cell_of_row _ _ _ _ _ _ HR9.out
  have m0 : w9.cell? ⟨w1.heap.size, 0, none⟩ = some (.int .i64 4) := cell_of_row _ _ _ _ _ _ HRw9.out
  have m1 : w9.cell? ⟨w1.heap.size, 1, none⟩ = some (.slice aw 2 cw) := cell_of_row _ _ _ _ _ _ HRw9.out
  go_wp2_with fail
  refine (eqDesk_own 4 _ _ fdL 2 2 w9 hL.out hL.out (by omega) OH.out OW9.out).mono ?_
  rintro e w10 ⟨rfl, b10⟩
  have D10 := Lib.hid (D9.out.trans (b10.mono D9.out.size))
  have OM10 := Lib.hid (own_later OM9.out b10)
  have HG10 := Lib.hid (row_later HG9.out b10)
  clear b10 g0 g1 m0 m1
  have g0 : w10.cell? ⟨w3.heap.size, 0, none⟩ = some (.int .i64 4) := cell_of_row _ _ _ _ _ _ HG10.out
  have g1 : w10.cell? ⟨w3.heap.size, 1, none⟩ = some (.slice ag 2 cg) := cell_of_row _ _ _ _ _ _ HG10.out
  go_wp2_with fail
  refine (heldDesk_any 4 w2.heap.size _ fdL 2 w10 1 (by omega) (by omega) hL.out (by omega) OM10.out).mono ?_
  rintro e w11 ⟨rfl, b11⟩
  have D11 := Lib.hid (D10.out.trans (b11.mono D10.out.size))
  clear b11 g0 g1
  go_wp2_with fail
  go_ret
  exact ⟨rfl, B2.out.trans (D11.out.mono hs02)⟩

end Go.Proofs.Ytncpkjpffadlfaa
