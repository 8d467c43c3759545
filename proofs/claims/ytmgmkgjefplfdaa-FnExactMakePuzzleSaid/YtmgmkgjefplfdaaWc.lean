/- Puzzles with other clues. -/
import Derived.Test.YtmgmkgjefplfdaaBox
import Derived.Test.YtmgmkgjefplfdaaPzH
namespace Go.Proofs.Ytmgmkgjefplfdaa
open Go.ChangeShapes Go.WideShapes Go.ChangeAt Go.RowKit
set_option linter.unusedVariables false

set_option maxRecDepth 20000 in
theorem withClues_any (f n : Int) (pa : Option Addr) (pn pc : Nat) (a : Option Addr) (m c : Nat) (w : World) :
    Calls Try.prog 92 #[.agg #[.int .i64 f, .int .i64 n, .slice pa pn pc], .slice a m c] w fun e w' => e = .returned (.agg #[.int .i64 f, .int .i64 n, .slice a m c]) ∧ Below w.heap.size w w' := by
  obtain ⟨W, hW, hbW, hsW, rX, rY⟩ := box2 w #[.int .i64 f, .int .i64 n, .slice pa pn pc] 35 #[.int .i64 0, .int .i64 0, .slice none 0 0] 35
  have HW := Lib.hid hW
  have x0 : W.cell? ⟨w.heap.size, 0, none⟩ = some (.int .i64 f) := cell_of_row _ _ _ _ _ _ rX
  have x1 : W.cell? ⟨w.heap.size, 1, none⟩ = some (.int .i64 n) := cell_of_row _ _ _ _ _ _ rX
  have x2 : W.cell? ⟨w.heap.size, 2, none⟩ = some (.slice pa pn pc) := cell_of_row _ _ _ _ _ _ rX
  have y0 : W.cell? ⟨w.heap.size + 1, 0, none⟩ = some (.int .i64 0) := cell_of_row _ _ _ _ _ _ rY
  have y1 : W.cell? ⟨w.heap.size + 1, 1, none⟩ = some (.int .i64 0) := cell_of_row _ _ _ _ _ _ rY
  have y2 : W.cell? ⟨w.heap.size + 1, 2, none⟩ = some (.slice none 0 0) := cell_of_row _ _ _ _ _ _ rY
  have gx : ∀ j, W.frozen? ⟨w.heap.size, j, none⟩ = false := fun j => frozen_of_row _ _ _ _ _ rX
  have gy : ∀ j, W.frozen? ⟨w.heap.size + 1, j, none⟩ = false := fun j => frozen_of_row _ _ _ _ _ rY
  clear hW rX rY
  go_enter Try.func92, Try.ntmps92
  go_upto_region 1 with (fail)
  rw [HW.out]
  go_wp2_with fail
  have HB := Lib.hid ((((hbW.setCell (p := ⟨w.heap.size, 2, none⟩) (Nat.le_refl _) (.slice a m c)).setCell (p := ⟨w.heap.size + 1, 0, none⟩) (by show w.heap.size ≤ w.heap.size + 1; omega) (.int .i64 f)).setCell (p := ⟨w.heap.size + 1, 1, none⟩) (by show w.heap.size ≤ w.heap.size + 1; omega) (.int .i64 n)).setCell (p := ⟨w.heap.size + 1, 2, none⟩) (by show w.heap.size ≤ w.heap.size + 1; omega) (.slice a m c))
  obtain ⟨V, hV⟩ : ∃ V, (((W.setCell ⟨w.heap.size, 2, none⟩ (.slice a m c)).setCell ⟨w.heap.size + 1, 0, none⟩ (.int .i64 f)).setCell ⟨w.heap.size + 1, 1, none⟩ (.int .i64 n)).setCell ⟨w.heap.size + 1, 2, none⟩ (.slice a m c) = V := ⟨_, rfl⟩
  have z0 : V.cell? ⟨w.heap.size + 1, 0, none⟩ = some (.int .i64 f) := by rw [← hV]; simp [go_sem, y0]
  have z1 : V.cell? ⟨w.heap.size + 1, 1, none⟩ = some (.int .i64 n) := by rw [← hV]; simp [go_sem, y1]
  have z2 : V.cell? ⟨w.heap.size + 1, 2, none⟩ = some (.slice a m c) := by rw [← hV]; simp [go_sem, y2]
  rw [hV] at HB ⊢
  refine bodyPost_ret (v := .agg #[.int .i64 f, .int .i64 n, .slice a m c]) ?_ rfl ⟨rfl, HB.out⟩
  simp [results, Try.results92, go_sem, z0, z1, z2]
set_option maxRecDepth 20000 in
theorem pzWith_any (f n : Int) (pa : Option Addr) (pn pc : Nat) (a : Option Addr) (m c : Nat) (w : World) :
    Calls Try.prog 88 #[.agg #[.int .i64 f, .int .i64 n, .slice pa pn pc], .slice a m c] w fun e w' => e = .returned (.agg #[.int .i64 f, .int .i64 n, .slice a m c]) ∧ Below w.heap.size w w' := by
  obtain ⟨W, hW, hbW, hsW, rX, rY⟩ := box2 w #[.int .i64 f, .int .i64 n, .slice pa pn pc] 35 #[.int .i64 0, .int .i64 0, .slice none 0 0] 35
  have HW := Lib.hid hW
  have x0 : W.cell? ⟨w.heap.size, 0, none⟩ = some (.int .i64 f) := cell_of_row _ _ _ _ _ _ rX
  have x1 : W.cell? ⟨w.heap.size, 1, none⟩ = some (.int .i64 n) := cell_of_row _ _ _ _ _ _ rX
  have x2 : W.cell? ⟨w.heap.size, 2, none⟩ = some (.slice pa pn pc) := cell_of_row _ _ _ _ _ _ rX
  have y0 : W.cell? ⟨w.heap.size + 1, 0, none⟩ = some (.int .i64 0) := cell_of_row _ _ _ _ _ _ rY
  have y1 : W.cell? ⟨w.heap.size + 1, 1, none⟩ = some (.int .i64 0) := cell_of_row _ _ _ _ _ _ rY
  have y2 : W.cell? ⟨w.heap.size + 1, 2, none⟩ = some (.slice none 0 0) := cell_of_row _ _ _ _ _ _ rY
  have gx : ∀ j, W.frozen? ⟨w.heap.size, j, none⟩ = false := fun j => frozen_of_row _ _ _ _ _ rX
  have gy : ∀ j, W.frozen? ⟨w.heap.size + 1, j, none⟩ = false := fun j => frozen_of_row _ _ _ _ _ rY
  clear hW rX rY
  go_enter Try.func88, Try.ntmps88
  go_upto_region 1 with (fail)
  rw [HW.out]
  go_wp2_with fail
  have HB := Lib.hid (((hbW.setCell (p := ⟨w.heap.size + 1, 0, none⟩) (by show w.heap.size ≤ w.heap.size + 1; omega) (.int .i64 f)).setCell (p := ⟨w.heap.size + 1, 1, none⟩) (by show w.heap.size ≤ w.heap.size + 1; omega) (.int .i64 n)).setCell (p := ⟨w.heap.size + 1, 2, none⟩) (by show w.heap.size ≤ w.heap.size + 1; omega) (.slice a m c))
  obtain ⟨V, hV⟩ : ∃ V, ((W.setCell ⟨w.heap.size + 1, 0, none⟩ (.int .i64 f)).setCell ⟨w.heap.size + 1, 1, none⟩ (.int .i64 n)).setCell ⟨w.heap.size + 1, 2, none⟩ (.slice a m c) = V := ⟨_, rfl⟩
  have z0 : V.cell? ⟨w.heap.size + 1, 0, none⟩ = some (.int .i64 f) := by rw [← hV]; simp [go_sem, y0]
  have z1 : V.cell? ⟨w.heap.size + 1, 1, none⟩ = some (.int .i64 n) := by rw [← hV]; simp [go_sem, y1]
  have z2 : V.cell? ⟨w.heap.size + 1, 2, none⟩ = some (.slice a m c) := by rw [← hV]; simp [go_sem, y2]
  rw [hV] at HB ⊢
  refine bodyPost_ret (v := .agg #[.int .i64 f, .int .i64 n, .slice a m c]) ?_ rfl ⟨rfl, HB.out⟩
  simp [results, Try.results88, go_sem, z0, z1, z2]

end Go.Proofs.Ytmgmkgjefplfdaa
