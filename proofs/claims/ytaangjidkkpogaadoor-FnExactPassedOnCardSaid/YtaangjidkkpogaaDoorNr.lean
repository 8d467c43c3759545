/- A new rumor. -/
import Derived.Test.YtaangjidkkpogaaDoorRw
namespace Go.Proofs.YtaangjidkkpogaaDoor
open Go.ChangeShapes Go.WideShapes Go.ChangeAt Go.RowKit Go.Conc
set_option linter.unusedVariables false


theorem bytes4 : ∃ i, Tryd.prog.info? 4 = some i ∧ i.bytes = 1 := by
  have h : (Tryd.prog.info? 4).map (·.bytes) = some 1 := by kernel_rfl
  obtain ⟨i, hi, hb⟩ := Option.map_eq_some_iff.1 h
  exact ⟨i, hi, hb⟩
theorem mk1 (w : World) : (Instr.makeChan 57 (.int .i64 1)).run Tryd.prog w = .ok (.chan (some w.heap.size)) (w.alloc (.chan 1 #[] false 0 0 false)) := by
  obtain ⟨i, hi, hb⟩ := bytes4
  simpa using run_makeChan (P := Tryd.prog) (w := w) Tryd.underlying57 hi .i64 1 (by omega) (by rw [hb]; omega)
theorem three (w : World) (o c d : Obj) : (((w.alloc o).alloc c).alloc d).heap[w.heap.size]? = some o ∧ (((w.alloc o).alloc c).alloc d).heap[w.heap.size + 1]? = some c ∧ (((w.alloc o).alloc c).alloc d).heap[w.heap.size + 1 + 1]? = some d := by
  refine ⟨?_, ?_, ?_⟩
  · rw [Below.heap_alloc _ _ _ (by simp; omega), Below.heap_alloc _ _ _ (by simp)]; exact heap_alloc_new w o
  · rw [Below.heap_alloc _ _ _ (by simp)]
    have := heap_alloc_new (w.alloc o) c
    rw [World.size_alloc] at this
    exact this
  · have := heap_alloc_new ((w.alloc o).alloc c) d
    rw [World.size_alloc, World.size_alloc] at this
    exact this
theorem info59 : (Tryd.prog.info? 59).map (·.size) = some 2 := by kernel_rfl
set_option maxRecDepth 100000 in
theorem newRumor_any (w : World) :
    Calls Tryd.prog 39 #[] w fun e w' => ∃ c0 c1, e = .returned (.agg #[.chan (some c0), .chan (some c1)]) ∧ c0 ≠ c1 ∧ w.heap.size ≤ c0 ∧ w.heap.size ≤ c1 ∧ Emp w' c0 c1 ∧ Below w.heap.size w w' := by
  have hmc := mk1
  go_enter Tryd.func39, Tryd.ntmps39
  go_wp2_with fail
  go_region
  · have h3 := three w (.cells #[.chan (some (w.heap.size + 1)), .chan (some (w.heap.size + 1 + 1))] 59) (.chan 1 #[] false 0 0 false) (.chan 1 #[] false 0 0 false)
    have hb := ((((Below.refl w.heap.size w).alloc (Nat.le_refl _) (.cells #[.chan (some (w.heap.size + 1)), .chan (some (w.heap.size + 1 + 1))] 59)).alloc (by simp) (.chan 1 #[] false 0 0 false)).alloc (by simp; omega) (.chan 1 #[] false 0 0 false)).drew
    have H3 := Lib.hid h3
    have Hb := Lib.hid hb
    clear h3 hb
    go_wp2_with fail
    exact bodyPost_ret (results_cell_row rfl _ _ w.heap.size 59 _ (0, 0) _ rfl H3.out.1 Tryd.underlying59 rfl info59) rfl ⟨w.heap.size + 1, w.heap.size + 1 + 1, rfl, by omega, by omega, by omega, ⟨0, 0, 0, 0, H3.out.2.1, H3.out.2.2⟩, Hb.out⟩
  · have h3 := three w (.cells #[.chan (some (w.heap.size + 1 + 1)), .chan (some (w.heap.size + 1))] 59) (.chan 1 #[] false 0 0 false) (.chan 1 #[] false 0 0 false)
    have hb := ((((Below.refl w.heap.size w).alloc (Nat.le_refl _) (.cells #[.chan (some (w.heap.size + 1 + 1)), .chan (some (w.heap.size + 1))] 59)).alloc (by simp) (.chan 1 #[] false 0 0 false)).alloc (by simp; omega) (.chan 1 #[] false 0 0 false)).drew
    have H3 := Lib.hid h3
    have Hb := Lib.hid hb
    clear h3 hb
    go_wp2_with fail
    exact bodyPost_ret (results_cell_row rfl _ _ w.heap.size 59 _ (0, 0) _ rfl H3.out.1 Tryd.underlying59 rfl info59) rfl ⟨w.heap.size + 1 + 1, w.heap.size + 1, rfl, by omega, by omega, by omega, ⟨0, 0, 0, 0, H3.out.2.2, H3.out.2.1⟩, Hb.out⟩

end Go.Proofs.YtaangjidkkpogaaDoor
