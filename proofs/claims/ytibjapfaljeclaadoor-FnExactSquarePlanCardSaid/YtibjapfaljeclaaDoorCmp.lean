/- How the program compares calls. -/
import Derived.Shelf.SlSortCmp.QuietGrown
import Derived.Test.YtibjapfaljeclaaDoorCmp0
namespace Go.Proofs.YtibjapfaljeclaaDoor
open Go.ChangeShapes Go.WideShapes Go.ChangeAt Go.RowKit


theorem grown_below {w w' : World} (h : ∃ p : GrownBy, w' = Sort.grow (w.drewN p.n) p.os) : Below w.heap.size w w' := by
  obtain ⟨p, rfl⟩ := h
  refine ⟨rfl, rfl, rfl, by simp [Sort.grow, World.drewN], fun k hk => ?_⟩
  show (w.heap ++ p.os)[k]? = w.heap[k]?
  rw [Array.getElem?_append_left hk]

theorem grown_alloc {W : World} (o : Obj) : ∃ p : GrownBy, (W.alloc o).drew = Sort.grow (W.drewN p.n) p.os := ⟨⟨1, #[o]⟩, by rw [Sort.alloc_eq_grow]; rfl⟩

theorem grown_drew {W : World} : ∃ p : GrownBy, W.drew = Sort.grow (W.drewN p.n) p.os := ⟨⟨1, #[]⟩, by rw [Sort.grow_empty]; rfl⟩

set_option maxRecDepth 20000 in
theorem compareCalls_grown (a b c d : Int) (w : World) : Calls Tryd.prog 59 #[.agg #[.int .i64 a, .int .i64 b], .agg #[.int .i64 c, .int .i64 d]] w fun e w' => e = .returned (.int .i64 (cmC (a, b) (c, d))) ∧ ∃ q os', w' = Sort.grow (w.drewN q) os' := by
  go_enter Tryd.func59, Tryd.ntmps59
  go_wp2_with fail
  obtain ⟨W, hW⟩ : ∃ W, (w.alloc (Obj.cells #[Value.int IntKind.i64 a, Value.int IntKind.i64 b] 35)).alloc (Obj.cells #[Value.int IntKind.i64 c, Value.int IntKind.i64 d] 35) = W := ⟨_, rfl⟩
  have hb : ∃ os, W = Sort.grow w os := ⟨_, by rw [← hW, Sort.alloc_eq_grow, Sort.alloc_eq_grow, Sort.grow_grow]⟩
  have c0 : W.cell? ⟨w.heap.size, 0, none⟩ = some (.int .i64 a) := by rw [← hW]; simp
  have c1 : W.cell? ⟨w.heap.size, 1, none⟩ = some (.int .i64 b) := by rw [← hW]; simp
  have c2 : W.cell? ⟨w.heap.size + 1, 0, none⟩ = some (.int .i64 c) := by rw [← hW]; simp
  have c3 : W.cell? ⟨w.heap.size + 1, 1, none⟩ = some (.int .i64 d) := by rw [← hW]; simp
  have hsW : w.heap.size + 2 ≤ W.heap.size := by rw [← hW]; simp
  rw [hW]
  have Hb := Lib.hid hb
  clear hW hb
  go_region_held3 (fun w' => w'.cell? ⟨w.heap.size, 0, none⟩ = some (.int .i64 a) ∧ w'.cell? ⟨w.heap.size, 1, none⟩ = some (.int .i64 b) ∧ w'.cell? ⟨w.heap.size + 1, 0, none⟩ = some (.int .i64 c) ∧ w'.cell? ⟨w.heap.size + 1, 1, none⟩ = some (.int .i64 d) ∧ Hid (∃ p : GrownBy, w' = Sort.grow (W.drewN p.n) p.os))
    (first
      | exact ⟨c0, c1, c2, c3, grown_drew⟩
      | (refine ⟨?_, ?_, ?_, ?_, ?_⟩ <;> first | assumption | exact grown_drew | exact grown_alloc _ | go_keep))
    (first
      | (go_at_call 65; refine (compare_any _ _ _).mono ?_; rintro e w3 ⟨rfl, rfl⟩)
      | (go_at_call 64; refine (or_any _ _ (cmI a c) (cmI b d) (cmC (a, b) (c, d)) _ rfl (by simp) (by simp)).mono ?_; rintro e w3 ⟨rfl, rfl⟩)
      | fail)
  rename_i hS
  obtain ⟨os, rfl⟩ := Hb.out
  obtain ⟨p, hp⟩ := hS.2.2.2.2.out
  have Hp := Lib.hid hp
  clear hp hS Hb
  go_wp2_with fail
  go_ret
  exact ⟨ret_int rfl, p.n, os ++ p.os, by rw [Hp.out]; show Sort.grow (Sort.grow (w.drewN p.n) os) p.os = _; rw [Sort.grow_grow]⟩

theorem compareCalls_any (a b c d : Int) (w : World) : Calls Tryd.prog 59 #[.agg #[.int .i64 a, .int .i64 b], .agg #[.int .i64 c, .int .i64 d]] w fun e w' => e = .returned (.int .i64 (cmC (a, b) (c, d))) ∧ Below w.heap.size w w' :=
  (compareCalls_grown a b c d w).mono fun _ _ ⟨he, q, os, hw⟩ => ⟨he, grown_below ⟨⟨q, os⟩, hw⟩⟩

end Go.Proofs.YtibjapfaljeclaaDoor
