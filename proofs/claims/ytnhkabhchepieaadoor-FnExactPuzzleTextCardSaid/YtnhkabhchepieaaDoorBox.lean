/- Structs handed in, boxed. -/
import Derived.Test.YtnhkabhchepieaaDoorRows2
namespace Go.Proofs.YtnhkabhchepieaaDoor
open Go.ChangeShapes Go.WideShapes Go.ChangeAt Go.RowKit
set_option linter.unusedVariables false


theorem box1 (w : World) (c : Array Value) (t : TypeId) : ∃ W0, w.alloc (Obj.cells c t) = W0 ∧ Below w.heap.size w W0 ∧ W0.heap.size = w.heap.size + 1 ∧ W0.heap[w.heap.size]? = some (.cells c t (0, 0)) :=
  ⟨_, rfl, (Below.refl _ _).alloc (Nat.le_refl _) _, by simp, heap_alloc_new _ _⟩
theorem row_later {w w' : World} {b : Nat} {o : Obj} (h : w.heap[b]? = some o) (hb : Below w.heap.size w w') : w'.heap[b]? = some o := (hb.block b (Array.getElem?_eq_some_iff.1 h).1).trans h
theorem box2 (w : World) (c : Array Value) (t : TypeId) (c' : Array Value) (t' : TypeId) : ∃ W0, (w.alloc (Obj.cells c t)).alloc (Obj.cells c' t') = W0 ∧ Below w.heap.size w W0 ∧ W0.heap.size = w.heap.size + 2 ∧ W0.heap[w.heap.size]? = some (.cells c t (0, 0)) ∧ W0.heap[w.heap.size + 1]? = some (.cells c' t' (0, 0)) := by
  obtain ⟨A, hA, hb, hs, hr⟩ := box1 w c t
  refine ⟨_, rfl, by rw [hA]; exact hb.alloc (by omega) _, by rw [hA]; simp [hs], ?_, ?_⟩
  · rw [hA, Below.heap_alloc _ _ _ (by omega)]; exact hr
  · rw [hA]
    have h := heap_alloc_new A (Obj.cells c' t')
    rw [hs] at h; exact h

end Go.Proofs.YtnhkabhchepieaaDoor
