/- What a clue is, by the program: the kinds. -/
import Derived.Test.YtnhkabhchepieaaDoorKc
import Derived.BigQuiet
import Derived.Shelf.SlSortCmp.QuietGrown
namespace Go.Proofs.YtnhkabhchepieaaDoor
open Go.ChangeShapes Go.WideShapes Go.ChangeAt Go.RowKit
set_option linter.unusedVariables false


theorem grown_below {w w' : World} (h : ∃ p : GrownBy, w' = Sort.grow (w.drewN p.n) p.os) : Below w.heap.size w w' := by
  obtain ⟨p, rfl⟩ := h
  refine ⟨rfl, rfl, rfl, by simp [Sort.grow, World.drewN], fun k hk => ?_⟩
  show (w.heap ++ p.os)[k]? = w.heap[k]?
  rw [Array.getElem?_append_left hk]
theorem cell_grown {W : World} {p : Addr} {v : Value} (hb : p.block < W.heap.size) (h : W.cell? p = some v) : ∀ n os, (Sort.grow (W.drewN n) os).cell? p = some v := fun n os => ((grown_below ⟨⟨n, os⟩, rfl⟩).cell hb).trans h
theorem grown2 (w : World) (a b : Obj) : ∃ q os', (w.alloc a).alloc b = Sort.grow (w.drewN q) os' := ⟨0, #[a] ++ #[b], by rw [Sort.alloc_eq_grow, Sort.alloc_eq_grow, Sort.grow_grow]; rfl⟩
theorem has_grown (A B Lo M : Int) (fv : Value) (k a b d : Int) (w : World) :
    Calls Tryd.prog 137 #[.agg #[.int .i64 A, .int .i64 B, .int .i64 Lo, .int .i64 M, fv], .agg #[.int .i64 k, .int .i64 a, .int .i64 b, .int .i64 d]] w fun e w' => e = .returned (.bool (hasB A B Lo M (k, a, b, d))) ∧ ∃ q os', w' = Sort.grow (w.drewN q) os' := by
  by_cases h0 : 0 ≤ a
  · have d0 : decide (0 ≤ a) = true := by simpa using h0
    by_cases h1 : a < A
    · have d1 : decide (a < A) = true := by simpa using h1
      by_cases h2 : 0 ≤ b
      · have d2 : decide (0 ≤ b) = true := by simpa using h2
        by_cases h3 : b < B
        · have d3 : decide (b < B) = true := by simpa using h3
          by_cases h4 : Lo ≤ d
          · have d4 : decide (Lo ≤ d) = true := by simpa using h4
            by_cases h5 : d ≤ M
            · have d5 : decide (d ≤ M) = true := by simpa using h5
              have hm : hasB A B Lo M (k, a, b, d) = true := by simp [hasB]; try omega
              rw [hm]
              clear hm
              go_enter Tryd.func137, Tryd.ntmps137
              go_wp2_with fail
              go_ret
              exact ⟨rfl, grown2 _ _ _⟩
            · have e5 : decide (d ≤ M) = false := by simpa using h5
              have hm : hasB A B Lo M (k, a, b, d) = false := by simp [hasB]; try omega
              rw [hm]
              clear hm
              go_enter Tryd.func137, Tryd.ntmps137
              go_wp2_with fail
              go_ret
              exact ⟨rfl, grown2 _ _ _⟩
          · have e4 : decide (Lo ≤ d) = false := by simpa using h4
            have hm : hasB A B Lo M (k, a, b, d) = false := by simp [hasB]; try omega
            rw [hm]
            clear hm
            go_enter Tryd.func137, Tryd.ntmps137
            go_wp2_with fail
            go_ret
            exact ⟨rfl, grown2 _ _ _⟩
        · have e3 : decide (b < B) = false := by simpa using h3
          have hm : hasB A B Lo M (k, a, b, d) = false := by simp [hasB]; try omega
          rw [hm]
          clear hm
          go_enter Tryd.func137, Tryd.ntmps137
          go_wp2_with fail
          go_ret
          exact ⟨rfl, grown2 _ _ _⟩
      · have e2 : decide (0 ≤ b) = false := by simpa using h2
        have hm : hasB A B Lo M (k, a, b, d) = false := by simp [hasB]; try omega
        rw [hm]
        clear hm
        go_enter Tryd.func137, Tryd.ntmps137
        go_wp2_with fail
        go_ret
        exact ⟨rfl, grown2 _ _ _⟩
    · have e1 : decide (a < A) = false := by simpa using h1
      have hm : hasB A B Lo M (k, a, b, d) = false := by simp [hasB]; try omega
      rw [hm]
      clear hm
      go_enter Tryd.func137, Tryd.ntmps137
      go_wp2_with fail
      go_ret
      exact ⟨rfl, grown2 _ _ _⟩
  · have e0 : decide (0 ≤ a) = false := by simpa using h0
    have hm : hasB A B Lo M (k, a, b, d) = false := by simp [hasB]; try omega
    rw [hm]
    clear hm
    go_enter Tryd.func137, Tryd.ntmps137
    go_wp2_with fail
    go_ret
    exact ⟨rfl, grown2 _ _ _⟩

/-- The function of a kind. -/
def kF (k : Nat) : Value := .func (.func (if k = 0 then 111 else if k = 1 then 112 else if k = 2 then 113 else if k = 3 then 114 else if k = 4 then 115 else 116)) #[] #[]
/-- The row of all kinds. -/
def kRow (f n : Int) : Array Value := ((List.range 6).flatMap fun k => [.int .i64 (kA f n k), .int .i64 (kB f n k), .int .i64 (kL k), .int .i64 (kM f n k), kF k]).toArray
/-- The slice of all kinds at this block. -/
def KindsAt (f n : Int) (w : World) (b : Nat) : Prop := w.heap[b]? = some (.cells (kRow f n) 140 (0, 0))
theorem KindsAt.kept {f n : Int} {w w' : World} {b : Nat} (h : KindsAt f n w b) (hb : Below w.heap.size w w') : KindsAt f n w' b := (hb.block b (Array.getElem?_eq_some_iff.1 h).1).trans h
theorem KindsAt.lt {f n : Int} {w : World} {b : Nat} (h : KindsAt f n w b) : b < w.heap.size := (Array.getElem?_eq_some_iff.1 h).1
theorem KindsAt.cells {f n : Int} {w : World} {b : Nat} (h : KindsAt f n w b) {k : Nat} (hk : k < 6) :
    w.cell? ⟨b, k * 5, none⟩ = some (.int .i64 (kA f n k)) ∧ w.cell? ⟨b, k * 5 + 1, none⟩ = some (.int .i64 (kB f n k)) ∧ w.cell? ⟨b, k * 5 + 2, none⟩ = some (.int .i64 (kL k)) ∧ w.cell? ⟨b, k * 5 + 3, none⟩ = some (.int .i64 (kM f n k)) ∧ w.cell? ⟨b, k * 5 + 4, none⟩ = some (kF k) := by
  have hj : k = 0 ∨ k = 1 ∨ k = 2 ∨ k = 3 ∨ k = 4 ∨ k = 5 := by omega
  rcases hj with rfl | rfl | rfl | rfl | rfl | rfl <;> exact ⟨cell_of_row _ _ _ _ _ _ h, cell_of_row _ _ _ _ _ _ h, cell_of_row _ _ _ _ _ _ h, cell_of_row _ _ _ _ _ _ h, cell_of_row _ _ _ _ _ _ h⟩
theorem kindsOf_any (f n : Int) (w : World) : Calls Tryd.prog 94 #[.int .i64 f, .int .i64 n] w fun e w' => e = .returned (.slice (some ⟨w.heap.size, 0, none⟩) 6 6) ∧ KindsAt f n w' w.heap.size ∧ Below w.heap.size w w' := by
  go_enter Tryd.func94, Tryd.ntmps94
  go_wp2_with fail
  go_ret
  exact ⟨rfl, heap_alloc_new _ _, by go_grown⟩

end Go.Proofs.YtnhkabhchepieaaDoor
