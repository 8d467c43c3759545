/- Lists of calls handed in. -/
import Derived.Test.YtmgmkgjefplfdaaOpen
import Derived.Test.YtmgmkgjefplfdaaRows2
namespace Go.Proofs.Ytmgmkgjefplfdaa
open Go.ChangeShapes Go.WideShapes Go.ChangeAt Go.RowKit Go.Deep
set_option linter.unusedVariables false

theorem cells85 : Try.prog.cellsOf 85 = 2 := by kernel_rfl

variable {H : Type} {enc : TypeId × Value → H} {w : World} {base : Nat} {spare : Nat → Bool} {held : Bool}


theorem open_calls {ao : Option Addr} {len cap : Nat} {d : DataW H} {p : List MemPlace} (h : DataW.Trod enc Try.prog w base spare held 42 (.slice ao len cap) d p) :
    ∃ l : List (Int × Int), len = l.length ∧ len ≤ 9223372036854775807 ∧ CallsAt w ao l := by
  obtain ⟨fuel, hf⟩ := h
  simp only [Value.cells] at hf
  rcases open_slice_pairs Try.underlying42 Try.underlying85 cells85 rfl rfl cells3 cells3 hf with ⟨hcs, _⟩ | ⟨a, len', cap', m, n, V0, V1, D0, D1, P0, P1, hcs, hb, hl, hm, hmm, hx, hi⟩
  · simp at hcs
    obtain ⟨rfl, rfl, rfl⟩ := hcs
    exact ⟨[], rfl, by omega, .inl rfl⟩
  · simp at hcs
    obtain ⟨rfl, rfl, rfl⟩ := hcs
    have key : ∀ i, i < len → ∃ x y : Int, w.cell? (a.add (i * 2)) = some (.int .i64 x) ∧ w.cell? (a.add (i * 2 + 1)) = some (.int .i64 y) := by
      intro i hil
      obtain ⟨h0, h1, t0, t1⟩ := hi i (by rw [hmm]; split <;> omega)
      obtain ⟨x, e0, _, _⟩ := DataW.trod_int Try.underlying3 t0
      obtain ⟨y, e1, _, _⟩ := DataW.trod_int Try.underlying3 t1
      simp only [List.cons.injEq, and_true] at e0 e1
      exact ⟨x, y, by rw [h0, e0], by rw [h1, e1]⟩
    have hml : len ≤ 9223372036854775807 := by unfold maxLen at hm; omega
    by_cases h0 : len = 0
    · exact ⟨[], by simpa using h0, hml, .inl rfl⟩
    · obtain ⟨b, off, spot⟩ := a
      obtain ⟨x, y, hc0, _⟩ := key 0 (by omega)
      have hspot : spot = none := by simpa [Addr.add] using World.cell?_spot hc0
      subst hspot
      have key2 : ∀ i, i < len → ∃ q : Int × Int, w.cell? ⟨b, off + i * 2, none⟩ = some (.int .i64 q.1) ∧ w.cell? ⟨b, off + i * 2 + 1, none⟩ = some (.int .i64 q.2) := by
        intro i hil
        obtain ⟨x, y, e0, e1⟩ := key i hil
        exact ⟨(x, y), by rw [add_at] at e0; exact e0, by rw [add_at] at e1; exact e1⟩
      obtain ⟨q, hq⟩ := choose_lt key2
      refine ⟨(List.range len).map q, by simp, hml, .inr ⟨b, off, rfl, fun i hi' => ?_⟩⟩
      have hil : i < len := by simpa using hi'
      have e1 : ca ((List.range len).map q) i = (q i).1 := by simp [ca, List.getD_eq_getElem?_getD, hil]
      have e2 : cb ((List.range len).map q) i = (q i).2 := by simp [cb, List.getD_eq_getElem?_getD, hil]
      rw [e1, e2]
      exact hq i hil

end Go.Proofs.Ytmgmkgjefplfdaa
