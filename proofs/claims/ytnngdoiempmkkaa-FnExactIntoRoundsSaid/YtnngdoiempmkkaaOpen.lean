/- How the laws' arguments, lists of lists of calls, are opened into what the walks ask. -/
import Derived.Test.YtnngdoiempmkkaaRowsI
namespace Go.Proofs.Ytnngdoiempmkkaa
open Go.ChangeShapes Go.WideShapes Go.ChangeAt Go.RowKit Go.Deep
set_option linter.unusedVariables false

theorem add_at (b off j : Nat) : (⟨b, off, none⟩ : Addr).add j = ⟨b, off + j, none⟩ := by unfold Addr.add; split <;> simp_all

theorem cells3 : Try.prog.cellsOf 3 = 1 := by kernel_rfl

theorem cells52 : Try.prog.cellsOf 52 = 2 := by kernel_rfl

theorem cellsL : Try.prog.cellsOf 35 = 1 := by kernel_rfl

section
variable {H : Type} {enc : TypeId × Value → H} {w : World} {base : Nat} {spare : Nat → Bool} {held : Bool}

theorem open_calls {ao : Option Addr} {len cap : Nat} {d : DataW H} {p : List MemPlace} (h : DataW.Trod enc Try.prog w base spare held 35 (.slice ao len cap) d p) :
    ∃ l : List (Int × Int), len = l.length ∧ len ≤ 9223372036854775807 ∧ CallsAt w ao l := by
  obtain ⟨fuel, hf⟩ := h
  simp only [Value.cells] at hf
  rcases open_slice_pairs Try.underlying35 Try.underlying52 cells52 rfl rfl cells3 cells3 hf with ⟨hcs, _⟩ | ⟨a, len', cap', m, n, V0, V1, D0, D1, P0, P1, hcs, hb, hl, hm, hmm, hx, hi⟩
  · simp at hcs
    obtain ⟨rfl, rfl, rfl⟩ := hcs
    exact ⟨[], rfl, by omega, .inl rfl⟩
  · simp at hcs
    obtain ⟨rfl, rfl, rfl⟩ := hcs
    have key : ∀ i, i < len → ∃ x y : Int, w.cell? (a.add (i * 2)) = some (.int .i64 x) ∧ w.cell? (a.add (i * 2 + 1)) = some (.int .i64 y) := by
      intro i hil
      obtain ⟨h0, h1, t0, t1⟩ := hi i (by rw [hmm]; split <;> omega)
      obtain ⟨x, e0, _, _⟩ := DataW.trod_int Try.underlying3 t0
      obtain ⟨y, e1, _, _⟩ := DataW.trod_int Try.underlying3 t1
      simp only [List.cons.injEq, and_true] at e0 e1
      exact ⟨x, y, by rw [h0, e0], by rw [h1, e1]⟩
    have hml : len ≤ 9223372036854775807 := by unfold maxLen at hm; omega
    by_cases h0 : len = 0
    · exact ⟨[], by simpa using h0, hml, .inl rfl⟩
    · obtain ⟨b, off, spot⟩ := a
      obtain ⟨x, y, hc0, _⟩ := key 0 (by omega)
      have hspot : spot = none := by simpa [Addr.add] using World.cell?_spot hc0
      subst hspot
      have key2 : ∀ i, i < len → ∃ q : Int × Int, w.cell? ⟨b, off + i * 2, none⟩ = some (.int .i64 q.1) ∧ w.cell? ⟨b, off + i * 2 + 1, none⟩ = some (.int .i64 q.2) := by
        intro i hil
        obtain ⟨x, y, e0, e1⟩ := key i hil
        exact ⟨(x, y), by rw [add_at] at e0; exact e0, by rw [add_at] at e1; exact e1⟩
      obtain ⟨q, hq⟩ := choose_lt key2
      refine ⟨(List.range len).map q, by simp, hml, .inr ⟨b, off, rfl, fun i hi' => ?_⟩⟩
      have hil : i < len := by simpa using hi'
      have e1 : ca ((List.range len).map q) i = (q i).1 := by simp [ca, List.getD_eq_getElem?_getD, hil]
      have e2 : cb ((List.range len).map q) i = (q i).2 := by simp [cb, List.getD_eq_getElem?_getD, hil]
      rw [e1, e2]
      exact hq i hil

end

section
variable {H : Type} {enc : TypeId × Value → H} {w : World} {base : Nat} {spare : Nat → Bool} {held : Bool}
theorem open_rows {ao : Option Addr} {len cap : Nat} {d : DataW H} {p : List MemPlace} (h : DataW.Trod enc Try.prog w base spare held 22 (.slice ao len cap) d p) :
    ∃ L : List (List (Int × Int)), len = L.length ∧ len ≤ 9223372036854775807 ∧ (∀ i, (crow L i).length ≤ 9223372036854775807) ∧ RowsAt w ao L := by
  obtain ⟨fuel, hf⟩ := h
  simp only [Value.cells] at hf
  rcases open_slice1 Try.underlying22 cellsL hf with ⟨hcs, _⟩ | ⟨a, len', cap', m, n, V, D, Pl, hcs, hb, hl, hm, hmm, hx, hi⟩
  · simp at hcs
    obtain ⟨rfl, rfl, rfl⟩ := hcs
    exact ⟨[], rfl, by omega, fun i => by simp [crow], .inl rfl⟩
  · simp at hcs
    obtain ⟨rfl, rfl, rfl⟩ := hcs
    have hml : len ≤ 9223372036854775807 := by unfold maxLen at hm; omega
    have key : ∀ i, i < len → ∃ q : (List (Int × Int)) × (Option Addr × Nat), w.cell? (a.add i) = some (.slice q.2.1 q.1.length q.2.2) ∧ q.1.length ≤ 9223372036854775807 ∧ (q.1.length ≤ q.2.2 ∧ (q.2.1 = none → q.2.2 = 0)) ∧ CallsAt w q.2.1 q.1 := by
      intro i hil
      obtain ⟨h0, t0⟩ := hi i (by rw [hmm]; split <;> omega)
      rcases open_slice Try.underlying35 t0 with ⟨hcs, _⟩ | ⟨a2, len2, cap2, m2, n2, D2, P2, hcs, hb2, hl2, hm2, _⟩
      · simp only [List.cons.injEq, and_true] at hcs
        exact ⟨([], none, 0), by rw [h0, hcs]; rfl, by simp, by simp, .inl rfl⟩
      · simp only [List.cons.injEq, and_true] at hcs
        rw [hcs] at t0
        obtain ⟨l, hll, hlm, hla⟩ := open_calls ⟨n, t0⟩
        exact ⟨(l, some a2, cap2), by rw [h0, hcs, hll], by show l.length ≤ 9223372036854775807; omega, ⟨by show l.length ≤ cap2; omega, fun h => by cases h⟩, hla⟩
    by_cases h0 : len = 0
    · exact ⟨[], by simpa using h0, hml, fun i => by simp [crow], .inl rfl⟩
    · obtain ⟨b, off, spot⟩ := a
      obtain ⟨q0, hc0, _⟩ := key 0 (by omega)
      have hspot : spot = none := by simpa [Addr.add] using World.cell?_spot hc0
      subst hspot
      obtain ⟨q, hq⟩ := choose_lt key
      have hrow : ∀ i, i < len → crow ((List.range len).map fun i => (q i).1) i = (q i).1 := fun i hil => by simp [crow, List.getD_eq_getElem?_getD, hil]
      refine ⟨(List.range len).map fun i => (q i).1, by simp, hml, fun i => ?_, .inr ⟨b, off, fun i => (q i).2.1, fun i => (q i).2.2, rfl, fun i hi' => ?_, fun i hi' => ?_⟩⟩
      · by_cases hil : i < len
        · rw [hrow i hil]; exact (hq i hil).2.1
        · rw [crow_none (by simp; omega)]; simp
      · have hil : i < len := by simpa using hi'
        rw [hrow i hil]
        have := (hq i hil).1
        rw [add_at] at this
        exact ⟨this, (hq i hil).2.2.2⟩
      · have hil : i < len := by simpa using hi'
        rw [hrow i hil]
        exact (hq i hil).2.2.1
end

end Go.Proofs.Ytnngdoiempmkkaa
