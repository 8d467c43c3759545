/- Numbers handed in. -/
import Derived.Test.YtnhkabhchepieaaDoorRowsI
namespace Go.Proofs.YtnhkabhchepieaaDoor
open Go.ChangeShapes Go.WideShapes Go.ChangeAt Go.RowKit Go.Deep
set_option linter.unusedVariables false

variable {H : Type} {enc : TypeId × Value → H} {w : World} {base : Nat} {spare : Nat → Bool} {held : Bool}


theorem add_at (b off j : Nat) : (⟨b, off, none⟩ : Addr).add j = ⟨b, off + j, none⟩ := by unfold Addr.add; split <;> simp_all

theorem cells3 : Tryd.prog.cellsOf 3 = 1 := by kernel_rfl

theorem open_nums {ao : Option Addr} {len cap : Nat} {d : DataW H} {p : List MemPlace} (h : DataW.Trod enc Tryd.prog w base spare held 49 (.slice ao len cap) d p) :
    ∃ l : List Int, len = l.length ∧ len ≤ 9223372036854775807 ∧ NumsAt w ao l := by
  obtain ⟨fuel, hf⟩ := h
  rcases open_ints Tryd.underlying49 Tryd.underlying3 (by kernel_rfl) hf with ⟨hcs, _⟩ | ⟨x, l, c, zs, hcs, _, hl, hm, hz, _, hcell, hwz⟩
  · simp [Value.cells] at hcs
    obtain ⟨rfl, rfl, rfl⟩ := hcs
    exact ⟨[], rfl, by omega, .inl rfl⟩
  · simp [Value.cells] at hcs
    obtain ⟨rfl, rfl, rfl⟩ := hcs
    have hz' : len ≤ zs.length := by rw [hz]; split <;> omega
    have hml : len ≤ 9223372036854775807 := by unfold maxLen at hm; omega
    by_cases h0 : len = 0
    · exact ⟨[], by simpa using h0, hml, .inl rfl⟩
    · obtain ⟨b, off, spot⟩ := x
      have hc0 := hcell 0 (by omega)
      have hspot : spot = none := by simpa [Addr.add] using World.cell?_spot hc0
      subst hspot
      refine ⟨zs.take len, by simp; omega, hml, .inr ⟨b, off, rfl, fun i hi => ?_⟩⟩
      have hil : i < len := by simp at hi; omega
      have h1 := hcell i (by omega)
      rw [add_at] at h1
      rw [h1]
      simp [na, List.getD_eq_getElem?_getD, hil]

theorem cellsL : Tryd.prog.cellsOf 49 = 1 := by kernel_rfl

theorem open_rows {ao : Option Addr} {len cap : Nat} {d : DataW H} {p : List MemPlace} (h : DataW.Trod enc Tryd.prog w base spare held 22 (.slice ao len cap) d p) :
    ∃ L : List (List Int), len = L.length ∧ len ≤ 9223372036854775807 ∧ (∀ i, (row L i).length ≤ 9223372036854775807) ∧ RowsAt w ao L := by
  obtain ⟨fuel, hf⟩ := h
  simp only [Value.cells] at hf
  rcases open_slice1 Tryd.underlying22 cellsL hf with ⟨hcs, _⟩ | ⟨a, len', cap', m, n, V, D, Pl, hcs, hb, hl, hm, hmm, hx, hi⟩
  · simp at hcs
    obtain ⟨rfl, rfl, rfl⟩ := hcs
    exact ⟨[], rfl, by omega, fun i => by simp [row], .inl rfl⟩
  · simp at hcs
    obtain ⟨rfl, rfl, rfl⟩ := hcs
    have hml : len ≤ 9223372036854775807 := by unfold maxLen at hm; omega
    have key : ∀ i, i < len → ∃ q : (List Int) × (Option Addr × Nat), w.cell? (a.add i) = some (.slice q.2.1 q.1.length q.2.2) ∧ q.1.length ≤ 9223372036854775807 ∧ (q.1.length ≤ q.2.2 ∧ (q.2.1 = none → q.2.2 = 0)) ∧ NumsAt w q.2.1 q.1 := by
      intro i hil
      obtain ⟨h0, t0⟩ := hi i (by rw [hmm]; split <;> omega)
      rcases open_slice Tryd.underlying49 t0 with ⟨hcs, _⟩ | ⟨a2, len2, cap2, m2, n2, D2, P2, hcs, hb2, hl2, hm2, _⟩
      · simp only [List.cons.injEq, and_true] at hcs
        exact ⟨([], none, 0), by rw [h0, hcs]; rfl, by simp, by simp, .inl rfl⟩
      · simp only [List.cons.injEq, and_true] at hcs
        rw [hcs] at t0
        obtain ⟨l, hll, hlm, hla⟩ := open_nums ⟨n, t0⟩
        exact ⟨(l, some a2, cap2), by rw [h0, hcs, hll], by show l.length ≤ 9223372036854775807; omega, ⟨by show l.length ≤ cap2; omega, fun h => by cases h⟩, hla⟩
    by_cases h0 : len = 0
    · exact ⟨[], by simpa using h0, hml, fun i => by simp [row], .inl rfl⟩
    · obtain ⟨b, off, spot⟩ := a
      obtain ⟨q0, hc0, _⟩ := key 0 (by omega)
      have hspot : spot = none := by simpa [Addr.add] using World.cell?_spot hc0
      subst hspot
      obtain ⟨q, hq⟩ := choose_lt key
      have hrow : ∀ i, i < len → row ((List.range len).map fun i => (q i).1) i = (q i).1 := fun i hil => by simp [row, List.getD_eq_getElem?_getD, hil]
      refine ⟨(List.range len).map fun i => (q i).1, by simp, hml, fun i => ?_, .inr ⟨b, off, fun i => (q i).2.1, fun i => (q i).2.2, rfl, fun i hi' => ?_, fun i hi' => ?_⟩⟩
      · by_cases hil : i < len
        · rw [hrow i hil]; exact (hq i hil).2.1
        · rw [row_none (by simp; omega)]; simp
      · have hil : i < len := by simpa using hi'
        rw [hrow i hil]
        have := (hq i hil).1
        rw [add_at] at this
        exact ⟨this, (hq i hil).2.2.2⟩
      · have hil : i < len := by simpa using hi'
        rw [hrow i hil]
        exact (hq i hil).2.2.1

end Go.Proofs.YtnhkabhchepieaaDoor
