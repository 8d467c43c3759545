/- Puzzles opened. -/
import Derived.Test.YtnhkabhchepieaaDoorClu
import Derived.Test.YtnhkabhchepieaaDoorOpen
namespace Go.Proofs.YtnhkabhchepieaaDoor
open Go.ChangeShapes Go.WideShapes Go.ChangeAt Go.RowKit Go.Deep
set_option linter.unusedVariables false

variable {H : Type} {enc : TypeId × Value → H} {w : World} {base : Nat} {spare : Nat → Bool} {held : Bool}



theorem cellsLC : Tryd.prog.cellsOf 112 = 4 := by kernel_rfl

theorem trod4 {P : Program} {n : Nat} {e : TypeId} {f0 f1 f2 f3 : Field} {cs : List Value} {x : DataW H × List MemPlace} (he : P.underlying e = some (.struct #[f0, f1, f2, f3]))
    (o0 : f0.offset = 0) (o1 : f1.offset = 1) (o2 : f2.offset = 2) (o3 : f3.offset = 3) (c0 : P.cellsOf f0.type = 1) (c1 : P.cellsOf f1.type = 1) (c2 : P.cellsOf f2.type = 1) (c3 : P.cellsOf f3.type = 1) (hl : cs.length = 4)
    (h : DataW.trod enc P w base spare held n e cs = some x) :
    ∃ (v0 v1 v2 v3 : Value) (k : Nat) (y0 y1 y2 y3 : DataW H × List MemPlace), cs = [v0, v1, v2, v3] ∧ DataW.trod enc P w base spare held k f0.type [v0] = some y0 ∧ DataW.trod enc P w base spare held k f1.type [v1] = some y1 ∧ DataW.trod enc P w base spare held k f2.type [v2] = some y2 ∧ DataW.trod enc P w base spare held k f3.type [v3] = some y3 := by
  obtain ⟨xs, k, hk, hxy, _, hxl, hfl⟩ := DataW.trod_struct he h
  match xs, hxl, cs, hl with
  | [y0, y1, y2, y3], _, [v0, v1, v2, v3], _ =>
    have g0 := hfl 0 f0 rfl
    have g1 := hfl 1 f1 rfl
    have g2 := hfl 2 f2 rfl
    have g3 := hfl 3 f3 rfl
    simp [o0, o1, o2, o3, c0, c1, c2, c3] at g0 g1 g2 g3
    exact ⟨v0, v1, v2, v3, k, y0, y1, y2, y3, rfl, g0, g1, g2, g3⟩

theorem open_clues {ao : Option Addr} {len cap : Nat} {d : DataW H} {p : List MemPlace} (h : DataW.Trod enc Tryd.prog w base spare held 37 (.slice ao len cap) d p) :
    ∃ l : List Clu, len = l.length ∧ len ≤ 9223372036854775807 ∧ CluesAt w ao l := by
  obtain ⟨fuel, hf⟩ := h
  simp only [Value.cells] at hf
  rcases open_slice Tryd.underlying37 hf with ⟨hcs, _⟩ | ⟨a, len', cap', m, n, D, Pl, hcs, hb, hl, hm, hmm, hxe, hx⟩
  · simp at hcs
    obtain ⟨rfl, rfl, rfl⟩ := hcs
    exact ⟨[], rfl, by omega, .inl rfl⟩
  · simp at hcs
    obtain ⟨rfl, rfl, rfl⟩ := hcs
    have key : ∀ i, i < len → ∃ q : Clu, w.cell? (a.add (i * 4)) = some (.int .i64 q.1) ∧ w.cell? (a.add (i * 4 + 1)) = some (.int .i64 q.2.1) ∧ w.cell? (a.add (i * 4 + 2)) = some (.int .i64 q.2.2.1) ∧ w.cell? (a.add (i * 4 + 3)) = some (.int .i64 q.2.2.2) := by
      intro i hil
      obtain ⟨cs', h1, h2⟩ := hx i (by rw [hmm]; split <;> omega)
      rw [cellsLC] at h1
      obtain ⟨_, hlen, hcell⟩ := World.cells?_some h1
      obtain ⟨v0, v1, v2, v3, k, y0, y1, y2, y3, rfl, g0, g1, g2, g3⟩ := trod4 Tryd.underlying112 rfl rfl rfl rfl cells3 cells3 cells3 cells3 hlen h2
      have e0 := hcell 0 (by omega)
      have e1 := hcell 1 (by omega)
      have e2 := hcell 2 (by omega)
      have e3 := hcell 3 (by omega)
      rw [add_add] at e0 e1 e2 e3
      obtain ⟨x, ex, _, _⟩ := DataW.trod_int Tryd.underlying3 g0
      obtain ⟨y, ey, _, _⟩ := DataW.trod_int Tryd.underlying3 g1
      obtain ⟨z, ez, _, _⟩ := DataW.trod_int Tryd.underlying3 g2
      obtain ⟨u, eu, _, _⟩ := DataW.trod_int Tryd.underlying3 g3
      simp only [List.cons.injEq, and_true] at ex ey ez eu
      subst ex ey ez eu
      exact ⟨(x, y, z, u), by simpa using e0, by simpa using e1, by simpa using e2, by simpa using e3⟩
    have hml : len ≤ 9223372036854775807 := by unfold maxLen at hm; omega
    by_cases h0 : len = 0
    · exact ⟨[], by simpa using h0, hml, .inl rfl⟩
    · obtain ⟨b, off, spot⟩ := a
      obtain ⟨q0, hc0, _⟩ := key 0 (by omega)
      have hspot : spot = none := by simpa [Addr.add] using World.cell?_spot hc0
      subst hspot
      obtain ⟨q, hq⟩ := choose_lt key
      refine ⟨(List.range len).map q, by simp, hml, .inr ⟨b, off, rfl, fun i hi' => ?_⟩⟩
      have hil : i < len := by simpa using hi'
      have e1 : k0 ((List.range len).map q) i = (q i).1 := by simp [k0, List.getD_eq_getElem?_getD, hil]
      have e2 : k1 ((List.range len).map q) i = (q i).2.1 := by simp [k1, List.getD_eq_getElem?_getD, hil]
      have e3 : k2 ((List.range len).map q) i = (q i).2.2.1 := by simp [k2, List.getD_eq_getElem?_getD, hil]
      have e4 : k3 ((List.range len).map q) i = (q i).2.2.2 := by simp [k3, List.getD_eq_getElem?_getD, hil]
      unfold Sat4
      rw [e1, e2, e3, e4]
      have := hq i hil
      rw [add_at, add_at, add_at, add_at] at this
      exact this
theorem cellsLP : Tryd.prog.cellsOf 39 = 3 := by kernel_rfl

end Go.Proofs.YtnhkabhchepieaaDoor
