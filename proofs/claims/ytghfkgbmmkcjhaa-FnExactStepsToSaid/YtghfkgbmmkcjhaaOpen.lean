/- Arguments opened. -/
import Derived.Test.YtghfkgbmmkcjhaaSnd
namespace Go.Proofs.Ytghfkgbmmkcjhaa
open Go.ChangeShapes Go.WideShapes Go.ChangeAt Go.RowKit Go.Deep
set_option linter.unusedVariables false

variable {H : Type} {enc : TypeId × Value → H} {w : World} {base : Nat} {spare : Nat → Bool} {held : Bool}


theorem add_at (b off j : Nat) : (⟨b, off, none⟩ : Addr).add j = ⟨b, off + j, none⟩ := by unfold Addr.add; split <;> simp_all

theorem cells3 : Try.prog.cellsOf 3 = 1 := by kernel_rfl


theorem cellsLS : Try.prog.cellsOf 55 = 3 := by kernel_rfl

theorem trod3 {P : Program} {n : Nat} {e : TypeId} {f0 f1 f2 : Field} {cs : List Value} {x : DataW H × List MemPlace} (he : P.underlying e = some (.struct #[f0, f1, f2]))
    (o0 : f0.offset = 0) (o1 : f1.offset = 1) (o2 : f2.offset = 2) (c0 : P.cellsOf f0.type = 1) (c1 : P.cellsOf f1.type = 1) (c2 : P.cellsOf f2.type = 1) (hl : cs.length = 3)
    (h : DataW.trod enc P w base spare held n e cs = some x) :
    ∃ (v0 v1 v2 : Value) (k : Nat) (y0 y1 y2 : DataW H × List MemPlace), cs = [v0, v1, v2] ∧ DataW.trod enc P w base spare held k f0.type [v0] = some y0 ∧ DataW.trod enc P w base spare held k f1.type [v1] = some y1 ∧ DataW.trod enc P w base spare held k f2.type [v2] = some y2 := by
  obtain ⟨xs, k, hk, hxy, _, hxl, hfl⟩ := DataW.trod_struct he h
  match xs, hxl, cs, hl with
  | [y0, y1, y2], _, [v0, v1, v2], _ =>
    have g0 := hfl 0 f0 rfl
    have g1 := hfl 1 f1 rfl
    have g2 := hfl 2 f2 rfl
    simp [o0, o1, o2, c0, c1, c2] at g0 g1 g2
    exact ⟨v0, v1, v2, k, y0, y1, y2, rfl, g0, g1, g2⟩

theorem open_sends {ao : Option Addr} {len cap : Nat} {d : DataW H} {p : List MemPlace} (h : DataW.Trod enc Try.prog w base spare held 30 (.slice ao len cap) d p) :
    ∃ l : List Snd, len = l.length ∧ len ≤ 9223372036854775807 ∧ SendsAt w ao l := by
  obtain ⟨fuel, hf⟩ := h
  simp only [Value.cells] at hf
  rcases open_slice Try.underlying30 hf with ⟨hcs, _⟩ | ⟨a, len', cap', m, n, D, Pl, hcs, hb, hl, hm, hmm, hxe, hx⟩
  · simp at hcs
    obtain ⟨rfl, rfl, rfl⟩ := hcs
    exact ⟨[], rfl, by omega, .inl rfl⟩
  · simp at hcs
    obtain ⟨rfl, rfl, rfl⟩ := hcs
    have key : ∀ i, i < len → ∃ q : Snd, w.cell? (a.add (i * 3)) = some (.int .i64 q.1) ∧ w.cell? (a.add (i * 3 + 1)) = some (.int .i64 q.2.1) ∧ w.cell? (a.add (i * 3 + 2)) = some (.int .i64 q.2.2) := by
      intro i hil
      obtain ⟨cs', h1, h2⟩ := hx i (by rw [hmm]; split <;> omega)
      rw [cellsLS] at h1
      obtain ⟨_, hlen, hcell⟩ := World.cells?_some h1
      obtain ⟨v0, v1, v2, k, y0, y1, y2, rfl, g0, g1, g2⟩ := trod3 Try.underlying55 rfl rfl rfl cells3 cells3 cells3 hlen h2
      have e0 := hcell 0 (by omega)
      have e1 := hcell 1 (by omega)
      have e2 := hcell 2 (by omega)
      rw [add_add] at e0 e1 e2
      obtain ⟨x, ex, _, _⟩ := DataW.trod_int Try.underlying3 g0
      obtain ⟨y, ey, _, _⟩ := DataW.trod_int Try.underlying3 g1
      obtain ⟨z, ez, _, _⟩ := DataW.trod_int Try.underlying3 g2
      simp only [List.cons.injEq, and_true] at ex ey ez
      subst ex ey ez
      exact ⟨(x, y, z), by simpa using e0, by simpa using e1, by simpa using e2⟩
    have hml : len ≤ 9223372036854775807 := by unfold maxLen at hm; omega
    by_cases h0 : len = 0
    · exact ⟨[], by simpa using h0, hml, .inl rfl⟩
    · obtain ⟨b, off, spot⟩ := a
      obtain ⟨q0, hc0, _⟩ := key 0 (by omega)
      have hspot : spot = none := by simpa [Addr.add] using World.cell?_spot hc0
      subst hspot
      obtain ⟨q, hq⟩ := choose_lt key
      refine ⟨(List.range len).map q, by simp, hml, .inr ⟨b, off, rfl, fun i hi' => ?_⟩⟩
      have hil : i < len := by simpa using hi'
      have e1 : sf ((List.range len).map q) i = (q i).1 := by simp [sf, List.getD_eq_getElem?_getD, hil]
      have e2 : st ((List.range len).map q) i = (q i).2.1 := by simp [st, List.getD_eq_getElem?_getD, hil]
      have e3 : sm ((List.range len).map q) i = (q i).2.2 := by simp [sm, List.getD_eq_getElem?_getD, hil]
      unfold Sat3
      rw [e1, e2, e3]
      have := hq i hil
      rw [add_at, add_at, add_at] at this
      exact this

end Go.Proofs.Ytghfkgbmmkcjhaa
