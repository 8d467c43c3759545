/- Rows loaded and stored where the order is drawn. -/
import Derived.Test.YtghfkgbmmkcjhaaFil
import Derived.Test.YtghfkgbmmkcjhaaBef
import Derived.Laws.ResultCell
import Derived.Deep.RegionLaw
namespace Go.Proofs.Ytghfkgbmmkcjhaa
open Go.ChangeShapes Go.WideShapes Go.ChangeAt Go.RowKit
set_option linter.unusedVariables false


def ArrShape (d : TypeDesc) : Prop := ∃ n e, d = .array n e
/-- A whole row is loaded, at a step of a region that draws its order. -/
theorem step_load_row {ops : Array Oper} {o : Oper} {a : Act} {w : World} {K : Act → World → Prop} {Q : Exit → Act → World → Prop} {E : Prop} (hgd : o.guard = none) (ty : TypeId) (x : Operand) (ho : o.op = .load ty x)
    (g : Nat) (hx : a.eval x = .pointer (some ⟨g, 0, none⟩)) (t : TypeId) (cs : Array Value) (fr : Nat × Nat) (d : TypeDesc) (hg : w.heap[g]? = some (.cells cs t fr))
    (hu : Try.prog.underlying ty = some d) (hd : ArrShape d) (hi : (Try.prog.info? ty).map (·.size) = some cs.size)
    (h : K (a.put o.dst (.agg cs)) w) : if Region.wanted o (yielded ops a.tmps) = true then Oper.wp Try.prog o a w K Q else E := by
  have hw : Region.wanted o (yielded ops a.tmps) = true := by simp [Region.wanted, hgd]
  rw [if_pos hw]
  exact wp_load_row ty x ho g hx t cs fr d hg hu (by obtain ⟨n, e, rfl⟩ := hd; rfl) hi h
/-- A whole row is stored, at a step of a region that draws its order. -/
theorem step_store_row {ops : Array Oper} {o : Oper} {a : Act} {w : World} {K : Act → World → Prop} {Q : Exit → Act → World → Prop} {E : Prop} (hgd : o.guard = none) (ty : TypeId) (x y : Operand) (ho : o.op = .store ty x y)
    (g : Nat) (cells : Array Value) (hx : a.eval x = .pointer (some ⟨g, 0, none⟩)) (hy : a.eval y = .agg cells)
    (t : TypeId) (old : Array Value) (hg : w.heap[g]? = some (.cells old t (0, 0))) (hi : (Try.prog.info? ty).map (·.size) = some cells.size)
    (hold : old.size = cells.size) (h1 : cells.all (·.oneCell') = true)
    (h : K (a.put o.dst undef) (w.setRow g cells)) : if Region.wanted o (yielded ops a.tmps) = true then Oper.wp Try.prog o a w K Q else E := by
  have hw : Region.wanted o (yielded ops a.tmps) = true := by simp [Region.wanted, hgd]
  rw [if_pos hw]
  exact wp_store_row ty x y ho g cells hx hy t old hg hi hold h1 h
theorem results_row_tmp {fn : Func} {p u : Tmp} {ty : TypeId} (h : fn.results = #[.cell p ty, .tmp u]) (tmps : Array Value) (w : World) (g : Nat) (t : TypeId) (cs : Array Value) (fr : Nat × Nat) (d : TypeDesc)
    (hp : tmps.getD p undef = .pointer (some ⟨g, 0, none⟩)) (hg : w.heap[g]? = some (.cells cs t fr))
    (hu : Try.prog.underlying ty = some d) (hd : ArrShape d) (hi : (Try.prog.info? ty).map (·.size) = some cs.size) :
    (results fn tmps).run Try.prog w = .ok (.tuple #[.agg cs, tmps.getD u undef]) w := by
  have hp' : tmps[p]?.getD undef = .pointer (some ⟨g, 0, none⟩) := by simpa using hp
  rw [results_cell_tmp h]
  simp [hp', asAddr, run_loadVar_row w g t ty cs fr d hg hu (by obtain ⟨n, e, rfl⟩ := hd; rfl) hi]

/-- Three rows that stay: the delay, the result, what is made. -/
structure Keep (B Pm : Nat) (d : Int) (f : Int → Int) (w0 w : World) : Prop where
  q : w.heap[B]? = some (.cells #[.int .i64 d] 3 (0, 0))
  z : w.heap[B + 1]? = some (.cells ZA 57 (0, 0))
  p : w.heap[Pm]? = some (.cells (AA f) 57 (0, 0))
  b : Below w0.heap.size w0 w
  l : B + 1 < Pm
theorem Keep.later {B Pm : Nat} {d : Int} {f : Int → Int} {w0 w w' : World} (h : Keep B Pm d f w0 w) (hb : Below w.heap.size w w') : Keep B Pm d f w0 w' :=
  ⟨(hb.block _ (Array.getElem?_eq_some_iff.1 h.q).1).trans h.q, (hb.block _ (Array.getElem?_eq_some_iff.1 h.z).1).trans h.z, (hb.block _ (Array.getElem?_eq_some_iff.1 h.p).1).trans h.p, h.b.trans (hb.mono h.b.size), h.l⟩
theorem Keep.drew {B Pm : Nat} {d : Int} {f : Int → Int} {w0 w : World} (h : Keep B Pm d f w0 w) : Keep B Pm d f w0 w.drew := h.later (Below.refl _ _).drew
theorem Keep.cell {B Pm : Nat} {d : Int} {f : Int → Int} {w0 w : World} (h : Keep B Pm d f w0 w) : w.cell? ⟨B, 0, none⟩ = some (.int .i64 d) := by
  rw [cell_of_row _ _ _ _ _ _ h.q]; rfl
theorem Keep.set {B Pm : Nat} {d : Int} {f g : Int → Int} {w0 w : World} (h : Keep B Pm d f w0 w) (hB : w0.heap.size ≤ B) : Keep B Pm d g w0 (w.setRow Pm (AA g)) :=
  ⟨(setRow_other _ _ _ _ (by have := h.l; omega)).trans h.q, (setRow_other _ _ _ _ (by have := h.l; omega)).trans h.z, setRow_heap _ _ _ _ _ _ h.p, below_setRow h.b (by have := h.l; omega) _, h.l⟩
/-- The numbers of ordered sends. -/
def SmallF (l : List Snd) : Prop := ∀ i, i < l.length → 0 ≤ sf l i ∧ sf l i < 40

end Go.Proofs.Ytghfkgbmmkcjhaa
