/- Lists of numbers in memory. -/
import Derived.Test.YtckkcmaajmphfaaGen
namespace Go.Proofs.Ytckkcmaajmphfaa
open Go.ChangeShapes Go.WideShapes Go.ChangeAt Go.RowKit
set_option linter.unusedVariables false

theorem info3 : (Try.prog.info? 3).map (fun i => (i.zero, i.size, i.bytes)) = some (some (.int .i64 0), 1, 8) := by kernel_rfl

/-- The cells of a list of numbers. -/
def ns (l : List Int) : List Value := l.map (Value.int .i64)

def na (l : List Int) (i : Nat) : Int := l.getD i 0

theorem ns_length (l : List Int) : (ns l).length = l.length := by simp [ns]

theorem ns_append (l m : List Int) : ns (l ++ m) = ns l ++ ns m := by simp [ns]

theorem ns_get (l : List Int) (i : Nat) (h : i < l.length) : (ns l)[i]? = some (.int .i64 (na l i)) := by simp [ns, na, h]

theorem ns_set (l : List Int) (i : Nat) (a : Int) : (ns l).set i (.int .i64 a) = ns (l.set i a) := by simp [ns, List.map_set]

theorem ns_one (l : List Int) : ∀ u ∈ ns l, u.oneCell' = true := by
  intro u hu
  simp only [ns, List.mem_map] at hu
  obtain ⟨c, _, rfl⟩ := hu; rfl

theorem na_get (l : List Int) (i : Nat) (h : i < l.length) : l[i] = na l i := by simp [na, List.getD_eq_getElem?_getD, h]

/-- The slice at this address reads as these numbers. -/
def NumsAt (w : World) (ao : Option Addr) (l : List Int) : Prop :=
  l = [] ∨ ∃ b off, ao = some ⟨b, off, none⟩ ∧ ∀ i, i < l.length → w.cell? ⟨b, off + i, none⟩ = some (.int .i64 (na l i))

theorem NumsAt.kept {w w' : World} {ao : Option Addr} {l : List Int} (h : NumsAt w ao l) (hb : Below w.heap.size w w') : NumsAt w' ao l := by
  rcases h with h | ⟨b, off, h, hc⟩
  · exact .inl h
  · refine .inr ⟨b, off, h, fun i hi => ?_⟩
    exact (hb.cell (p := ⟨b, off + i, none⟩) (World.block_lt_of_cell? w _ (hc i hi))).trans (hc i hi)

theorem nums_at {w : World} {base g n cap : Nat} {l : List Int} (h : w.ownsRow base 3 1 (.slice (some ⟨g, 0, none⟩) n cap) n (ns l)) (hn : n = l.length) : NumsAt w (some ⟨g, 0, none⟩) l := by
  subst hn
  refine .inr ⟨g, 0, rfl, fun i hi => ?_⟩
  have h1 := h.cellAt i (by omega)
  rw [ns_get l i hi] at h1
  simp only [Nat.zero_add]
  exact h1

theorem nums_shape {w : World} {base n : Nat} {v : Value} {l : List Int} (h : w.ownsRow base 3 1 v n (ns l)) (hn : n = l.length) :
    ∃ ao cap, v = .slice ao n cap ∧ NumsAt w ao l := by
  rcases h.2 with ⟨rfl, h0⟩ | ⟨g, cap, cur, rfl, hb, hg, _⟩
  · refine ⟨none, 0, by rw [h0], .inl ?_⟩
    exact List.eq_nil_of_length_eq_zero (by omega)
  · exact ⟨some ⟨g, 0, none⟩, cap, rfl, nums_at h hn⟩

theorem zero_nums (n : Nat) : (madeCells #[.int .i64 0] (n * 1)).toList = ns (List.replicate n 0) := by
  rw [Nat.mul_one, toList_madeCells_one]
  simp [ns]

end Go.Proofs.Ytckkcmaajmphfaa
