/- Pieces of a text by SplitN. -/
import Derived.Test.YtnhkabhchepieaaDoorPtp
import Derived.Test.YtnhkabhchepieaaDoorShelf
import Derived.Test.YtnhkabhchepieaaDoorRows2
import Derived.Test.YtnhkabhchepieaaDoorGrow
namespace Go.Proofs.YtnhkabhchepieaaDoor
open Go.ChangeShapes Go.WideShapes Go.ChangeAt Go.RowKit
set_option linter.unusedVariables false


/-- The library's cell that a cut reads. -/
def GlobOk (w : World) : Prop := ∃ m : Int, w.cell? ⟨0, 0, none⟩ = some (.int .i64 m)
theorem GlobOk.kept {w w' : World} (h : GlobOk w) (hb : Below w.heap.size w w') : GlobOk w' := by
  obtain ⟨m, h⟩ := h
  exact ⟨m, (hb.cell (p := ⟨0, 0, none⟩) (World.block_lt_of_cell? w _ h)).trans h⟩
theorem ba_mk (s : ByteArray) : (⟨s.data.toList.toArray⟩ : ByteArray) = s := by simp
theorem splitQ (c : UInt8) (k : Nat) (s : ByteArray) (l : List UInt8) (hl : l = s.data.toList) (hs : s.size ≤ 1048576) (hk : 1 ≤ k) (hk2 : k ≤ 100) (w : World) (hG : GlobOk w) :
    Calls Tryd.prog 39 #[.string s, .string ⟨#[c]⟩, .int .i64 (k : Int)] w fun e w' => ∃ cap, e = .returned (.slice (some ⟨w.heap.size, 0, none⟩) (qN c k l).length cap) ∧ (∀ j, j < (qN c k l).length → w'.cell? ⟨w.heap.size, j, none⟩ = some (.string ⟨((qN c k l).getD j []).toArray⟩)) ∧ (qN c k l).length ≤ cap ∧ Below w.heap.size w w' := by
  obtain ⟨mm, hmm⟩ := hG
  have Hsp := splitN_any s ⟨#[c]⟩ k mm w (by omega) hmm (show 1 ≤ (1 : Nat) by omega) (by omega) (by omega)
  have hqq := qN_splitB c k s l hl
  refine Hsp.mono ?_
  rintro e w' ⟨rfl, rfl⟩
  have hmq : (Lib.splitB ⟨#[c]⟩ 0 (min k (s.size + 1) - 1) s).length = (qN c k l).length := by rw [← hqq, List.length_map]
  refine ⟨min k (s.size + 1), by rw [hmq], fun j hj => ?_, ?_, (Below.refl _ _).alloc (Nat.le_refl _) _⟩
  · have hjb : j < (Lib.splitB ⟨#[c]⟩ 0 (min k (s.size + 1) - 1) s).length := by rw [hmq]; exact hj
    have hget : (Lib.cellsOf (Lib.splitB ⟨#[c]⟩ 0 (min k (s.size + 1) - 1) s) (min k (s.size + 1)))[j]? = some (.string (Lib.splitB ⟨#[c]⟩ 0 (min k (s.size + 1) - 1) s)[j]) := by
      simp [Lib.cellsOf, List.getElem?_append_left, hjb]
    have e1 : (qN c k l).getD j [] = (Lib.splitB ⟨#[c]⟩ 0 (min k (s.size + 1) - 1) s)[j].data.toList := by rw [← hqq]; simp [List.getD_eq_getElem?_getD, hjb]
    rw [e1, ba_mk]
    exact (cell_of_row _ _ j _ _ _ (heap_alloc_new w _)).trans hget
  · rw [← hmq]
    have := Lib.splitB_length_le ⟨#[c]⟩ 0 (min k (s.size + 1) - 1) s
    omega
theorem wrapb (b : UInt8) : IntKind.i64.wrap (b.toNat : Int) = (b.toNat : Int) := IntWalk.i64_in _ (by have := b.toNat_lt; omega)
theorem wrap48 (b : UInt8) : IntKind.i64.wrap ((b.toNat : Int) - 48) = (b.toNat : Int) - 48 := IntWalk.i64_in _ (by have := b.toNat_lt; omega)
theorem piece_size (t : List UInt8) : (⟨t.toArray⟩ : ByteArray).size = t.length := by simp [ByteArray.size]
theorem piece_get (t : List UInt8) (k : Nat) (h : k < (⟨t.toArray⟩ : ByteArray).size) : (⟨t.toArray⟩ : ByteArray)[k]'h = t.getD k 0 := by
  have h2 : k < t.length := by rw [piece_size] at h; exact h
  have h3 : (⟨t.toArray⟩ : ByteArray)[k]'h = t.toArray[k]'(by simpa using h2) := rfl
  rw [h3]; simp [List.getD_eq_getElem?_getD, h2]

end Go.Proofs.YtnhkabhchepieaaDoor
