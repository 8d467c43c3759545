/- Pieces of a text are no longer than it. -/
import Derived.Test.YtnhkabhchepieaaDoorPw
namespace Go.Proofs.YtnhkabhchepieaaDoor
open Go.ChangeShapes Go.WideShapes Go.ChangeAt Go.RowKit
set_option linter.unusedVariables false


theorem nonempty_of {s : ByteArray} {l : List UInt8} (h : l = s.data.toList) (h0 : 0 < s.size) : s.toList.isEmpty = false ∧ l.isEmpty = false := by
  have hl : l.length = s.size := by rw [h]; simp
  rw [ByteArray.toList_eq, ← h]
  cases l with
  | nil => simp at hl; omega
  | cons _ _ => exact ⟨rfl, rfl⟩
theorem empty_of {s : ByteArray} {l : List UInt8} (h : l = s.data.toList) (h0 : s.size = 0) : s.toList.isEmpty = true ∧ l = [] := by
  have hl : l.length = s.size := by rw [h]; simp
  have : l = [] := List.eq_nil_of_length_eq_zero (by omega)
  rw [ByteArray.toList_eq, ← h, this]
  exact ⟨rfl, rfl⟩
theorem getD_len_le (c : UInt8) (l : List UInt8) (j : Nat) : ((spF c l).getD j []).length ≤ l.length := by
  by_cases hj : j < (spF c l).length
  · have h1 := spF_sum c l
    have h2 : ∀ (q : List (List UInt8)) (t : List UInt8), t ∈ q → t.length + 1 ≤ (q.map fun t => t.length + 1).sum := by
      intro q
      induction q with
      | nil => intro t h; cases h
      | cons x r ih =>
        intro t h
        simp only [List.map_cons, List.sum_cons]
        rcases List.mem_cons.1 h with rfl | h
        · omega
        · have := ih t h; omega
    have h3 := h2 (spF c l) ((spF c l).getD j []) (by simp [List.getD_eq_getElem?_getD, hj])
    omega
  · simp [List.getD_eq_getElem?_getD, Nat.le_of_not_lt hj]
theorem sum_mem (q : List (List UInt8)) (t : List UInt8) (h : t ∈ q) : t.length + 1 ≤ (q.map fun t => t.length + 1).sum := by
  induction q with
  | nil => cases h
  | cons x r ih =>
    simp only [List.map_cons, List.sum_cons]
    rcases List.mem_cons.1 h with rfl | h
    · omega
    · have := ih h; omega
theorem splitK_mem (c : UInt8) : ∀ (k : Nat) (l : List UInt8) (t : List UInt8), t ∈ Lib.splitK [c] 0 k l → t.length ≤ l.length := by
  intro k
  induction k with
  | zero => intro l t h; simp [Lib.splitK] at h; rw [h]; exact Nat.le_refl _
  | succ k ih =>
    intro l t h
    unfold Lib.splitK at h
    split at h
    · simp at h; rw [h]; exact Nat.le_refl _
    · rcases List.mem_cons.1 h with rfl | h
      · simp; omega
      · have := ih _ t h
        simp at this; omega

end Go.Proofs.YtnhkabhchepieaaDoor
