/- A test of each wire alone: the pure part. -/
import Derived.Test.YtoigafjocckepaaWi
namespace Go.Proofs.Ytoigafjocckepaa
open Go.ChangeShapes Go.WideShapes Go.ChangeAt Go.RowKit
set_option linter.unusedVariables false


/-- A test of each of the first wires alone. -/
def sg : Nat → List (List Int) | 0 => [] | k + 1 => sg k ++ [[(k : Int)]]
theorem sg_length : ∀ k, (sg k).length = k | 0 => rfl | k + 1 => by simp [sg, sg_length k]
theorem row_app_lt {L M : List (List Int)} {i : Nat} (h : i < L.length) : row (L ++ M) i = row L i := by
  simp [row, List.getD_eq_getElem?_getD, List.getElem?_append_left h]
theorem row_app_eq (L : List (List Int)) (l : List Int) : row (L ++ [l]) L.length = l := by
  simp [row, List.getD_eq_getElem?_getD]
theorem sg_row (k i : Nat) : (row (sg k) i).length ≤ 1 := by
  induction k with
  | zero => simp [sg, row]
  | succ k ih =>
    show (row (sg k ++ [[(k : Int)]]) i).length ≤ 1
    by_cases h : i < k
    · rw [row_app_lt (by rw [sg_length]; exact h)]; exact ih
    · by_cases h2 : i = k
      · have e := row_app_eq (sg k) [(k : Int)]
        rw [sg_length] at e
        rw [h2, e]; simp
      · rw [row_none (by simp [sg_length]; omega)]; simp
def sgR (f : Int) : List (List Int) := if wfB f then sg f.toNat else []
theorem wf_parts {f : Int} (h : wfB f = true) : 1 ≤ f ∧ f ≤ 10 := by simpa [wfB] using h
theorem sgR_length (f : Int) : (sgR f).length ≤ 1000 := by
  unfold sgR; split
  · rename_i h; have := wf_parts h; rw [sg_length]; omega
  · simp
theorem sgR_row (f : Int) (i : Nat) : (row (sgR f) i).length ≤ 1000 := by
  unfold sgR; split
  · exact Nat.le_trans (sg_row _ i) (by omega)
  · simp [row]

end Go.Proofs.Ytoigafjocckepaa
