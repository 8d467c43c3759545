/- What calls a text is of: the model, at every text. -/
import Derived.Test.YtjldfdaaoeomdaaDoorParse
namespace Go.Proofs.YtjldfdaaoeomdaaDoor
open Go.ChangeShapes Go.WideShapes Go.ChangeAt Go.RowKit
set_option linter.unusedVariables false



theorem nonempty_of {s : ByteArray} {l : List UInt8} (h : l = s.data.toList) (h0 : 0 < s.size) : s.toList.isEmpty = false ∧ l.isEmpty = false := by
  have hl : l.length = s.size := by rw [h]; simp
  rw [ByteArray.toList_eq, ← h]
  cases l with
  | nil => simp at hl; omega
  | cons _ _ => exact ⟨rfl, rfl⟩
theorem empty_of {s : ByteArray} {l : List UInt8} (h : l = s.data.toList) (h0 : s.size = 0) : s.toList.isEmpty = true ∧ l = [] := by
  have hl : l.length = s.size := by rw [h]; simp
  have : l = [] := List.eq_nil_of_length_eq_zero (by omega)
  rw [ByteArray.toList_eq, ← h, this]
  exact ⟨rfl, rfl⟩
theorem pR_nil : pR [] = [] := rfl
theorem pB_nil : pB [] = true := rfl
theorem pB_some {l : List UInt8} (h : l.isEmpty = false) : pB l = pOK l := by rw [pB, h]; rfl

theorem caParse_any (s : ByteArray) (l : List UInt8) (Hl : Hid (l = s.data.toList)) (w : World) :
    Calls Tryd.prog 41 #[.string s] w fun e w' => ∃ v, e = .returned (.tuple #[v, .bool (pB l)]) ∧ w'.ownsRow w.heap.size 50 2 v (pR l).length (cs (pR l)) ∧ Below w.heap.size w w' := by
  by_cases h0 : s.size = 0
  · obtain ⟨he, hl⟩ := empty_of Hl.out h0
    rw [hl, pB_nil, pR_nil]
    have Hnil := Lib.hid (World.ownsRow_nil w w.heap.size 50 2)
    go_enter Tryd.func41, Tryd.ntmps41
    go_wp2_with fail
    go_ret2
    exact ⟨_, rfl, Hnil.out, Below.refl _ _⟩
  · obtain ⟨he, hl⟩ := nonempty_of Hl.out (by omega)
    by_cases h1 : s.size ≤ 180
    · rw [pB_some hl]
      exact caParse_loop s l Hl s.size rfl (by omega) h1 w
    · have hp : pOK l = false := by
        have : l.length = s.size := by rw [Hl.out]; simp
        rw [pOK, show decide (l.length ≤ 180) = false by simp; omega]; rfl
      have hR : pR l = [] := by rw [pR, hp]; rfl
      rw [pB_some hl, hp, hR]
      have Hnil := Lib.hid (World.ownsRow_nil w w.heap.size 50 2)
      have hbig : (180 : Int) < (s.size : Int) := by omega
      clear hp hR hl h1 h0
      go_enter Tryd.func41, Tryd.ntmps41
      go_wp2_with fail
      go_ret2
      exact ⟨_, rfl, Hnil.out, Below.refl _ _⟩


end Go.Proofs.YtjldfdaaoeomdaaDoor
