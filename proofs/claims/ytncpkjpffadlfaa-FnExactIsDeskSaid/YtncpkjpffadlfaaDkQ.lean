/- Desks owned. -/
import Derived.Test.YtncpkjpffadlfaaDkH
namespace Go.Proofs.Ytncpkjpffadlfaa
open Go.ChangeShapes Go.WideShapes Go.ChangeAt Go.RowKit
set_option linter.unusedVariables false


/-- A value that owns these calls. -/
def OwnD (l : List (Int × Int)) (n : Nat) (v : Value) (w : World) : Prop := ∃ base, w.ownsRow base 37 2 v n (cs l)
theorem OwnD.later {l : List (Int × Int)} {n : Nat} {v : Value} {w w' : World} (h : OwnD l n v w) (hb : Below w.heap.size w w') : OwnD l n v w' := by
  obtain ⟨b, h⟩ := h
  exact ⟨b, own_later h hb⟩
theorem eqDesk_q (f : Int) (v1 v2 : Value) (l : List (Int × Int)) (N M : Nat) (w : World) (hn : N = l.length) (hm : M = l.length) (hl : N ≤ 9223372036854775807) (h1 : OwnD l N v1 w) (h2 : OwnD l M v2 w) :
    Calls Try.prog 7 #[.agg #[.int .i64 f, v1], .agg #[.int .i64 f, v2]] w fun e w' => e = .returned (.bool true) ∧ Below w.heap.size w w' := by
  obtain ⟨b1, h1⟩ := h1
  obtain ⟨b2, h2⟩ := h2
  exact eqDesk_own f v1 v2 l N M w hn hm hl h1 h2

end Go.Proofs.Ytncpkjpffadlfaa
