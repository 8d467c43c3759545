/- Puzzles owned. -/
import Derived.Test.YtnhkabhchepieaaDoorPzH
import Derived.Test.YtnhkabhchepieaaDoorBox
namespace Go.Proofs.YtnhkabhchepieaaDoor
open Go.ChangeShapes Go.WideShapes Go.ChangeAt Go.RowKit
set_option linter.unusedVariables false


/-- A value that owns these clues. -/
def OwnQ (l : List Clu) (n : Nat) (v : Value) (w : World) : Prop := ∃ base, w.ownsRow base 83 4 v n (ks l)
theorem OwnQ.later {l : List Clu} {n : Nat} {v : Value} {w w' : World} (h : OwnQ l n v w) (hb : Below w.heap.size w w') : OwnQ l n v w' := by
  obtain ⟨b, h⟩ := h
  exact ⟨b, own_later h hb⟩
theorem eqPuzzle_q (f n : Int) (v1 v2 : Value) (l : List Clu) (N M : Nat) (w : World) (hn : N = l.length) (hm : M = l.length) (hl : N ≤ 9223372036854775807) (h1 : OwnQ l N v1 w) (h2 : OwnQ l M v2 w) :
    Calls Tryd.prog 26 #[.agg #[.int .i64 f, .int .i64 n, v1], .agg #[.int .i64 f, .int .i64 n, v2]] w fun e w' => e = .returned (.bool true) ∧ Below w.heap.size w w' := by
  obtain ⟨b1, h1⟩ := h1
  obtain ⟨b2, h2⟩ := h2
  exact eqPuzzle_own f n v1 v2 l N M w hn hm hl h1 h2

end Go.Proofs.YtnhkabhchepieaaDoor
