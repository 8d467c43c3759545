/- The first desk. -/
import Derived.Test.YtncpkjpffadlfaaDkQ
namespace Go.Proofs.Ytncpkjpffadlfaa
open Go.ChangeShapes Go.WideShapes Go.ChangeAt Go.RowKit
set_option linter.unusedVariables false


/-- What the first desk's calls are. -/
def fdL : List (Int × Int) := [(0, 1), (1, 2)]

set_option maxRecDepth 20000 in
theorem specFirst_any (w : World) :
    Calls Try.prog 5 #[] w fun e w' => ∃ a c, e = .returned (.agg #[.int .i64 4, .slice a 2 c]) ∧ w'.ownsRow w.heap.size 37 2 (.slice a 2 c) 2 (cs fdL) ∧ Below w.heap.size w w' := by
  go_enter Try.func5, Try.ntmps5
  go_wp2_with fail
  exact bodyPost_ret (v := .agg #[.int .i64 4, .slice (some ⟨w.heap.size + 1, 0, none⟩) 2 2]) (by simp [results, Try.results5, go_sem]) rfl ⟨_, _, rfl,
    (by
      have h := World.ownsRow_lit (base := w.heap.size) (e := 37) (size := 2) (w.alloc (Obj.cells #[.int .i64 4, .slice (some ⟨w.heap.size + 1, 0, none⟩) 2 2] 24)) #[.int .i64 0, .int .i64 1, .int .i64 1, .int .i64 2] 2 (by simp) (by unfold maxLen; omega) rfl
      simpa [fdL, cs] using h),
    ((Below.refl _ _).alloc (Nat.le_refl _) _).alloc (by simp) _⟩

set_option maxRecDepth 20000 in
theorem implFirst_any (w : World) :
    Calls Try.prog 6 #[] w fun e w' => ∃ a c, e = .returned (.agg #[.int .i64 4, .slice a 2 c]) ∧ w'.ownsRow w.heap.size 37 2 (.slice a 2 c) 2 (cs fdL) ∧ Below w.heap.size w w' := by
  go_enter Try.func6, Try.ntmps6
  go_wp2_with fail
  exact bodyPost_ret (v := .agg #[.int .i64 4, .slice (some ⟨w.heap.size + 1, 0, none⟩) 2 2]) (by simp [results, Try.results6, go_sem]) rfl ⟨_, _, rfl,
    (by
      have h := World.ownsRow_lit (base := w.heap.size) (e := 37) (size := 2) (w.alloc (Obj.cells #[.int .i64 4, .slice (some ⟨w.heap.size + 1, 0, none⟩) 2 2] 24)) #[.int .i64 0, .int .i64 1, .int .i64 1, .int .i64 2] 2 (by simp) (by unfold maxLen; omega) rfl
      simpa [fdL, cs] using h),
    ((Below.refl _ _).alloc (Nat.le_refl _) _).alloc (by simp) _⟩

end Go.Proofs.Ytncpkjpffadlfaa
