/- IsDesk by model and program. -/
import Derived.Test.YtncpkjpffadlfaaDkQ
import Derived.Test.YtncpkjpffadlfaaGood
namespace Go.Proofs.Ytncpkjpffadlfaa
open Go.ChangeShapes Go.WideShapes Go.ChangeAt Go.RowKit
set_option linter.unusedVariables false


theorem coGood_any (w : World) (f : Int) (ao : Option Addr) (cap : Nat) (l : List (Int × Int)) (N : Nat) (HN : Hid (N = l.length)) (hN : N ≤ 1048576) (Hc : CallsAt w ao l) :
    Calls Try.prog 18 #[.agg #[.int .i64 f, .slice ao N cap]] w fun e w' => e = .returned (.bool (gdB f l)) ∧ Below w.heap.size w w' := by
  obtain ⟨W, hW, hbW, hsW, rX⟩ := box1 w #[.int .i64 f, .slice ao N cap] 24
  have HW := Lib.hid hW
  have Hb := Lib.hid hbW
  have x0 : W.cell? ⟨w.heap.size, 0, none⟩ = some (.int .i64 f) := cell_of_row _ _ _ _ _ _ rX
  have x1 : W.cell? ⟨w.heap.size, 1, none⟩ = some (.slice ao N cap) := cell_of_row _ _ _ _ _ _ rX
  have HC := Lib.hid (caGood_any f ao cap l N W HN.out (by omega) (Hc.kept hbW))
  clear hW rX hbW Hc
  go_enter Try.func18, Try.ntmps18
  go_wp2_with fail
  rw [HW.out]
  refine HC.out.mono ?_
  rintro e w2 ⟨rfl, hb2⟩
  have HB := Lib.hid (Hb.out.trans (hb2.mono Hb.out.size))
  clear x0 x1 hb2
  go_wp2_with fail
  go_ret
  exact ⟨rfl, HB.out⟩
theorem specIsDesk_any (w : World) (f : Int) (ao : Option Addr) (cap : Nat) (l : List (Int × Int)) (N : Nat) (HN : Hid (N = l.length)) (hN : N ≤ 1048576) (Hc : CallsAt w ao l) :
    Calls Try.prog 11 #[.agg #[.int .i64 f, .slice ao N cap]] w fun e w' => e = .returned (.bool (gdB f l)) ∧ Below w.heap.size w w' := by
  obtain ⟨W, hW, hbW, hsW, rX⟩ := box1 w #[.int .i64 f, .slice ao N cap] 24
  have HW := Lib.hid hW
  have Hb := Lib.hid hbW
  have x0 : W.cell? ⟨w.heap.size, 0, none⟩ = some (.int .i64 f) := cell_of_row _ _ _ _ _ _ rX
  have x1 : W.cell? ⟨w.heap.size, 1, none⟩ = some (.slice ao N cap) := cell_of_row _ _ _ _ _ _ rX
  have HC := Lib.hid (coGood_any W f ao cap l N HN hN (Hc.kept hbW))
  clear hW rX hbW Hc
  go_enter Try.func11, Try.ntmps11
  go_wp2_with fail
  rw [HW.out]
  refine HC.out.mono ?_
  rintro e w2 ⟨rfl, hb2⟩
  have HB := Lib.hid (Hb.out.trans (hb2.mono Hb.out.size))
  clear x0 x1 hb2
  go_wp2_with fail
  go_ret
  exact ⟨rfl, HB.out⟩
theorem implIsDesk_any (w : World) (f : Int) (ao : Option Addr) (cap : Nat) (l : List (Int × Int)) (N : Nat) (HN : Hid (N = l.length)) (hN : N ≤ 1048576) (Hc : CallsAt w ao l) :
    Calls Try.prog 13 #[.agg #[.int .i64 f, .slice ao N cap]] w fun e w' => e = .returned (.bool (gdB f l)) ∧ Below w.heap.size w w' := by
  obtain ⟨W, hW, hbW, hsW, rX⟩ := box1 w #[.int .i64 f, .slice ao N cap] 24
  have HW := Lib.hid hW
  have Hb := Lib.hid hbW
  have x0 : W.cell? ⟨w.heap.size, 0, none⟩ = some (.int .i64 f) := cell_of_row _ _ _ _ _ _ rX
  have x1 : W.cell? ⟨w.heap.size, 1, none⟩ = some (.slice ao N cap) := cell_of_row _ _ _ _ _ _ rX
  have HC := Lib.hid (areCalls_any f ao cap l N W HN.out (by omega) (Hc.kept hbW))
  clear hW rX hbW Hc
  go_enter Try.func13, Try.ntmps13
  go_wp2_with fail
  rw [HW.out]
  refine HC.out.mono ?_
  rintro e w2 ⟨rfl, hb2⟩
  have HB := Lib.hid (Hb.out.trans (hb2.mono Hb.out.size))
  clear x0 x1 hb2
  go_wp2_with fail
  go_ret
  exact ⟨rfl, HB.out⟩

end Go.Proofs.Ytncpkjpffadlfaa
