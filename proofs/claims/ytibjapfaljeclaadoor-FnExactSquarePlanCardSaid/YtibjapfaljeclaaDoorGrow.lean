/- Room for so many calls. -/
import Derived.Lib.AppendZerosOnto
import Derived.Test.YtibjapfaljeclaaDoorRowsL
namespace Go.Proofs.YtibjapfaljeclaaDoor
open Go.ChangeShapes Go.WideShapes Go.ChangeAt Go.RowKit
set_option linter.unusedVariables false


set_option maxRecDepth 20000 in
theorem grow_any (n : Nat) (w : World) (hn : n ≤ 100000) :
    Calls Tryd.prog 40 #[.slice none 0 0, .int .i64 n] w fun e w' => ∃ v, e = .returned v ∧ w'.ownsRow w.heap.size 35 2 v 0 (cs []) ∧ Below w.heap.size w w' := by
  obtain ⟨i0, hi, hz0, hz1, hz2⟩ := info_parts info35
  have h1 : ¬ ((n : Int) < 0) := by omega
  by_cases h0 : n = 0
  · subst h0
    clear h1
    go_enter Tryd.func40, Tryd.ntmps40
    go_wp2
    go_ret
    exact ⟨_, rfl, World.ownsRow_nil _ _ _ _, Below.refl _ _⟩
  · have hbt : Tryd.t35.bytes = 16 := by kernel_rfl
    have f1 : ¬ 281474976710656 < Builtin.nextslicecap n 0 * Tryd.t35.bytes := by
      have := growslice_fits (need := n) (old := 0) (bytes := Tryd.t35.bytes) (by omega) (by rw [hbt]; omega)
      omega
    have f2 : (n : Int) * (Tryd.t35.bytes : Int) ≤ 281474976710656 := by rw [hbt]; omega
    have f3 : ¬ n * 2 = 0 := by omega
    have f4 : 0 < n := by omega
    have f5 : (n : Int) ≤ 9223372036854775807 := by omega
    have f6 : (0 : Int) ≤ (n : Int) := by omega
    have hGn : n ≤ grownCap w n 0 35 := grownCap_ge w _ _ _
    have hGm : grownCap w n 0 35 ≤ maxLen := grownCap_le_maxLen w n 0 _ (by unfold maxLen; omega)
    have HG : Hid (∃ G, (Question.appendCap n 0 35).cut (w.tape w.drawn (Question.appendCap n 0 35)) = G ∧ n ≤ G ∧ G ≤ maxLen) := Lib.hid ⟨_, rfl, hGn, hGm⟩
    clear hGn hGm hbt
    go_enter Tryd.func40, Tryd.ntmps40
    go_wp2_with fail
    obtain ⟨G, hG, hGn, hGm⟩ := HG.out
    rw [hG]
    go_ret
    refine ⟨_, rfl, ⟨by simp [cs], .inr ⟨w.heap.size, G, _, rfl, Nat.le_refl _, heap_alloc_new w _, Nat.zero_le _, hGm, ?_, by simp [cs]⟩⟩, ?_⟩
    · simp [Builtin.zeroCells]; omega
    · exact ((Below.refl _ _).alloc (Nat.le_refl _) _).drew

end Go.Proofs.YtibjapfaljeclaaDoor
