/- The news of a set in order: the library sorts the keys. -/
import Derived.Test.YtolkfgjgnpjpkaaBefore
import Derived.Test.YtolkfgjgnpjpkaaInts
namespace Go.Proofs.Ytolkfgjgnpjpkaa
open Go.ChangeShapes Go.WideShapes Go.ChangeAt Go.RowKit Go.Maps Go.Shelf Go.Sort
set_option linter.unusedVariables false


theorem bl_rise (s : Nat) : (bl s 10).Pairwise (fun a b => leI a b = true) := by
  unfold bl
  rw [List.pairwise_map]
  refine List.Pairwise.imp ?_ (List.Pairwise.filter _ List.pairwise_lt_range)
  intro a b h
  simp only [leI, decide_eq_true_eq]
  omega
theorem sorted_bl {s : Nat} {ss : List Int} (h : ss.Perm (intKeys (setD s))) : ss.mergeSort leI = bl s 10 := by
  rw [mergeSort_of_perm_i h, keys_setD]
  exact List.mergeSort_of_pairwise (bl_rise s)

/-- slices.Sort's two contracts at this program, at the fence that asks nothing. -/
theorem sorts_in (m : Nat) : AnyZI.SortsIn Try.prog sortedL_ren Fence.wide m :=
  ⟨fun blk off cap ss W hH hblk hsz => callsIn_wide.2 (AnyM.slices_Sort_int sortL blk off cap ss W hH hblk hsz),
   fun p cap W => callsIn_wide.2 (AnyM.slices_Sort_int_none sortL p cap W)⟩

theorem keys_any (b : Nat) (w : World) : Calls Try.prog 72 #[.map (some b)] w fun e w' => e = .returned (.func (.func 100) #[] #[.pointer (some ⟨w.heap.size, 0, none⟩)]) ∧ w' = w.alloc (.cells #[.map (some b)] 72) :=
  (callsIn_wide (n := 5)).1 (AnyZI.keys_in keysL Fence.wide 5 trivial rfl (some b) w)

theorem sorted_any (b s : Nat) (w : World) (h : SetAt w b s) :
    Calls Try.prog 71 #[.func (.func 100) #[] #[.pointer (some ⟨w.heap.size, 0, none⟩)]] (w.alloc (.cells #[.map (some b)] 72)) fun e w' => ∃ v, e = .returned v ∧ w'.ownsRow (w.heap.size + 1) 3 1 v (bl s 10).length (ns (bl s 10)) ∧ Below w.heap.size w w' := by
  refine (callsIn_wide (n := 5)).1 ?_
  have hbl := h.lt
  have hseq : SeqGives Fence.wide 2 Try.prog 100 #[.pointer (some ⟨w.heap.size, 0, none⟩)] encZ (fun ss => ss.Perm (intKeys (setD s))) (Maps.size (setD s)) (w.alloc (.cells #[.map (some b)] 72)) :=
    AnyZI.keys_gives (ρ := keysL_ren) { keysL with } Fence.wide _ trivial rfl (by omega) w.heap.size b 10 (setD s) _ (by simp) (by simp) (by
      obtain ⟨es, clock, hb, Ft, hs, hD⟩ := h
      exact ⟨es, clock, (Below.heap_alloc _ _ b hbl).trans hb, Ft, hs, hD⟩)
  have hp := pc_ten s
  have cS := AnyZI.sorted_in sortedL Fence.wide 5 trivial trivial trivial trivial rfl (by omega) (sorts_in _) (enters_of Try.func99 (by kernel_rfl) rfl) 100 #[.pointer (some ⟨w.heap.size, 0, none⟩)] trivial (enters_of Try.func100 (by kernel_rfl) rfl) _ _ (by rw [size_setD]; unfold maxLen; omega) (by rw [size_setD]; omega) _ hseq
  change CallsIn _ _ Try.prog 71 _ _ _ at cS
  refine cS.mono ?_
  rintro e w' ⟨v, ss, rfl, hS, hrow, hnil, hb⟩
  have hm := sorted_bl hS
  have hl : ss.length = (bl s 10).length := by rw [← hm, List.length_mergeSort]
  refine ⟨v, rfl, ?_, ((Below.refl _ w).alloc (Nat.le_refl _) _).trans (hb.mono (by simp))⟩
  have hrow2 := hrow
  rw [show (ss.mergeSort fun x y => decide (x ≤ y)) = bl s 10 from hm, hl] at hrow2
  rw [show (w.alloc (.cells #[.map (some b)] 72)).heap.size = w.heap.size + 1 by simp] at hrow2
  exact hrow2

end Go.Proofs.Ytolkfgjgnpjpkaa
