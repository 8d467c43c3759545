/- Calls are sorted: the library's contract on a row of the call's own; a call put into its place. -/
import Derived.Test.YtnngdoiempmkkaaSortL
import Derived.Test.YtnngdoiempmkkaaRndS0
import Derived.Sort.OwnSortedInts
namespace Go.Proofs.Ytnngdoiempmkkaa
open Go.ChangeShapes Go.WideShapes Go.ChangeAt Go.RowKit Go.Shelf Go.Lib Go.Sort
set_option linter.unusedVariables false


def encC (x : Int × Int) : List Value := [.int .i64 x.1, .int .i64 x.2]
theorem ltOf_cm (x y : Int × Int) : ltOf cmC x y = ltC x.1 x.2 y.1 y.2 := by
  unfold ltOf ltC cmC cmI
  rw [Bool.eq_iff_iff]
  simp only [decide_eq_true_eq]
  split <;> (try split at *) <;> (try split) <;> (try split at *) <;> omega
theorem swoC : SWO (ltOf cmC) where
  irrefl x := by rw [ltOf_cm]; simp [ltC]
  trans x y z h1 h2 := by rw [ltOf_cm] at *; simp only [ltC, decide_eq_true_eq] at *; omega
  ntrans x y z h1 h2 := by rw [ltOf_cm] at *; simp only [ltC, decide_eq_false_iff_not] at *; omega
theorem totC (x y : Int × Int) (h1 : ltOf cmC x y = false) (h2 : ltOf cmC y x = false) : x = y := by
  rw [ltOf_cm] at h1 h2
  simp only [ltC, decide_eq_false_iff_not] at h1 h2
  apply Prod.ext <;> omega
/-- Calls in their order. -/
def srt (l : List (Int × Int)) : List (Int × Int) := l.mergeSort fun x y => !ltOf cmC y x
theorem srt_length (l : List (Int × Int)) : (srt l).length = l.length := by unfold srt; exact List.length_mergeSort l

theorem cs_get (l : List (Int × Int)) (t : Nat) (h : t < l.length * 2) : (cs l)[t]? = some ((encC l.toArray[t / 2]!)[t % 2]!) := by
  have hl : t / 2 < l.length := by omega
  have e : l.toArray[t / 2]! = (ca l (t / 2), cb l (t / 2)) := by
    rw [getElem!_pos l.toArray (t / 2) (by simpa using hl)]
    simpa using ca_cb l (t / 2) hl
  rw [e]
  rcases Nat.mod_two_eq_zero_or_one t with h0 | h0
  · rw [h0]
    have h1 : t = t / 2 * 2 := by omega
    have h2 := cs_even l (t / 2) hl
    rw [← h1] at h2
    rw [h2]; rfl
  · rw [h0]
    have h1 : t = t / 2 * 2 + 1 := by omega
    have h2 := cs_odd l (t / 2) hl
    rw [← h1] at h2
    rw [h2]; rfl
theorem flat_cs (l : List (Int × Int)) : (flatK encC 2 l.toArray).toList = cs l := by
  apply List.ext_getElem?
  intro t
  by_cases h : t < l.length * 2
  · rw [cs_get l t h]
    have h2 := get_flatK encC 2 l.toArray t (by simpa using h)
    rw [getElem!_pos _ t (by simpa using h)] at h2
    rw [Array.getElem?_toList, Array.getElem?_eq_getElem (by simpa using h), h2]
  · rw [List.getElem?_eq_none (by simp; omega), List.getElem?_eq_none (by rw [cs_length]; omega)]
theorem flat_get (l : List (Int × Int)) (j : Nat) (h : j < l.length * 2) : (cs l)[j]? = some ((flatK encC 2 l.toArray)[j]!) := by
  rw [cs_get l j h, get_flatK encC 2 l.toArray j (by simpa using h)]

theorem sort_own {w : World} {base g cap n m : Nat} {e : TypeId} {os : Array Obj} {l t : List (Int × Int)} (h : w.ownsRow base e 2 (.slice (some ⟨g, 0, none⟩) n cap) n (cs l)) (ht : t.length = n) :
    (Sort.grow (putRowK encC 2 (Sort.ahead w m) g 0 t.toArray) os).ownsRow base e 2 (.slice (some ⟨g, 0, none⟩) n cap) n (cs t) ∧ w.grownBy (Sort.grow (putRowK encC 2 (Sort.ahead w m) g 0 t.toArray) os) (some g) := by
  rcases h.2 with ⟨hv, _⟩ | ⟨g', cap', cur, hv, hb, hg, h1, h2, h3, h4⟩
  · cases hv
  · cases hv
    have hgl : g < w.heap.size := (Array.getElem?_eq_some_iff.1 hg).1
    have hheap : (Sort.grow (putRowK encC 2 (Sort.ahead w m) g 0 t.toArray) os).heap[g]? = some (.cells (putCells id 0 (flatK encC 2 t.toArray) cur) e (0, 0)) := by
      rw [Sort.heap_grow_old _ _ (by simpa [putRowK] using hgl)]
      simp [putRowK, putRow, Sort.mapBlock, Sort.ahead, Array.getElem?_modify, hg, Sort.onCells]
    refine ⟨⟨by rw [cs_length, ht], .inr ⟨g, cap, _, rfl, hb, hheap, h1, h2, by simp [putCells, h3], ?_⟩⟩, ?_⟩
    · apply List.ext_getElem?
      intro j
      by_cases hj : j < n * 2
      · rw [List.getElem?_take_of_lt hj, Array.getElem?_toList, flat_get t j (by rw [ht]; exact hj)]
        simp [putCells, hj, ht, show j < cur.size by omega]
      · rw [List.getElem?_take_eq_none (by omega), List.getElem?_eq_none (by rw [cs_length, ht]; omega)]
    · refine ⟨rfl, rfl, rfl, by simp [putRowK], fun k hk hne => ?_⟩
      rw [Sort.heap_grow_old _ _ (by simpa [putRowK] using hk)]
      have : g ≠ k := fun e => hne (by rw [e])
      simp [putRowK, putRow, Sort.mapBlock, Sort.ahead, Array.getElem?_modify, this]

theorem sort_any (base : Nat) (v : Value) (l : List (Int × Int)) (n : Nat) (w : World) (hn : n = l.length) (hl : n ≤ 1000000) (h : w.ownsRow base 46 2 v n (cs l)) :
    Calls Try.prog 35 #[v, .func (.func 36) #[] #[]] w fun e w' => e = .returned (.tuple #[]) ∧ w'.ownsRow base 46 2 v n (cs (srt l)) ∧ w.grownBy w' v.ownBlock := by
  have h2 := h.2
  rcases h2 with ⟨rfl, h0⟩ | ⟨g, cap, cur, rfl, hb, hg, _⟩
  · subst h0
    have hl0 : l = [] := List.eq_nil_of_length_eq_zero hn.symm
    subst hl0
    refine (AnyF.slices_SortFunc_none sortC none 0 (.func (.func 36) #[] #[]) w).mono ?_
    rintro e w' ⟨he, hw⟩
    subst hw
    refine ⟨he, ?_, ⟨rfl, rfl, rfl, Nat.le_refl _, fun _ _ _ => rfl⟩⟩
    have : srt [] = [] := List.eq_nil_of_length_eq_zero (by rw [srt_length]; rfl)
    rw [this]; exact h
  · have eg : ∀ args w, (callFunc 36 args).run Try.prog w = .ok (.enter 36 args) w := enters_of Try.func36 (by kernel_rfl) rfl
    have hH : HoldsK encC 2 w g 0 l.toArray := by
      intro j hj
      have hj2 : j < l.length * 2 := by simpa using hj
      refine ⟨?_, by rw [Nat.zero_add]; exact h.frozenAt j⟩
      have := h.cellAt j (by rw [hn]; exact hj2)
      rw [flat_get l j hj2] at this
      rw [Nat.zero_add]; exact this
    have hcon := AnyQ.slices_SortFunc_total sortC 2 Try.isAgg46 Try.sizeOf46 encC (fun _ => rfl) (fun x v hv => by simp [encC] at hv; rcases hv with rfl | rfl <;> rfl) cmC swoC 36 #[] g 0 cap l.toArray w eg (fun m os dk _ x y => compareCalls_grown x.1 x.2 y.1 y.2 _) hH (Array.getElem?_eq_some_iff.1 hg).1 (by simp; omega) totC
    have e1 : l.toArray.size = n := by simp [hn]
    rw [e1] at hcon
    refine Calls.mono (P := Try.prog) (f := 35) hcon ?_
    rintro e w' ⟨he, m, os, hw⟩
    have hso := sort_own (m := m) (os := os) (t := srt l) h (by rw [srt_length, hn])
    subst hw
    exact ⟨he, hso⟩

/-- Where a call is put. -/
def posL (l : List (Int × Int)) (c : Int × Int) : Nat → Nat
  | 0 => 0
  | k + 1 => if ltC c.1 c.2 (ca l k) (cb l k) then posL l c k else k + 1
def putL (l : List (Int × Int)) (c : Int × Int) : List (Int × Int) := l.take (posL l c l.length) ++ c :: l.drop (posL l c l.length)
theorem posL_le (l : List (Int × Int)) (c : Int × Int) : ∀ k, posL l c k ≤ k
  | 0 => Nat.le_refl _
  | k + 1 => by have := posL_le l c k; unfold posL; split <;> omega
theorem posL_over (l : List (Int × Int)) (c : Int × Int) : ∀ k i, posL l c k ≤ i → i < k → ltC c.1 c.2 (ca l i) (cb l i) = true
  | 0, i, _, h => absurd h (Nat.not_lt_zero i)
  | k + 1, i, h1, h2 => by
    unfold posL at h1
    split at h1
    · rename_i h
      by_cases hik : i = k
      · subst hik; exact h
      · exact posL_over l c k i h1 (by omega)
    · omega
theorem posL_at (l : List (Int × Int)) (c : Int × Int) : ∀ k, posL l c k = 0 ∨ ltC c.1 c.2 (ca l (posL l c k - 1)) (cb l (posL l c k - 1)) = false
  | 0 => .inl rfl
  | k + 1 => by
    unfold posL
    split
    · exact posL_at l c k
    · rename_i h
      right
      simpa using h
theorem putL_length (l : List (Int × Int)) (c : Int × Int) : (putL l c).length = l.length + 1 := by
  have := posL_le l c l.length
  simp [putL]; omega
theorem putL_perm (l : List (Int × Int)) (c : Int × Int) : (putL l c).Perm (l ++ [c]) := by
  unfold putL
  refine List.perm_middle.trans ?_
  rw [List.take_append_drop]
  exact (List.perm_append_singleton c l).symm
def leC (x y : Int × Int) : Prop := (!ltOf cmC y x) = true
theorem leC_iff (x y : Int × Int) : leC x y ↔ ¬ (y.1 < x.1 ∨ y.1 = x.1 ∧ y.2 < x.2) := by
  unfold leC; rw [ltOf_cm, ltC]; simp only [Bool.not_eq_true', decide_eq_false_iff_not]
theorem putL_sorted {l : List (Int × Int)} (h : l.Pairwise leC) (c : Int × Int) : (putL l c).Pairwise leC := by
  have hp := posL_le l c l.length
  have get : ∀ i, (hi : i < l.length) → l[i] = (ca l i, cb l i) := fun i hi => ca_cb l i hi
  have low : ∀ x ∈ l.take (posL l c l.length), leC x c := by
    intro x hx
    obtain ⟨i, hi, rfl⟩ := List.getElem_of_mem hx
    have hi2 : i < posL l c l.length ∧ i < l.length := by simp at hi; omega
    rw [List.getElem_take]
    have hat := posL_at l c l.length
    rcases hat with h0 | h0
    · omega
    have hk1 : posL l c l.length - 1 < l.length := by omega
    have hle : leC l[i] (l[posL l c l.length - 1]) := by
      by_cases hik : i = posL l c l.length - 1
      · subst hik
        rw [leC_iff]; omega
      · exact List.pairwise_iff_getElem.1 h i _ hi2.2 hk1 (by omega)
    rw [get _ hk1] at hle
    rw [leC_iff] at hle ⊢
    simp only [ltC, decide_eq_false_iff_not] at h0
    simp only at hle
    omega
  have high : ∀ x ∈ l.drop (posL l c l.length), leC c x := by
    intro x hx
    obtain ⟨i, hi, rfl⟩ := List.getElem_of_mem hx
    simp at hi
    rw [List.getElem_drop, get _ (by omega)]
    have := posL_over l c l.length (posL l c l.length + i) (by omega) (by omega)
    rw [leC_iff]
    simp only [ltC, decide_eq_true_eq] at this
    simp only
    omega
  unfold putL
  rw [List.pairwise_append]
  refine ⟨h.sublist (List.take_sublist _ _), List.pairwise_cons.2 ⟨high, h.sublist (List.drop_sublist _ _)⟩, ?_⟩
  intro x hx y hy
  rcases List.mem_cons.1 hy with rfl | hy
  · exact low x hx
  · have a := low x hx
    have b := high y hy
    rw [leC_iff] at *
    omega
theorem srt_sorted (l : List (Int × Int)) : (srt l).Pairwise leC := by
  unfold srt leC
  refine List.pairwise_mergeSort (le := fun x y => !ltOf cmC y x) ?_ ?_ l
  · intro a b c h1 h2
    simp only [Bool.not_eq_true'] at *
    exact swoC.ntrans c b a h2 h1
  · intro a b
    rw [ltOf_cm, ltOf_cm, ltC, ltC]
    simp only [Bool.or_eq_true, Bool.not_eq_true', decide_eq_false_iff_not]
    omega
theorem srt_put (l : List (Int × Int)) (c : Int × Int) : putL (srt l) c = srt (l ++ [c]) := by
  refine List.Perm.eq_of_pairwise (le := leC) ?_ (putL_sorted (srt_sorted l) c) (srt_sorted _) ?_
  · intro a b _ _ h1 h2
    rw [leC_iff] at h1 h2
    apply Prod.ext <;> omega
  · refine (putL_perm _ _).trans ?_
    refine (List.Perm.append_right [c] (List.mergeSort_perm l _)).trans ?_
    exact (List.mergeSort_perm (l ++ [c]) _).symm
theorem srt_nil : srt [] = [] := List.eq_nil_of_length_eq_zero (by rw [srt_length]; rfl)

end Go.Proofs.Ytnngdoiempmkkaa
