/- Sizes, the greatest first: the library and what is put into its place. -/
import Derived.Test.YtcedacneagpjcaaSortL
import Derived.Test.YtcedacneagpjcaaFb
import Derived.Sort.OwnSortedInts
namespace Go.Proofs.Ytcedacneagpjcaa
open Go.Shelf Go.Lib Go.Sort Go.ChangeShapes Go.WideShapes Go.ChangeAt Go.RowKit
set_option linter.unusedVariables false



/-- The greater one first. -/
def cfD (x y : Int) : Int := cmI y x
theorem ltD (x y : Int) : ltOf cfD x y = decide (y < x) := by
  unfold ltOf cfD cmI
  rw [Bool.eq_iff_iff]
  simp only [decide_eq_true_eq]
  split <;> (try split) <;> omega
theorem swoD : SWO (ltOf cfD) where
  irrefl x := by rw [ltD]; simp
  trans x y z h1 h2 := by rw [ltD] at *; simp only [decide_eq_true_eq] at *; omega
  ntrans x y z h1 h2 := by rw [ltD] at *; simp only [decide_eq_false_iff_not] at *; omega
theorem totD (x y : Int) (h1 : ltOf cfD x y = false) (h2 : ltOf cfD y x = false) : x = y := by
  rw [ltD] at h1 h2
  simp only [decide_eq_false_iff_not] at h1 h2
  omega
/-- The greatest first. -/
def srtD (l : List Int) : List Int := l.mergeSort fun x y => !ltOf cfD y x
theorem srtD_length (l : List Int) : (srtD l).length = l.length := by unfold srtD; exact List.length_mergeSort l
theorem srtD_nil : srtD [] = [] := List.eq_nil_of_length_eq_zero (by rw [srtD_length]; rfl)

theorem closureD (x y : Int) (W : World) : Calls Try.prog 67 #[.int .i64 x, .int .i64 y] W fun e w' => e = .returned (.int .i64 (cfD x y)) ∧ ∃ q, w' = W.drewN q :=
  (greater_any x y W).mono (by rintro e w' ⟨he, rfl⟩; exact ⟨he, 0, rfl⟩)

theorem cmpReadsD (blk off size : Nat) (w : World) : CmpReads Try.prog 67 #[] (Value.int .i64) cfD blk off size w := fun _ _ _ _ x y => closureD x y _

theorem sort_any (base : Nat) (v : Value) (l : List Int) (n : Nat) (w : World) (hn : n = l.length) (hl : n ≤ 1000000) (h : w.ownsRow base 3 1 v n (ns l)) :
    Calls Try.prog 66 #[v, .func (.func 67) #[] #[]] w fun e w' => e = .returned (.tuple #[]) ∧ w'.ownsRow base 3 1 v n (ns (srtD l)) ∧ w.grownBy w' v.ownBlock := by
  have h2 := h.2
  rcases h2 with ⟨rfl, h0⟩ | ⟨g, cap, cur, rfl, hb, hg, h1, hm, hs, ht⟩
  · subst h0
    have hl0 : l = [] := List.eq_nil_of_length_eq_zero hn.symm
    subst hl0
    refine (AnyF.slices_SortFunc_none (P := Try.prog) (ρ := sortI_ren) { sortI with } none 0 (.func (.func 67) #[] #[]) w).mono ?_
    rintro e w' ⟨he, hw⟩
    subst hw
    refine ⟨he, ?_, ⟨rfl, rfl, rfl, Nat.le_refl _, fun _ _ _ => rfl⟩⟩
    rw [srtD_nil]; exact h
  · have eg : ∀ args w, (callFunc 67 args).run Try.prog w = .ok (.enter 67 args) w := enters_of Try.func67 (by kernel_rfl) rfl
    have hgl : g < w.heap.size := (Array.getElem?_eq_some_iff.1 hg).1
    have hns : ns l = l.map (Value.int .i64) := rfl
    have hH : Holds (Value.int .i64) w g 0 l.toArray := holds_of_blockI hg (by rw [← hn, ← hns, ← ht, Nat.mul_one])
    have hcon := Any.slices_SortFunc_total sortI (Value.int .i64) (fun _ => rfl) cfD swoD 67 #[] g 0 cap l.toArray w eg (cmpReadsD g 0 l.toArray.size w).lays hH hgl (by simp; omega) totD
    have e1 : l.toArray.size = n := by simp [hn]
    rw [e1] at hcon
    refine Calls.mono (P := Try.prog) (f := 66) hcon ?_
    rintro e w' ⟨he, m, os, hw⟩
    subst hw
    refine ⟨he, ?_, grownBy_sortedI _⟩
    have hso := ownsRow_sortedI (n := m) (os := os) (ss := l) (ts := srtD l) (base := base) (srtD_length l) hb hg (by omega) hm hs
    rw [← hn] at hso
    exact hso

/-- Where a number is put. -/
def posD (l : List Int) (c : Int) : Nat → Nat
  | 0 => 0
  | k + 1 => if na l k < c then posD l c k else k + 1
def putD (l : List Int) (c : Int) : List Int := l.take (posD l c l.length) ++ c :: l.drop (posD l c l.length)
theorem posD_le (l : List Int) (c : Int) : ∀ k, posD l c k ≤ k
  | 0 => Nat.le_refl _
  | k + 1 => by have := posD_le l c k; unfold posD; split <;> omega
theorem posD_over (l : List Int) (c : Int) : ∀ k i, posD l c k ≤ i → i < k → na l i < c
  | 0, i, _, h => absurd h (Nat.not_lt_zero i)
  | k + 1, i, h1, h2 => by
    unfold posD at h1
    split at h1
    · rename_i h
      by_cases hik : i = k
      · subst hik; exact h
      · exact posD_over l c k i h1 (by omega)
    · omega
theorem posD_at (l : List Int) (c : Int) : ∀ k, posD l c k = 0 ∨ ¬ na l (posD l c k - 1) < c
  | 0 => .inl rfl
  | k + 1 => by
    unfold posD
    split
    · exact posD_at l c k
    · rename_i h
      right
      simpa using h
theorem putD_length (l : List Int) (c : Int) : (putD l c).length = l.length + 1 := by
  have := posD_le l c l.length
  simp [putD]; omega
theorem putD_perm (l : List Int) (c : Int) : (putD l c).Perm (l ++ [c]) := by
  unfold putD
  refine List.perm_middle.trans ?_
  rw [List.take_append_drop]
  exact (List.perm_append_singleton c l).symm
def leD (x y : Int) : Prop := (!ltOf cfD y x) = true
theorem leD_iff (x y : Int) : leD x y ↔ y ≤ x := by
  unfold leD; rw [ltD]; simp only [Bool.not_eq_true', decide_eq_false_iff_not]; omega
theorem na_getI (l : List Int) (i : Nat) (hi : i < l.length) : l[i] = na l i := by simp [na, List.getD_eq_getElem?_getD, hi]
theorem putD_sorted {l : List Int} (h : l.Pairwise leD) (c : Int) : (putD l c).Pairwise leD := by
  have hp := posD_le l c l.length
  have low : ∀ x ∈ l.take (posD l c l.length), leD x c := by
    intro x hx
    obtain ⟨i, hi, rfl⟩ := List.getElem_of_mem hx
    have hi2 : i < posD l c l.length ∧ i < l.length := by simp at hi; omega
    rw [List.getElem_take]
    have hat := posD_at l c l.length
    rcases hat with h0 | h0
    · omega
    have hk1 : posD l c l.length - 1 < l.length := by omega
    have hle : leD l[i] (l[posD l c l.length - 1]) := by
      by_cases hik : i = posD l c l.length - 1
      · subst hik
        rw [leD_iff]; exact Int.le_refl _
      · exact List.pairwise_iff_getElem.1 h i _ hi2.2 hk1 (by omega)
    rw [na_getI _ _ hk1] at hle
    rw [leD_iff] at hle ⊢
    omega
  have high : ∀ x ∈ l.drop (posD l c l.length), leD c x := by
    intro x hx
    obtain ⟨i, hi, rfl⟩ := List.getElem_of_mem hx
    simp at hi
    rw [List.getElem_drop, na_getI _ _ (by omega)]
    have := posD_over l c l.length (posD l c l.length + i) (by omega) (by omega)
    rw [leD_iff]
    omega
  unfold putD
  rw [List.pairwise_append]
  refine ⟨h.sublist (List.take_sublist _ _), List.pairwise_cons.2 ⟨high, h.sublist (List.drop_sublist _ _)⟩, ?_⟩
  intro x hx y hy
  rcases List.mem_cons.1 hy with rfl | hy
  · exact low x hx
  · have a := low x hx
    have b := high y hy
    rw [leD_iff] at *
    omega
theorem srtD_sorted (l : List Int) : (srtD l).Pairwise leD := by
  unfold srtD leD
  refine List.pairwise_mergeSort (le := fun x y => !ltOf cfD y x) ?_ ?_ l
  · intro a b c h1 h2
    simp only [Bool.not_eq_true'] at *
    exact swoD.ntrans c b a h2 h1
  · intro a b
    rw [ltD, ltD]
    simp only [Bool.or_eq_true, Bool.not_eq_true', decide_eq_false_iff_not]
    omega
theorem srtD_put (l : List Int) (c : Int) : putD (srtD l) c = srtD (l ++ [c]) := by
  refine List.Perm.eq_of_pairwise (le := leD) ?_ (putD_sorted (srtD_sorted l) c) (srtD_sorted _) ?_
  · intro a b _ _ h1 h2
    rw [leD_iff] at h1 h2
    omega
  · refine (putD_perm _ _).trans ?_
    refine (List.Perm.append_right [c] (List.mergeSort_perm l _)).trans ?_
    exact (List.mergeSort_perm (l ++ [c]) _).symm

/-- The sizes of the first k groups. -/
def szL (L : List (List Int)) (k : Nat) : List Int := (L.take k).map fun r => (r.length : Int)
theorem szL_zero (L : List (List Int)) : szL L 0 = [] := rfl
theorem szL_length (L : List (List Int)) (k : Nat) (h : k ≤ L.length) : (szL L k).length = k := by simp [szL]; omega
theorem szL_succ (L : List (List Int)) (k : Nat) (h : k < L.length) : szL L (k + 1) = szL L k ++ [((row L k).length : Int)] := by
  unfold szL
  rw [List.take_succ_eq_append_getElem h, List.map_append, row_get h]; rfl
/-- The sizes of the groups, the greatest ones first. -/
def szS (L : List (List Int)) : List Int := srtD (szL L L.length)
theorem sz_next (L : List (List Int)) (k : Nat) (h : k < L.length) (j : Nat) (hj : posD (srtD (szL L k)) ((row L k).length : Int) k = j) :
    ((srtD (szL L k)).take j ++ [((row L k).length : Int)]) ++ (srtD (szL L k)).drop j = srtD (szL L (k + 1)) := by
  have hl : (srtD (szL L k)).length = k := by rw [srtD_length, szL_length L k (by omega)]
  rw [szL_succ L k h, ← srtD_put]
  unfold putD
  rw [hl, hj, List.append_assoc]; rfl

def szR (l : List Int) : List Int := if grB l then szS (gl l l.length) else []

theorem nx_pos {l : List Int} (h : grB l = true) : ∀ k, 1 ≤ k → k ≤ l.length → 1 ≤ nx l k
  | 0, h1, _ => by omega
  | 1, _, h2 => by
    have h3 := grB_at h (i := 0) (by omega)
    have h4 : nx l 0 = 0 := rfl
    have h5 : na l 0 = nx l 0 := by omega
    rw [nx]
    split <;> omega
  | k + 2, _, h2 => by
    have h3 := nx_pos h (k + 1) (by omega) (by omega)
    rw [nx]
    split <;> omega

theorem gl_some {l : List Int} (h : grB l = true) : 0 < (gl l l.length).length ∧ (gl l l.length).length ≤ 12 := by
  have h1 := gl_length l l.length (grB_to h (Nat.le_refl _))
  have h2 := grB_len h
  have h3 := nx_pos h l.length (by omega) (Nat.le_refl _)
  have h4 := nx_le l l.length
  omega

theorem szR_len (l : List Int) : (szR l).length ≤ 1000 := by
  unfold szR
  split
  · rename_i h
    have := gl_some h
    unfold szS
    rw [srtD_length, szL_length _ _ (Nat.le_refl _)]; omega
  · simp

theorem own_capS {w : World} {base g n cap : Nat} {xs : List Value} (h : w.ownsRow base 3 1 (.slice (some ⟨g, 0, none⟩) n cap) n xs) : n ≤ cap := by
  rcases h.2 with ⟨hv, _⟩ | ⟨g', cap', cur, hv, _, _, h1, _⟩
  · cases hv
  · cases hv; exact h1

theorem own_newsT {w : World} {base g q cap : Nat} {L : List Int} (h : w.ownsRow base 3 1 (.slice (some ⟨g, 0, none⟩) q cap) q (ns L)) (hq : q = L.length) (j : Nat) : ∀ i u, (ns (L.take j))[i]? = some u → w.cell? ((⟨g, 0, none⟩ : Addr).add i) = some u := by
  intro i u hu
  unfold ns at hu
  rw [List.map_take, List.getElem?_take] at hu
  split at hu
  · exact own_news h hq i u hu
  · cases hu

theorem own_newsD {w : World} {base g q cap : Nat} {L : List Int} (h : w.ownsRow base 3 1 (.slice (some ⟨g, 0, none⟩) q cap) q (ns L)) (hq : q = L.length) (j : Nat) (hj : j ≤ q) :
    ∃ off2, (if cap = j then (some ⟨g, 0, none⟩ : Option Addr) else some ⟨g, j, none⟩) = some ⟨g, off2, none⟩ ∧ ∀ i u, (ns (L.drop j))[i]? = some u → w.cell? ((⟨g, off2, none⟩ : Addr).add i) = some u := by
  by_cases hc : cap = j
  · have hcap := own_capS h
    have hd : L.drop j = [] := List.drop_eq_nil_of_le (by omega)
    refine ⟨0, by rw [if_pos hc], fun i u hu => ?_⟩
    rw [hd] at hu
    simp [ns] at hu
  · refine ⟨j, by rw [if_neg hc], fun i u hu => ?_⟩
    unfold ns at hu
    rw [List.map_drop, List.getElem?_drop] at hu
    have h1 := own_news h hq (j + i) u hu
    rw [show (⟨g, 0, none⟩ : Addr).add (j + i) = ⟨g, j + i, none⟩ by unfold Addr.add; split <;> simp_all] at h1
    rw [show (⟨g, j, none⟩ : Addr).add i = ⟨g, j + i, none⟩ by unfold Addr.add; split <;> simp_all]
    exact h1

end Go.Proofs.Ytcedacneagpjcaa
