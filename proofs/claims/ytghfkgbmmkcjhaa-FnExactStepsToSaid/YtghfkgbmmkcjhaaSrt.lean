/- Sends in their order: the pure part; the library sorts. -/
import Derived.Test.YtghfkgbmmkcjhaaSortL
import Derived.Test.YtghfkgbmmkcjhaaCmpS
import Derived.Test.YtghfkgbmmkcjhaaSndH
import Derived.Sort.OwnSortedInts
namespace Go.Proofs.Ytghfkgbmmkcjhaa
open Go.ChangeShapes Go.WideShapes Go.ChangeAt Go.RowKit Go.Shelf Go.Lib Go.Sort
set_option linter.unusedVariables false


/-- One send before another one. -/
def ltS (x y : Snd) : Bool := decide (x.at < y.at ∨ x.at = y.at ∧ x.fr < y.fr)
theorem ltOf_cmS (x y : Snd) : ltOf cmS x y = ltS x y := by
  unfold ltOf ltS cmS cmI
  rw [Bool.eq_iff_iff]
  simp only [decide_eq_true_eq]
  split <;> (try split at *) <;> (try split) <;> (try split at *) <;> omega
theorem swoS : SWO (ltOf cmS) where
  irrefl x := by rw [ltOf_cmS]; simp [ltS]
  trans x y z h1 h2 := by rw [ltOf_cmS] at *; simp only [ltS, decide_eq_true_eq] at *; omega
  ntrans x y z h1 h2 := by rw [ltOf_cmS] at *; simp only [ltS, decide_eq_false_iff_not] at *; omega
def leS (x y : Snd) : Prop := ltS y x = false
theorem leS_iff (x y : Snd) : leS x y ↔ ¬ (y.at < x.at ∨ y.at = x.at ∧ y.fr < x.fr) := by unfold leS ltS; simp only [decide_eq_false_iff_not]
/-- Where a send is put. -/
def posS (l : List Snd) (c : Snd) : Nat → Nat
  | 0 => 0
  | k + 1 => if ltS c (lsn l k) then posS l c k else k + 1
def putS (l : List Snd) (c : Snd) : List Snd := l.take (posS l c l.length) ++ c :: l.drop (posS l c l.length)
theorem posS_le (l : List Snd) (c : Snd) : ∀ k, posS l c k ≤ k
  | 0 => Nat.le_refl _
  | k + 1 => by have := posS_le l c k; unfold posS; split <;> omega
theorem posS_over (l : List Snd) (c : Snd) : ∀ k i, posS l c k ≤ i → i < k → ltS c (lsn l i) = true
  | 0, i, _, h => absurd h (Nat.not_lt_zero i)
  | k + 1, i, h1, h2 => by
    unfold posS at h1
    split at h1
    · rename_i h
      by_cases hik : i = k
      · subst hik; exact h
      · exact posS_over l c k i h1 (by omega)
    · omega
theorem posS_at (l : List Snd) (c : Snd) : ∀ k, posS l c k = 0 ∨ ltS c (lsn l (posS l c k - 1)) = false
  | 0 => .inl rfl
  | k + 1 => by
    unfold posS
    split
    · exact posS_at l c k
    · rename_i h
      right
      simpa using h
theorem putS_length (l : List Snd) (c : Snd) : (putS l c).length = l.length + 1 := by
  have := posS_le l c l.length
  simp [putS]; omega
theorem putS_perm (l : List Snd) (c : Snd) : (putS l c).Perm (l ++ [c]) := by
  unfold putS
  refine List.perm_middle.trans ?_
  rw [List.take_append_drop]
  exact (List.perm_append_singleton c l).symm
theorem putS_sorted {l : List Snd} (h : l.Pairwise leS) (c : Snd) : (putS l c).Pairwise leS := by
  have hp := posS_le l c l.length
  have low : ∀ x ∈ l.take (posS l c l.length), leS x c := by
    intro x hx
    obtain ⟨i, hi, rfl⟩ := List.getElem_of_mem hx
    have hi2 : i < posS l c l.length ∧ i < l.length := by simp at hi; omega
    rw [List.getElem_take]
    have hat := posS_at l c l.length
    rcases hat with h0 | h0
    · omega
    have hk1 : posS l c l.length - 1 < l.length := by omega
    have hle : leS l[i] (l[posS l c l.length - 1]) := by
      by_cases hik : i = posS l c l.length - 1
      · subst hik
        rw [leS_iff]; omega
      · exact List.pairwise_iff_getElem.1 h i _ hi2.2 hk1 (by omega)
    rw [lsn_get _ _ hk1] at hle
    rw [leS_iff] at hle ⊢
    simp only [ltS, decide_eq_false_iff_not] at h0
    omega
  have high : ∀ x ∈ l.drop (posS l c l.length), leS c x := by
    intro x hx
    obtain ⟨i, hi, rfl⟩ := List.getElem_of_mem hx
    simp at hi
    rw [List.getElem_drop, lsn_get _ _ (by omega)]
    have := posS_over l c l.length (posS l c l.length + i) (by omega) (by omega)
    rw [leS_iff]
    simp only [ltS, decide_eq_true_eq] at this
    omega
  unfold putS
  rw [List.pairwise_append]
  refine ⟨h.sublist (List.take_sublist _ _), List.pairwise_cons.2 ⟨high, h.sublist (List.drop_sublist _ _)⟩, ?_⟩
  intro x hx y hy
  rcases List.mem_cons.1 hy with rfl | hy
  · exact low x hx
  · have a := low x hx
    have b := high y hy
    rw [leS_iff] at *
    omega
/-- Sends in their order: each is put into its place. -/
def ordK (l : List Snd) : Nat → List Snd | 0 => [] | k + 1 => putS (ordK l k) (lsn l k)
def ordS (l : List Snd) : List Snd := ordK l l.length
theorem ordK_length (l : List Snd) : ∀ k, (ordK l k).length = k
  | 0 => rfl
  | k + 1 => by simp only [ordK]; rw [putS_length, ordK_length l k]
theorem ordS_length (l : List Snd) : (ordS l).length = l.length := ordK_length l _
theorem ordK_sorted (l : List Snd) : ∀ k, (ordK l k).Pairwise leS
  | 0 => List.Pairwise.nil
  | k + 1 => putS_sorted (ordK_sorted l k) _
theorem ordK_perm (l : List Snd) : ∀ k, k ≤ l.length → (l.take k).Perm (ordK l k)
  | 0, _ => by simp [ordK]
  | k + 1, h => by
    have ih := ordK_perm l k (by omega)
    rw [List.take_succ_eq_append_getElem (by omega), lsn_get l k (by omega)]
    exact (List.Perm.append_right [lsn l k] ih).trans (putS_perm _ _).symm
theorem ordS_perm (l : List Snd) : l.Perm (ordS l) := by
  have := ordK_perm l l.length (Nat.le_refl _)
  rw [List.take_length] at this
  exact this
theorem ordS_sorted (l : List Snd) : (ordS l).Pairwise leS := ordK_sorted l _
theorem ordS_at (l : List Snd) : (ordS l).Pairwise fun a b => a.at ≤ b.at := (ordS_sorted l).imp fun h => by rw [leS_iff] at h; omega
theorem ordS_unique {P : Int} {l m : List Snd} (hv : ok1B P l = true) (hp : l.Perm m) (hs : m.Pairwise leS) : m = ordS l := by
  refine List.Perm.eq_of_pairwise (le := leS) ?_ hs (ordS_sorted l) (hp.symm.trans (ordS_perm l))
  intro a b ha hb h1 h2
  rw [leS_iff] at h1 h2
  exact ok1_key hv (hp.mem_iff.2 ha) ((ordS_perm l).mem_iff.2 hb) (by omega) (by omega)

def encS (x : Snd) : List Value := [.int .i64 x.1, .int .i64 x.2.1, .int .i64 x.2.2]
theorem ss_get3 (l : List Snd) (t : Nat) (h : t < l.length * 3) : (ss l)[t]? = some ((encS l.toArray[t / 3]!)[t % 3]!) := by
  have hl : t / 3 < l.length := by omega
  have e : l.toArray[t / 3]! = (sf l (t / 3), st l (t / 3), sm l (t / 3)) := by
    rw [getElem!_pos l.toArray (t / 3) (by simpa using hl)]
    simpa using s_get l (t / 3) hl
  rw [e]
  have h3 : t % 3 = 0 ∨ t % 3 = 1 ∨ t % 3 = 2 := by omega
  rcases h3 with h0 | h0 | h0
  · rw [h0]
    have h2 := ss_0 l (t / 3) hl
    rw [show t / 3 * 3 = t by omega] at h2
    rw [h2]; rfl
  · rw [h0]
    have h2 := ss_1 l (t / 3) hl
    rw [show t / 3 * 3 + 1 = t by omega] at h2
    rw [h2]; rfl
  · rw [h0]
    have h2 := ss_2 l (t / 3) hl
    rw [show t / 3 * 3 + 2 = t by omega] at h2
    rw [h2]; rfl
theorem flat_getS (l : List Snd) (j : Nat) (h : j < l.length * 3) : (ss l)[j]? = some ((flatK encS 3 l.toArray)[j]!) := by
  rw [ss_get3 l j h, get_flatK encS 3 l.toArray j (by simpa using h)]
theorem sort_ownS {w : World} {base g cap n m : Nat} {e : TypeId} {os : Array Obj} {l : List Snd} {t : Array Snd} (h : w.ownsRow base e 3 (.slice (some ⟨g, 0, none⟩) n cap) n (ss l)) (ht : t.size = n) :
    (Sort.grow (putRowK encS 3 (Sort.ahead w m) g 0 t) os).ownsRow base e 3 (.slice (some ⟨g, 0, none⟩) n cap) n (ss t.toList) ∧ w.grownBy (Sort.grow (putRowK encS 3 (Sort.ahead w m) g 0 t) os) (some g) := by
  have htl : t.toList.length = n := by simpa using ht
  rcases h.2 with ⟨hv, _⟩ | ⟨g', cap', cur, hv, hb, hg, h1, h2, h3, h4⟩
  · cases hv
  · cases hv
    have hgl : g < w.heap.size := (Array.getElem?_eq_some_iff.1 hg).1
    have hheap : (Sort.grow (putRowK encS 3 (Sort.ahead w m) g 0 t) os).heap[g]? = some (.cells (putCells id 0 (flatK encS 3 t) cur) e (0, 0)) := by
      rw [Sort.heap_grow_old _ _ (by simpa [putRowK] using hgl)]
      simp [putRowK, putRow, Sort.mapBlock, Sort.ahead, Array.getElem?_modify, hg, Sort.onCells]
    refine ⟨⟨by rw [ss_length, htl], .inr ⟨g, cap, _, rfl, hb, hheap, h1, h2, by simp [putCells, h3], ?_⟩⟩, ?_⟩
    · apply List.ext_getElem?
      intro j
      by_cases hj : j < n * 3
      · have hf := flat_getS t.toList j (by rw [htl]; exact hj)
        rw [show t.toList.toArray = t from by simp] at hf
        rw [List.getElem?_take_of_lt hj, Array.getElem?_toList, hf]
        simp [putCells, hj, ht, show j < cur.size by omega]
      · rw [List.getElem?_take_eq_none (by omega), List.getElem?_eq_none (by rw [ss_length, htl]; omega)]
    · refine ⟨rfl, rfl, rfl, by simp [putRowK], fun k hk hne => ?_⟩
      rw [Sort.heap_grow_old _ _ (by simpa [putRowK] using hk)]
      have : g ≠ k := fun e => hne (by rw [e])
      simp [putRowK, putRow, Sort.mapBlock, Sort.ahead, Array.getElem?_modify, this]

theorem sort_any (base : Nat) (v : Value) (l : List Snd) (n : Nat) (P : Int) (w : World) (hv : ok1B P l = true) (hn : n = l.length) (hl : n ≤ 1000000) (h : w.ownsRow base 52 3 v n (ss l)) :
    Calls Try.prog 82 #[v, .func (.func 83) #[] #[]] w fun e w' => e = .returned (.tuple #[]) ∧ w'.ownsRow base 52 3 v n (ss (ordS l)) ∧ w.grownBy w' v.ownBlock := by
  have h2 := h.2
  rcases h2 with ⟨rfl, h0⟩ | ⟨g, cap, cur, rfl, hb, hg, _⟩
  · subst h0
    have hl0 : l = [] := List.eq_nil_of_length_eq_zero hn.symm
    subst hl0
    refine (AnyF.slices_SortFunc_none sortC none 0 (.func (.func 83) #[] #[]) w).mono ?_
    rintro e w' ⟨he, hw⟩
    subst hw
    exact ⟨he, h, ⟨rfl, rfl, rfl, Nat.le_refl _, fun _ _ _ => rfl⟩⟩
  · have eg : ∀ args w, (callFunc 83 args).run Try.prog w = .ok (.enter 83 args) w := enters_of Try.func83 (by kernel_rfl) rfl
    have hH : HoldsK encS 3 w g 0 l.toArray := by
      intro j hj
      have hj2 : j < l.length * 3 := by simpa using hj
      refine ⟨?_, by rw [Nat.zero_add]; exact h.frozenAt j⟩
      have := h.cellAt j (by rw [hn]; exact hj2)
      rw [flat_getS l j hj2] at this
      rw [Nat.zero_add]; exact this
    have hcon := AnyQ.slices_SortFunc sortC 3 Try.isAgg52 Try.sizeOf52 encS (fun _ => rfl) (fun x v hv => by simp [encS] at hv; rcases hv with rfl | rfl | rfl <;> rfl) cmS swoS 83 #[] g 0 cap l.toArray w eg (fun m os dk _ x y => cmp_grown x.1 x.2.1 x.2.2 y.1 y.2.1 y.2.2 _) hH (Array.getElem?_eq_some_iff.1 hg).1 (by simp; omega)
    have e1 : l.toArray.size = n := by simp [hn]
    rw [e1] at hcon
    refine Calls.mono (P := Try.prog) (f := 82) hcon ?_
    rintro e w' ⟨he, d, m, os, hpi, hso, hw⟩
    obtain ⟨hsz, _, hperm⟩ := hpi
    have hdn : d.size = n := by rw [← e1]; exact hsz
    have ex1 : d.extract 0 n = d := by rw [← hdn]; exact Array.extract_size
    have ex2 : l.toArray.extract 0 n = l.toArray := by rw [← e1]; exact Array.extract_size
    rw [ex1, ex2] at hperm
    have hord : d.toList = ordS l := by
      refine ordS_unique hv (by simpa using hperm.symm) ?_
      rw [List.pairwise_iff_getElem]
      intro i j hi hj hij
      have hi2 : i < d.size := by simpa using hi
      have hj2 : j < d.size := by simpa using hj
      have := hso i j (Nat.zero_le _) hij (by omega)
      rw [getElem!_pos d j hj2, getElem!_pos d i hi2, ltOf_cmS] at this
      unfold leS
      simpa using this
    have hso := sort_ownS (m := m) (os := os) (t := d) h hdn
    rw [hord] at hso
    subst hw
    exact ⟨he, hso⟩

end Go.Proofs.Ytghfkgbmmkcjhaa
