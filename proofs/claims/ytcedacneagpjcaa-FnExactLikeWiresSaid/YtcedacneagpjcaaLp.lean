/- The wires of each label, and the lists of like wires. -/
import Derived.Test.YtcedacneagpjcaaLby
namespace Go.Proofs.Ytcedacneagpjcaa
open Go.ChangeShapes Go.WideShapes Go.ChangeAt Go.RowKit Go.Maps
set_option linter.unusedVariables false


/-- The first wire of a list. -/
def hd (z : List Int) : Nat := (z.headD 0).toNat

theorem sameL_iff {l m : List Int} {i j : Nat} : sameL l m i j = true ↔ (sz l i = sz l j ∧ sz m i = sz m j) := by
  unfold sameL
  simp

def pL (l m : List Int) (x y : Int) (i : Nat) : Bool := decide (((sz l i : Nat) : Int) = x ∧ ((sz m i : Nat) : Int) = y)

theorem wz_eq (l m : List Int) (k : Nat) (x y : Int) : wz l m k x y = ((List.range k).filter (pL l m x y)).map fun i => ((i : Nat) : Int) := rfl

theorem wz_first {l m : List Int} {i : Nat} {x y : Int} (hp : pL l m x y i = true) (n : Nat) (hf : fsTo l m i n = true) : ∀ k, k ≤ n → (k ≤ i → (List.range k).filter (pL l m x y) = []) ∧ (i < k → (List.range k).filter (pL l m x y) = i :: (List.range k).filter fun j => decide (i < j) && sameL l m i j)
  | 0, _ => ⟨fun _ => rfl, fun h => by omega⟩
  | k + 1, hk => by
    have ih := wz_first hp n hf k (by omega)
    have hps : pL l m x y k = sameL l m i k := by
      rw [Bool.eq_iff_iff, sameL_iff]
      simp only [pL, decide_eq_true_eq] at hp ⊢
      omega
    have hfk : sameL l m i k = true → i ≤ k := fun h => by
      unfold fsTo at hf
      rw [List.all_eq_true] at hf
      have h2 := hf k (List.mem_range.2 (by omega))
      rw [h] at h2
      simpa using h2
    refine ⟨fun h => ?_, fun h => ?_⟩
    · rw [List.range_succ, List.filter_append, ih.1 (by omega)]
      have : pL l m x y k = false := by
        rw [hps]
        cases h3 : sameL l m i k
        · rfl
        · have := hfk h3; omega
      simp [this]
    · by_cases hik : i = k
      · subst hik
        rw [List.range_succ, List.filter_append, ih.1 (Nat.le_refl _), List.filter_append]
        have h4 : (List.range i).filter (fun j => decide (i < j) && sameL l m i j) = [] := by
          rw [List.filter_eq_nil_iff]
          intro a ha
          have := List.mem_range.1 ha
          simp; omega
        rw [h4]
        simp [hp]
      · rw [List.range_succ, List.filter_append, ih.2 (by omega), List.filter_append]
        have : i < k := by omega
        cases h3 : sameL l m i k
        · simp [hps, h3]
        · simp [hps, h3, this]

theorem wz_mem {l m : List Int} {n : Nat} {x y : Int} {i : Nat} (h : ((i : Nat) : Int) ∈ wz l m n x y) : i < n ∧ pL l m x y i = true := by
  rw [wz_eq, List.mem_map] at h
  obtain ⟨j, hj, e⟩ := h
  have : j = i := by omega
  subst this
  rw [List.mem_filter, List.mem_range] at hj
  exact hj

theorem wz_hd {l m : List Int} {n : Nat} {x y : Int} (h : wz l m n x y ≠ []) : hd (wz l m n x y) < n ∧ pL l m x y (hd (wz l m n x y)) = true ∧ fsTo l m (hd (wz l m n x y)) n = true ∧ na (wz l m n x y) 0 = ((hd (wz l m n x y) : Nat) : Int) := by
  have hpw : ((List.range n).filter (pL l m x y)).Pairwise (· < ·) := List.pairwise_lt_range.filter _
  cases hz : (List.range n).filter (pL l m x y) with
  | nil => rw [wz_eq, hz] at h; exact absurd rfl h
  | cons i r =>
    have hw : wz l m n x y = ((i : Nat) : Int) :: r.map fun i => ((i : Nat) : Int) := by rw [wz_eq, hz]; rfl
    have hh : hd (wz l m n x y) = i := by rw [hw]; simp [hd]
    have hm : i ∈ (List.range n).filter (pL l m x y) := by rw [hz]; simp
    rw [List.mem_filter, List.mem_range] at hm
    rw [hh]
    refine ⟨hm.1, hm.2, ?_, by rw [hw]; rfl⟩
    unfold fsTo
    rw [List.all_eq_true]
    intro j hj
    have hjn := List.mem_range.1 hj
    cases hs : sameL l m i j
    · rfl
    · have hpj : pL l m x y j = true := by
        have h1 := sameL_iff.1 hs
        have h2 := hm.2
        simp only [pL, decide_eq_true_eq] at h2 ⊢
        omega
      have hjm : j ∈ i :: r := by rw [← hz, List.mem_filter, List.mem_range]; exact ⟨hjn, hpj⟩
      rw [hz] at hpw
      rcases List.mem_cons.1 hjm with e | e
      · simp; omega
      · have := (List.pairwise_cons.1 hpw).1 j e
        simp; omega

/-- A first wire's list. -/
theorem wz_lk {l m : List Int} {n : Nat} {x y : Int} {i : Nat} (hi : i < n) (hp : pL l m x y i = true) (hf : fsTo l m i n = true) : wz l m n x y = lkTo l m i n := by
  rw [wz_eq, (wz_first hp n hf n (Nat.le_refl _)).2 hi]; rfl

theorem lk_of_hd {l m : List Int} {n : Nat} {x y : Int} (h : 1 < (wz l m n x y).length) : lkB l m n (hd (wz l m n x y)) = true ∧ lkTo l m (hd (wz l m n x y)) n = wz l m n x y := by
  have hne : wz l m n x y ≠ [] := fun e => by rw [e] at h; simp at h
  have h1 := wz_hd hne
  have h2 := wz_lk h1.1 h1.2.1 h1.2.2.1
  refine ⟨?_, h2.symm⟩
  unfold lkB
  rw [h1.2.2.1, ← h2]
  simpa using h

theorem hd_of_lk {l m : List Int} {n i : Nat} (hi : i < n) (h : lkB l m n i = true) : 1 < (wz l m n (sz l i : Nat) (sz m i : Nat)).length ∧ hd (wz l m n (sz l i : Nat) (sz m i : Nat)) = i := by
  simp only [lkB, Bool.and_eq_true, decide_eq_true_eq] at h
  have hp : pL l m (sz l i : Nat) (sz m i : Nat) i = true := by simp [pL]
  have h2 := wz_lk hi hp h.1
  rw [h2]
  exact ⟨h.2, by simp [lkTo, hd]⟩

theorem lkL_skip {l m : List Int} {n j : Nat} : ∀ h, j ≤ h → (∀ i, j ≤ i → i < h → lkB l m n i = false) → lkL l m n h = lkL l m n j
  | 0, hj, _ => by obtain rfl : j = 0 := by omega
                   rfl
  | h + 1, hj, hn => by
    by_cases e : j = h + 1
    · rw [e]
    · rw [lkL_succ, hn h (by omega) (by omega), lkL_skip h (by omega) (fun i h1 h2 => hn i h1 (by omega))]
      simp

theorem lkL_take {l m : List Int} {n j h : Nat} (hj : j ≤ h) (hn : ∀ i, j ≤ i → i < h → lkB l m n i = false) (hh : lkB l m n h = true) : lkL l m n (h + 1) = lkL l m n j ++ [lkTo l m h n] := by
  rw [lkL_succ, if_pos hh, lkL_skip h hj hn]

/-- What of the labels is left when the lists before j are taken. -/
def Lv (l m : List Int) (n j : Nat) (Z : Int → Int → List Int) : Prop := ∀ x y, inR x → inR y → (Z x y = wz l m n x y ∨ Z x y = []) ∧ (1 < (wz l m n x y).length → (Z x y = wz l m n x y ↔ j ≤ hd (wz l m n x y)))

theorem Lv.start (l m : List Int) (n : Nat) : Lv l m n 0 (wz l m n) := fun x y _ _ => ⟨.inl rfl, fun _ => ⟨fun _ => Nat.zero_le _, fun _ => rfl⟩⟩

end Go.Proofs.Ytcedacneagpjcaa
