/- The first two groupings that tell all wires: what they are. -/
import Derived.Test.YtcedacneagpjcaaFp
namespace Go.Proofs.Ytcedacneagpjcaa
open Go.ChangeShapes Go.WideShapes Go.ChangeAt Go.RowKit
set_option linter.unusedVariables false

/-- The two values have no block in common. -/
def Ap (u v : Value) : Prop := ∀ b, u.ownBlock = some b → v.ownBlock ≠ some b

theorem Ap.symm {u v : Value} (h : Ap u v) : Ap v u := fun b hb e => h b e hb

theorem Ap.kept {u v : Value} (ap : Ap u v) {w w' : World} {base : Nat} {e : TypeId} {size n : Nat} {xs : List Value} (h : w.ownsRow base e size v n xs) (gr : w.grownBy w' u.ownBlock) : w'.ownsRow base e size v n xs := by
  refine h.kept gr ?_
  cases hv : v.ownBlock with
  | none => exact .inl rfl
  | some b => exact .inr (fun e => ap b e.symm hv)

theorem Ap.grow {u v : Value} (ap : Ap u v) {w : World} {base : Nat} {e : TypeId} {size n : Nat} {xs : List Value} (h : w.ownsRow base e size v n xs) {g H m c : Nat} (hat : u.ownBlock = some g ∨ g = H) (hH : w.heap.size ≤ H) : Ap (.slice (some ⟨g, 0, none⟩) m c) v := by
  intro b hb hv
  obtain rfl : g = b := by simpa [Value.ownBlock] using hb
  rcases hat with h1 | h1
  · exact ap g h1 hv
  · have := (h.lt g hv).2; omega

theorem Ap.nil (v : Value) : Ap (.slice none 0 0) v := fun b hb => by cases hb


theorem take_row {L : List (List Int)} {k : Nat} (h : k < L.length) : L.take (k + 1) = L.take k ++ [row L k] := by
  rw [List.take_succ_eq_append_getElem h, row_get h]

theorem findS_next {β : Type} {f : List Int → Option β} {L : List (List Int)} {k : Nat} (h : (L.take k).findSome? f = none) (hk : k < L.length) (hf : f (row L k) = none) : (L.take (k + 1)).findSome? f = none := by
  rw [take_row hk, List.findSome?_append, h]; simp [hf]

theorem findS_at {β : Type} {f : List Int → Option β} {L : List (List Int)} {k : Nat} {y : β} (h : (L.take k).findSome? f = none) (hk : k < L.length) (hf : f (row L k) = some y) : L.findSome? f = some y := by
  have e : L = L.take (k + 1) ++ L.drop (k + 1) := (List.take_append_drop _ _).symm
  rw [e, List.findSome?_append, take_row hk, List.findSome?_append, h]; simp [hf]

theorem find_next {p : List Int → Bool} {L : List (List Int)} {k : Nat} (h : (L.take k).find? p = none) (hk : k < L.length) (hf : p (row L k) = false) : (L.take (k + 1)).find? p = none := by
  rw [take_row hk, List.find?_append, h]; simp [hf]

theorem find_at {p : List Int → Bool} {L : List (List Int)} {k : Nat} (h : (L.take k).find? p = none) (hk : k < L.length) (hf : p (row L k) = true) : L.find? p = some (row L k) := by
  have e : (L.take (k + 1) ++ L.drop (k + 1)).find? p = some (row L k) := by
    rw [List.find?_append, take_row hk, List.find?_append, h]; simp [hf]
  rw [List.take_append_drop] at e
  exact e

theorem pt_find (a : List Int) (L : List (List Int)) : ∀ k, k ≤ L.length → (L.take k).find? (telB a) = ((ptI a L k).head?).map (row L)
  | 0, _ => by simp [ptI]
  | k + 1, h => by
    have h1 := pt_find a L k (by omega)
    rw [take_row (by omega), List.find?_append, h1, ptI_succ]
    by_cases ht : telB a (row L k) = true
    · rw [if_pos ht]
      cases hp : ptI a L k with
      | nil => simp [ht]
      | cons x xs => simp
    · rw [if_neg ht]
      cases hp : ptI a L k with
      | nil => simp [ht]
      | cons x xs => simp

/-- A first grouping with its first partner. -/
def tw2 (L : List (List Int)) (a : List Int) : Option (List Int × List Int) := (L.find? (telB a)).map fun b => (a, b)

/-- The first two groupings that tell all wires. -/
def f2 (n : Nat) : Option (List Int × List Int) := (allG n).findSome? (tw2 (allG n))

def fnR (n : Int) : Option (List Int × List Int) := if 1 ≤ n ∧ n ≤ 7 then f2 n.toNat else none

def o1 (p : Option (List Int × List Int)) : List Int := (p.map Prod.fst).getD []
def o2 (p : Option (List Int × List Int)) : List Int := (p.map Prod.snd).getD []

theorem f2_in {n : Nat} {p : List Int × List Int} (h : f2 n = some p) : p.1.length = n ∧ p.2.length = n := by
  unfold f2 at h
  obtain ⟨a, ha, hf⟩ := List.exists_of_findSome?_eq_some h
  unfold tw2 at hf
  cases hb : (allG n).find? (telB a) with
  | none => rw [hb] at hf; cases hf
  | some b =>
    rw [hb] at hf
    simp at hf
    subst hf
    exact ⟨(allG_good n a ha).1, (allG_good n b (List.mem_of_find?_eq_some hb)).1⟩

def ftA (n : Int) : List Int := o1 (fnR n)
def ftB (n : Int) : List Int := o2 (fnR n)
def ftO (n : Int) : Bool := (fnR n).isSome

theorem ftA_len (n : Int) : (ftA n).length ≤ 1000 := by
  unfold ftA o1
  cases h : fnR n with
  | none => simp
  | some p =>
    unfold fnR at h
    split at h
    · have := (f2_in h).1; simp; omega
    · cases h

theorem ftB_len (n : Int) : (ftB n).length ≤ 1000 := by
  unfold ftB o2
  cases h : fnR n with
  | none => simp
  | some p =>
    unfold fnR at h
    split at h
    · have := (f2_in h).2; simp; omega
    · cases h

/-- Everything about one of the groupings listed. -/
theorem cell_row {w : World} {base g0 cap0 N n : Nat} {X : List Value} {L : List (List Int)} (h : OwnSS w base (.slice (some ⟨g0, 0, none⟩) N cap0) X L) (hN : N = L.length) (hL : ∀ i, i < L.length → (row L i).length = n ∧ grB (row L i) = true) (k : Nat) (hk : k < N) :
    ∃ b1 c1, X[k]? = some (.slice (some ⟨b1, 0, none⟩) n c1) ∧ w.cell? ⟨g0, k, none⟩ = some (.slice (some ⟨b1, 0, none⟩) n c1) ∧ w.ownsRow base 3 1 (.slice (some ⟨b1, 0, none⟩) n c1) n (ns (row L k)) := by
  have hkL : k < L.length := by omega
  obtain ⟨a1, c1, hx1, hc0, own1⟩ := h.cellOf hN k hkL
  have hgd := hL k hkL
  rw [hgd.1] at hc0 own1 hx1
  obtain ⟨b1, d1, hv1, _⟩ := own_pos own1 (by have h1 := grB_len hgd.2; omega)
  simp only [Value.slice.injEq, true_and] at hv1
  obtain ⟨hv1, hw1⟩ := hv1
  subst hv1
  exact ⟨b1, c1, hx1, hc0, own1⟩

end Go.Proofs.Ytcedacneagpjcaa
