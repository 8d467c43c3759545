/- Texts cut at each byte of a kind: the pure part. -/
import Derived.Test.YtnhkabhchepieaaDoorGen
import Derived.Shelf.Strings.Split
import Derived.Lib.TrimByte
namespace Go.Proofs.YtnhkabhchepieaaDoor
open Go.ChangeShapes Go.WideShapes Go.ChangeAt Go.RowKit
set_option linter.unusedVariables false

def spF (c : UInt8) : List UInt8 → List (List UInt8)
  | [] => [[]]
  | x :: t => if x = c then [] :: spF c t else match spF c t with | [] => [[x]] | h :: r => (x :: h) :: r

theorem spF_ne (c : UInt8) : ∀ l, spF c l ≠ []
  | [] => by simp [spF]
  | x :: t => by
    unfold spF
    split
    · simp
    · split <;> simp

theorem spF_index (c : UInt8) : ∀ l : List UInt8, (Lib.index l [c] = -1 ∧ spF c l = [l]) ∨ ∃ i : Nat, Lib.index l [c] = i ∧ i < l.length ∧ spF c l = l.take i :: spF c (l.drop (i + 1))
  | [] => .inl ⟨rfl, rfl⟩
  | x :: t => by
    by_cases hx : x = c
    · subst hx
      refine .inr ⟨0, ?_, by simp, ?_⟩
      · unfold Lib.index; rw [if_pos (by simp)]; rfl
      · simp [spF]
    · have hp : ([c] : List UInt8).isPrefixOf (x :: t) = false := by
        have : (c == x) = false := by rw [beq_eq_false_iff_ne]; exact fun e => hx e.symm
        simp [List.isPrefixOf, this]
      rcases spF_index c t with ⟨h1, h2⟩ | ⟨i, h1, h2, h3⟩
      · refine .inl ⟨?_, ?_⟩
        · unfold Lib.index; rw [hp, h1]; rfl
        · rw [spF, if_neg hx, h2]
      · refine .inr ⟨i + 1, ?_, by simpa using h2, ?_⟩
        · unfold Lib.index
          rw [hp, h1]
          have : ((i : Int) == -1) = false := by rw [beq_eq_false_iff_ne]; omega
          simp [this]
        · rw [spF, if_neg hx, h3]; rfl

theorem splitK_spF (c : UInt8) : ∀ (k : Nat) (l : List UInt8), ((spF c l).length ≤ k + 1 → Lib.splitK [c] 0 k l = spF c l) ∧ (k + 1 < (spF c l).length → (Lib.splitK [c] 0 k l).length = k + 1)
  | 0, l => by
    refine ⟨fun h => ?_, fun _ => rfl⟩
    rcases spF_index c l with ⟨_, h2⟩ | ⟨i, _, _, h3⟩
    · rw [h2]; rfl
    · rw [h3] at h
      simp at h
      exact absurd h (spF_ne c _)
  | k + 1, l => by
    rcases spF_index c l with ⟨h1, h2⟩ | ⟨i, h1, h2, h3⟩
    · have e : Lib.splitK [c] 0 (k + 1) l = [l] := by unfold Lib.splitK; rw [h1]; rfl
      rw [e, h2]
      exact ⟨fun _ => rfl, fun h => by simp at h⟩
    · have e : Lib.splitK [c] 0 (k + 1) l = l.take i :: Lib.splitK [c] 0 k (l.drop (i + 1)) := by
        have hb : (Lib.index l [c] == -1) = false := by rw [h1, beq_eq_false_iff_ne]; omega
        rw [Lib.splitK, hb, h1]
        simp
      have ih := splitK_spF c k (l.drop (i + 1))
      rw [e, h3]
      refine ⟨fun h => ?_, fun h => ?_⟩
      · rw [ih.1 (by simpa using h)]
      · rw [List.length_cons, ih.2 (by simpa using h)]

theorem spF_sum (c : UInt8) : ∀ l : List UInt8, ((spF c l).map fun t => t.length + 1).sum = l.length + 1
  | [] => rfl
  | x :: t => by
    have ih := spF_sum c t
    unfold spF
    split
    · simp [ih]; omega
    · split
      · rename_i h; exact absurd h (spF_ne c t)
      · rename_i h r hh
        rw [hh] at ih
        simp at ih ⊢
        omega

theorem spF_le (c : UInt8) : ∀ l : List UInt8, (spF c l).length ≤ l.length + 1
  | [] => by simp [spF]
  | x :: t => by
    have ih := spF_le c t
    unfold spF
    split
    · simp; omega
    · split
      · simp
      · rename_i h r hh; rw [hh] at ih; simp at ih ⊢; omega

/-- From where the piece under way begins, behind i bytes. -/
def fr (c : UInt8) (l : List UInt8) : Nat → Nat | 0 => 0 | i + 1 => if l.getD i 0 = c then i + 1 else fr c l i
/-- The pieces that are over, behind i bytes. -/
def dn (c : UInt8) (l : List UInt8) : Nat → List (List UInt8) | 0 => [] | i + 1 => if l.getD i 0 = c then dn c l i ++ [(l.drop (fr c l i)).take (i - fr c l i)] else dn c l i
theorem fr_le (c : UInt8) (l : List UInt8) : ∀ i, fr c l i ≤ i
  | 0 => Nat.le_refl _
  | i + 1 => by have := fr_le c l i; unfold fr; split <;> omega
theorem dn_le (c : UInt8) (l : List UInt8) : ∀ i, (dn c l i).length ≤ i
  | 0 => Nat.le_refl _
  | i + 1 => by have := dn_le c l i; unfold dn; split <;> simp <;> omega

def hdp (p : List UInt8) : List (List UInt8) → List (List UInt8) | [] => [p] | h :: r => (p ++ h) :: r

theorem spF_dn (c : UInt8) (l : List UInt8) : ∀ i, i ≤ l.length → spF c l = dn c l i ++ hdp ((l.drop (fr c l i)).take (i - fr c l i)) (spF c (l.drop i))
  | 0, _ => by
    cases h : spF c l with
    | nil => exact absurd h (spF_ne c l)
    | cons a r => simp [dn, fr, hdp, h]
  | i + 1, h => by
    have ih := spF_dn c l i (by omega)
    have hfr := fr_le c l i
    have hd : l.drop i = l.getD i 0 :: l.drop (i + 1) := by
      rw [List.drop_eq_getElem_cons (by omega)]
      simp [List.getD_eq_getElem?_getD, show i < l.length by omega]
    rw [ih, hd]
    by_cases hx : l.getD i 0 = c
    · rw [spF, if_pos hx]
      have e1 : fr c l (i + 1) = i + 1 := by rw [fr, if_pos hx]
      have e2 : dn c l (i + 1) = dn c l i ++ [(l.drop (fr c l i)).take (i - fr c l i)] := by rw [dn, if_pos hx]
      rw [e1, e2]
      cases hs : spF c (l.drop (i + 1)) with
      | nil => exact absurd hs (spF_ne c _)
      | cons a r => simp [hdp]
    · rw [spF, if_neg hx]
      have e1 : fr c l (i + 1) = fr c l i := by rw [fr, if_neg hx]
      have e2 : dn c l (i + 1) = dn c l i := by rw [dn, if_neg hx]
      rw [e1, e2]
      cases hs : spF c (l.drop (i + 1)) with
      | nil => exact absurd hs (spF_ne c _)
      | cons a r =>
        have e3 : (l.drop (fr c l i)).take (i + 1 - fr c l i) = (l.drop (fr c l i)).take (i - fr c l i) ++ [l.getD i 0] := by
          rw [show i + 1 - fr c l i = (i - fr c l i) + 1 by omega, List.take_succ_eq_append_getElem (by simp; omega)]
          congr 2
          simp [List.getD_eq_getElem?_getD, show i < l.length by omega, show fr c l i + (i - fr c l i) = i by omega]
        rw [e3]
        simp [hdp]

theorem spF_end (c : UInt8) (l : List UInt8) : spF c l = dn c l l.length ++ [l.drop (fr c l l.length)] := by
  have h := spF_dn c l l.length (Nat.le_refl _)
  rw [List.drop_length] at h
  rw [h]
  simp [spF, hdp, List.take_of_length_le]

end Go.Proofs.YtnhkabhchepieaaDoor
