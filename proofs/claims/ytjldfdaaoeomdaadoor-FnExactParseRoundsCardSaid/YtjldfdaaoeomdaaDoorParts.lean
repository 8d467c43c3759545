/- A text cut at each dash, and what calls it is a text of; a text cut at each slash. -/
import Derived.Test.YtjldfdaaoeomdaaDoorCGood
import Derived.Shelf.Strings.Split
namespace Go.Proofs.YtjldfdaaoeomdaaDoor
open Go.ChangeShapes Go.WideShapes Go.ChangeAt Go.RowKit


/-- A text cut at each dash. -/
def spF : List UInt8 → List (List UInt8)
  | [] => [[]]
  | x :: t => if x = 45 then [] :: spF t else match spF t with | [] => [[x]] | h :: r => (x :: h) :: r

theorem spF_ne : ∀ l, spF l ≠ []
  | [] => by simp [spF]
  | x :: t => by
    unfold spF
    split
    · simp
    · split <;> simp

theorem spF_index : ∀ l : List UInt8, (Lib.index l [45] = -1 ∧ spF l = [l]) ∨ ∃ i : Nat, Lib.index l [45] = i ∧ i < l.length ∧ spF l = l.take i :: spF (l.drop (i + 1))
  | [] => .inl ⟨rfl, rfl⟩
  | x :: t => by
    by_cases hx : x = 45
    · subst hx
      refine .inr ⟨0, ?_, by simp, ?_⟩
      · unfold Lib.index; rw [if_pos (by simp)]; rfl
      · simp [spF]
    · have hp : ([45] : List UInt8).isPrefixOf (x :: t) = false := by
        have : ((45 : UInt8) == x) = false := by rw [beq_eq_false_iff_ne]; exact fun e => hx e.symm
        simp [List.isPrefixOf, this]
      rcases spF_index t with ⟨h1, h2⟩ | ⟨i, h1, h2, h3⟩
      · refine .inl ⟨?_, ?_⟩
        · unfold Lib.index; rw [hp, h1]; rfl
        · rw [spF, if_neg hx, h2]
      · refine .inr ⟨i + 1, ?_, by simpa using h2, ?_⟩
        · unfold Lib.index
          rw [hp, h1]
          have : ((i : Int) == -1) = false := by rw [beq_eq_false_iff_ne]; omega
          simp [this]
        · rw [spF, if_neg hx, h3]; rfl

theorem splitK_spF : ∀ (k : Nat) (l : List UInt8), ((spF l).length ≤ k + 1 → Lib.splitK [45] 0 k l = spF l) ∧ (k + 1 < (spF l).length → (Lib.splitK [45] 0 k l).length = k + 1)
  | 0, l => by
    refine ⟨fun h => ?_, fun _ => rfl⟩
    rcases spF_index l with ⟨_, h2⟩ | ⟨i, _, _, h3⟩
    · rw [h2]; rfl
    · rw [h3] at h
      simp at h
      exact absurd h (spF_ne _)
  | k + 1, l => by
    rcases spF_index l with ⟨h1, h2⟩ | ⟨i, h1, h2, h3⟩
    · have e : Lib.splitK [45] 0 (k + 1) l = [l] := by unfold Lib.splitK; rw [h1]; rfl
      rw [e, h2]
      exact ⟨fun _ => rfl, fun h => by simp at h⟩
    · have e : Lib.splitK [45] 0 (k + 1) l = l.take i :: Lib.splitK [45] 0 k (l.drop (i + 1)) := by
        have hb : (Lib.index l [45] == -1) = false := by rw [h1, beq_eq_false_iff_ne]; omega
        rw [Lib.splitK, hb, h1]
        simp
      have ih := splitK_spF k (l.drop (i + 1))
      rw [e, h3]
      refine ⟨fun h => ?_, fun h => ?_⟩
      · rw [ih.1 (by simpa using h)]
      · rw [List.length_cons, ih.2 (by simpa using h)]

theorem spF_sum : ∀ l : List UInt8, ((spF l).map fun t => t.length + 1).sum = l.length + 1
  | [] => rfl
  | x :: t => by
    have ih := spF_sum t
    unfold spF
    split
    · simp [ih]; omega
    · split
      · rename_i h; exact absurd h (spF_ne t)
      · rename_i h r hh
        rw [hh] at ih
        simp at ih ⊢
        omega

theorem sum_two (q : List (List UInt8)) (h : q.all (fun t => t.length == 2) = true) : (q.map fun t => t.length + 1).sum = 3 * q.length := by
  induction q with
  | nil => rfl
  | cons t r ih =>
    simp only [List.all_cons, Bool.and_eq_true, beq_iff_eq] at h
    have := ih h.2
    simp only [List.map_cons, List.sum_cons, List.length_cons, this, h.1]
    omega

theorem spF_two (l : List UInt8) (h : (spF l).all (fun t => t.length == 2) = true) : l.length + 1 = 3 * (spF l).length := by rw [← spF_sum, sum_two _ h]

theorem spF_le : ∀ l : List UInt8, (spF l).length ≤ l.length + 1
  | [] => by simp [spF]
  | x :: t => by
    have ih := spF_le t
    unfold spF
    split
    · simp; omega
    · split
      · simp
      · rename_i h r hh; rw [hh] at ih; simp at ih ⊢; omega

/-- From where the piece under way begins, behind i bytes. -/
def fr (l : List UInt8) : Nat → Nat | 0 => 0 | i + 1 => if l.getD i 0 = 45 then i + 1 else fr l i
/-- The pieces that are over, behind i bytes. -/
def dn (l : List UInt8) : Nat → List (List UInt8) | 0 => [] | i + 1 => if l.getD i 0 = 45 then dn l i ++ [(l.drop (fr l i)).take (i - fr l i)] else dn l i
theorem fr_le (l : List UInt8) : ∀ i, fr l i ≤ i
  | 0 => Nat.le_refl _
  | i + 1 => by have := fr_le l i; unfold fr; split <;> omega
theorem dn_le (l : List UInt8) : ∀ i, (dn l i).length ≤ i
  | 0 => Nat.le_refl _
  | i + 1 => by have := dn_le l i; unfold dn; split <;> simp <;> omega

def hdp (p : List UInt8) : List (List UInt8) → List (List UInt8) | [] => [p] | h :: r => (p ++ h) :: r

theorem spF_dn (l : List UInt8) : ∀ i, i ≤ l.length → spF l = dn l i ++ hdp ((l.drop (fr l i)).take (i - fr l i)) (spF (l.drop i))
  | 0, _ => by
    cases h : spF l with
    | nil => exact absurd h (spF_ne l)
    | cons a r => simp [dn, fr, hdp, h]
  | i + 1, h => by
    have ih := spF_dn l i (by omega)
    have hfr := fr_le l i
    have hd : l.drop i = l.getD i 0 :: l.drop (i + 1) := by
      rw [List.drop_eq_getElem_cons (by omega)]
      simp [List.getD_eq_getElem?_getD, show i < l.length by omega]
    rw [ih, hd]
    by_cases hx : l.getD i 0 = 45
    · rw [spF, if_pos hx]
      have e1 : fr l (i + 1) = i + 1 := by rw [fr, if_pos hx]
      have e2 : dn l (i + 1) = dn l i ++ [(l.drop (fr l i)).take (i - fr l i)] := by rw [dn, if_pos hx]
      rw [e1, e2]
      cases hs : spF (l.drop (i + 1)) with
      | nil => exact absurd hs (spF_ne _)
      | cons a r => simp [hdp]
    · rw [spF, if_neg hx]
      have e1 : fr l (i + 1) = fr l i := by rw [fr, if_neg hx]
      have e2 : dn l (i + 1) = dn l i := by rw [dn, if_neg hx]
      rw [e1, e2]
      cases hs : spF (l.drop (i + 1)) with
      | nil => exact absurd hs (spF_ne _)
      | cons a r =>
        have e3 : (l.drop (fr l i)).take (i + 1 - fr l i) = (l.drop (fr l i)).take (i - fr l i) ++ [l.getD i 0] := by
          rw [show i + 1 - fr l i = (i - fr l i) + 1 by omega, List.take_succ_eq_append_getElem (by simp; omega)]
          congr 2
          simp [List.getD_eq_getElem?_getD, show i < l.length by omega, show fr l i + (i - fr l i) = i by omega]
        rw [e3]
        simp [hdp]

theorem spF_end (l : List UInt8) : spF l = dn l l.length ++ [l.drop (fr l l.length)] := by
  have h := spF_dn l l.length (Nat.le_refl _)
  rw [List.drop_length] at h
  rw [h]
  simp [spF, hdp, List.take_of_length_le]

/-- A piece of two bytes, as a call. -/
def cp (t : List UInt8) : Int × Int := (((t.getD 0 0).toNat : Int) - 48, ((t.getD 1 0).toNat : Int) - 48)
def pOK (l : List UInt8) : Bool := decide (l.length ≤ 180) && (spF l).all (fun t => t.length == 2 && calB 10 (cp t).1 (cp t).2) && decide ((spF l).length ≤ 60)
def iOK (q : List (List UInt8)) : Bool := q.all (fun t => t.length == 2) && gdB 10 (q.map cp)
def qOf (l : List UInt8) : List (List UInt8) := Lib.splitK [45] 0 (min 61 (l.length + 1) - 1) l

theorem gd10 (q : List (List UInt8)) : gdB 10 (q.map cp) = (decide (q.length ≤ 60) && q.all fun t => calB 10 (cp t).1 (cp t).2) := by
  simp [gdB, frB, List.all_map, Function.comp_def]

theorem iOK_pOK (l : List UInt8) : iOK (qOf l) = pOK l ∧ (pOK l = true → qOf l = spF l) := by
  have hk := splitK_spF (min 61 (l.length + 1) - 1) l
  have hle := spF_le l
  by_cases h : (spF l).length ≤ min 61 (l.length + 1) - 1 + 1
  · have e : qOf l = spF l := hk.1 h
    refine ⟨?_, fun _ => e⟩
    rw [e, iOK, gd10, pOK]
    rw [Bool.eq_iff_iff]
    simp only [Bool.and_eq_true, decide_eq_true_eq, List.all_eq_true]
    constructor
    · rintro ⟨h1, h2, h3⟩
      have h4 := spF_two l (by rw [List.all_eq_true]; exact h1)
      exact ⟨⟨by omega, fun x hx => ⟨h1 x hx, h3 x hx⟩⟩, h2⟩
    · rintro ⟨⟨_, h1⟩, h2⟩
      exact ⟨fun x hx => (h1 x hx).1, h2, fun x hx => (h1 x hx).2⟩
  · have e : (qOf l).length = min 61 (l.length + 1) - 1 + 1 := hk.2 (by omega)
    have hn : pOK l = false := by
      rw [pOK, show decide ((spF l).length ≤ 60) = false by simp; omega, Bool.and_false]
    refine ⟨?_, fun h => by rw [hn] at h; cases h⟩
    rw [hn, iOK, gd10, show decide ((qOf l).length ≤ 60) = false by simp; omega]
    simp


/-- A text cut at each dash. -/
def spG : List UInt8 → List (List UInt8)
  | [] => [[]]
  | x :: t => if x = 47 then [] :: spG t else match spG t with | [] => [[x]] | h :: r => (x :: h) :: r

theorem spG_ne : ∀ l, spG l ≠ []
  | [] => by simp [spG]
  | x :: t => by
    unfold spG
    split
    · simp
    · split <;> simp

theorem spG_index : ∀ l : List UInt8, (Lib.index l [47] = -1 ∧ spG l = [l]) ∨ ∃ i : Nat, Lib.index l [47] = i ∧ i < l.length ∧ spG l = l.take i :: spG (l.drop (i + 1))
  | [] => .inl ⟨rfl, rfl⟩
  | x :: t => by
    by_cases hx : x = 47
    · subst hx
      refine .inr ⟨0, ?_, by simp, ?_⟩
      · unfold Lib.index; rw [if_pos (by simp)]; rfl
      · simp [spG]
    · have hp : ([47] : List UInt8).isPrefixOf (x :: t) = false := by
        have : ((47 : UInt8) == x) = false := by rw [beq_eq_false_iff_ne]; exact fun e => hx e.symm
        simp [List.isPrefixOf, this]
      rcases spG_index t with ⟨h1, h2⟩ | ⟨i, h1, h2, h3⟩
      · refine .inl ⟨?_, ?_⟩
        · unfold Lib.index; rw [hp, h1]; rfl
        · rw [spG, if_neg hx, h2]
      · refine .inr ⟨i + 1, ?_, by simpa using h2, ?_⟩
        · unfold Lib.index
          rw [hp, h1]
          have : ((i : Int) == -1) = false := by rw [beq_eq_false_iff_ne]; omega
          simp [this]
        · rw [spG, if_neg hx, h3]; rfl

theorem splitK_spG : ∀ (k : Nat) (l : List UInt8), ((spG l).length ≤ k + 1 → Lib.splitK [47] 0 k l = spG l) ∧ (k + 1 < (spG l).length → (Lib.splitK [47] 0 k l).length = k + 1)
  | 0, l => by
    refine ⟨fun h => ?_, fun _ => rfl⟩
    rcases spG_index l with ⟨_, h2⟩ | ⟨i, _, _, h3⟩
    · rw [h2]; rfl
    · rw [h3] at h
      simp at h
      exact absurd h (spG_ne _)
  | k + 1, l => by
    rcases spG_index l with ⟨h1, h2⟩ | ⟨i, h1, h2, h3⟩
    · have e : Lib.splitK [47] 0 (k + 1) l = [l] := by unfold Lib.splitK; rw [h1]; rfl
      rw [e, h2]
      exact ⟨fun _ => rfl, fun h => by simp at h⟩
    · have e : Lib.splitK [47] 0 (k + 1) l = l.take i :: Lib.splitK [47] 0 k (l.drop (i + 1)) := by
        have hb : (Lib.index l [47] == -1) = false := by rw [h1, beq_eq_false_iff_ne]; omega
        rw [Lib.splitK, hb, h1]
        simp
      have ih := splitK_spG k (l.drop (i + 1))
      rw [e, h3]
      refine ⟨fun h => ?_, fun h => ?_⟩
      · rw [ih.1 (by simpa using h)]
      · rw [List.length_cons, ih.2 (by simpa using h)]

theorem spG_sum : ∀ l : List UInt8, ((spG l).map fun t => t.length + 1).sum = l.length + 1
  | [] => rfl
  | x :: t => by
    have ih := spG_sum t
    unfold spG
    split
    · simp [ih]; omega
    · split
      · rename_i h; exact absurd h (spG_ne t)
      · rename_i h r hh
        rw [hh] at ih
        simp at ih ⊢
        omega

theorem spG_le : ∀ l : List UInt8, (spG l).length ≤ l.length + 1
  | [] => by simp [spG]
  | x :: t => by
    have ih := spG_le t
    unfold spG
    split
    · simp; omega
    · split
      · simp
      · rename_i h r hh; rw [hh] at ih; simp at ih ⊢; omega

/-- From where the piece under way begins, behind i bytes. -/
def frG (l : List UInt8) : Nat → Nat | 0 => 0 | i + 1 => if l.getD i 0 = 47 then i + 1 else frG l i
/-- The pieces that are over, behind i bytes. -/
def dnG (l : List UInt8) : Nat → List (List UInt8) | 0 => [] | i + 1 => if l.getD i 0 = 47 then dnG l i ++ [(l.drop (frG l i)).take (i - frG l i)] else dnG l i
theorem frG_le (l : List UInt8) : ∀ i, frG l i ≤ i
  | 0 => Nat.le_refl _
  | i + 1 => by have := frG_le l i; unfold frG; split <;> omega
theorem dnG_le (l : List UInt8) : ∀ i, (dnG l i).length ≤ i
  | 0 => Nat.le_refl _
  | i + 1 => by have := dnG_le l i; unfold dnG; split <;> simp <;> omega

def hdG (p : List UInt8) : List (List UInt8) → List (List UInt8) | [] => [p] | h :: r => (p ++ h) :: r

theorem spG_dn (l : List UInt8) : ∀ i, i ≤ l.length → spG l = dnG l i ++ hdG ((l.drop (frG l i)).take (i - frG l i)) (spG (l.drop i))
  | 0, _ => by
    cases h : spG l with
    | nil => exact absurd h (spG_ne l)
    | cons a r => simp [dnG, frG, hdG, h]
  | i + 1, h => by
    have ih := spG_dn l i (by omega)
    have hfr := frG_le l i
    have hd : l.drop i = l.getD i 0 :: l.drop (i + 1) := by
      rw [List.drop_eq_getElem_cons (by omega)]
      simp [List.getD_eq_getElem?_getD, show i < l.length by omega]
    rw [ih, hd]
    by_cases hx : l.getD i 0 = 47
    · rw [spG, if_pos hx]
      have e1 : frG l (i + 1) = i + 1 := by rw [frG, if_pos hx]
      have e2 : dnG l (i + 1) = dnG l i ++ [(l.drop (frG l i)).take (i - frG l i)] := by rw [dnG, if_pos hx]
      rw [e1, e2]
      cases hs : spG (l.drop (i + 1)) with
      | nil => exact absurd hs (spG_ne _)
      | cons a r => simp [hdG]
    · rw [spG, if_neg hx]
      have e1 : frG l (i + 1) = frG l i := by rw [frG, if_neg hx]
      have e2 : dnG l (i + 1) = dnG l i := by rw [dnG, if_neg hx]
      rw [e1, e2]
      cases hs : spG (l.drop (i + 1)) with
      | nil => exact absurd hs (spG_ne _)
      | cons a r =>
        have e3 : (l.drop (frG l i)).take (i + 1 - frG l i) = (l.drop (frG l i)).take (i - frG l i) ++ [l.getD i 0] := by
          rw [show i + 1 - frG l i = (i - frG l i) + 1 by omega, List.take_succ_eq_append_getElem (by simp; omega)]
          congr 2
          simp [List.getD_eq_getElem?_getD, show i < l.length by omega, show frG l i + (i - frG l i) = i by omega]
        rw [e3]
        simp [hdG]

theorem spG_end (l : List UInt8) : spG l = dnG l l.length ++ [l.drop (frG l l.length)] := by
  have h := spG_dn l l.length (Nat.le_refl _)
  rw [List.drop_length] at h
  rw [h]
  simp [spG, hdG, List.take_of_length_le]

end Go.Proofs.YtjldfdaaoeomdaaDoor
