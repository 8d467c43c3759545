/- Texts cut at each comma, and what claims they are texts of: the pure part. -/
import Derived.Test.YtphnpphkiiedfaaDoorCls
import Derived.Shelf.Strings.Split
import Derived.Lib.TrimByte
namespace Go.Proofs.YtphnpphkiiedfaaDoor
open Go.ChangeShapes Go.WideShapes Go.ChangeAt Go.RowKit
set_option linter.unusedVariables false

/-- A text cut at each comma. -/
def spF : List UInt8 → List (List UInt8)
  | [] => [[]]
  | x :: t => if x = 44 then [] :: spF t else match spF t with | [] => [[x]] | h :: r => (x :: h) :: r

theorem spF_ne : ∀ l, spF l ≠ []
  | [] => by simp [spF]
  | x :: t => by
    unfold spF
    split
    · simp
    · split <;> simp

theorem spF_index : ∀ l : List UInt8, (Lib.index l [44] = -1 ∧ spF l = [l]) ∨ ∃ i : Nat, Lib.index l [44] = i ∧ i < l.length ∧ spF l = l.take i :: spF (l.drop (i + 1))
  | [] => .inl ⟨rfl, rfl⟩
  | x :: t => by
    by_cases hx : x = 44
    · subst hx
      refine .inr ⟨0, ?_, by simp, ?_⟩
      · unfold Lib.index; rw [if_pos (by simp)]; rfl
      · simp [spF]
    · have hp : ([44] : List UInt8).isPrefixOf (x :: t) = false := by
        have : ((44 : UInt8) == x) = false := by rw [beq_eq_false_iff_ne]; exact fun e => hx e.symm
        simp [List.isPrefixOf, this]
      rcases spF_index t with ⟨h1, h2⟩ | ⟨i, h1, h2, h3⟩
      · refine .inl ⟨?_, ?_⟩
        · unfold Lib.index; rw [hp, h1]; rfl
        · rw [spF, if_neg hx, h2]
      · refine .inr ⟨i + 1, ?_, by simpa using h2, ?_⟩
        · unfold Lib.index
          rw [hp, h1]
          have : ((i : Int) == -1) = false := by rw [beq_eq_false_iff_ne]; omega
          simp [this]
        · rw [spF, if_neg hx, h3]; rfl

theorem splitK_spF : ∀ (k : Nat) (l : List UInt8), ((spF l).length ≤ k + 1 → Lib.splitK [44] 0 k l = spF l) ∧ (k + 1 < (spF l).length → (Lib.splitK [44] 0 k l).length = k + 1)
  | 0, l => by
    refine ⟨fun h => ?_, fun _ => rfl⟩
    rcases spF_index l with ⟨_, h2⟩ | ⟨i, _, _, h3⟩
    · rw [h2]; rfl
    · rw [h3] at h
      simp at h
      exact absurd h (spF_ne _)
  | k + 1, l => by
    rcases spF_index l with ⟨h1, h2⟩ | ⟨i, h1, h2, h3⟩
    · have e : Lib.splitK [44] 0 (k + 1) l = [l] := by unfold Lib.splitK; rw [h1]; rfl
      rw [e, h2]
      exact ⟨fun _ => rfl, fun h => by simp at h⟩
    · have e : Lib.splitK [44] 0 (k + 1) l = l.take i :: Lib.splitK [44] 0 k (l.drop (i + 1)) := by
        have hb : (Lib.index l [44] == -1) = false := by rw [h1, beq_eq_false_iff_ne]; omega
        rw [Lib.splitK, hb, h1]
        simp
      have ih := splitK_spF k (l.drop (i + 1))
      rw [e, h3]
      refine ⟨fun h => ?_, fun h => ?_⟩
      · rw [ih.1 (by simpa using h)]
      · rw [List.length_cons, ih.2 (by simpa using h)]

theorem spF_sum : ∀ l : List UInt8, ((spF l).map fun t => t.length + 1).sum = l.length + 1
  | [] => rfl
  | x :: t => by
    have ih := spF_sum t
    unfold spF
    split
    · simp [ih]; omega
    · split
      · rename_i h; exact absurd h (spF_ne t)
      · rename_i h r hh
        rw [hh] at ih
        simp at ih ⊢
        omega

theorem spF_le : ∀ l : List UInt8, (spF l).length ≤ l.length + 1
  | [] => by simp [spF]
  | x :: t => by
    have ih := spF_le t
    unfold spF
    split
    · simp; omega
    · split
      · simp
      · rename_i h r hh; rw [hh] at ih; simp at ih ⊢; omega

/-- From where the piece under way begins, behind i bytes. -/
def fr (l : List UInt8) : Nat → Nat | 0 => 0 | i + 1 => if l.getD i 0 = 44 then i + 1 else fr l i
/-- The pieces that are over, behind i bytes. -/
def dn (l : List UInt8) : Nat → List (List UInt8) | 0 => [] | i + 1 => if l.getD i 0 = 44 then dn l i ++ [(l.drop (fr l i)).take (i - fr l i)] else dn l i
theorem fr_le (l : List UInt8) : ∀ i, fr l i ≤ i
  | 0 => Nat.le_refl _
  | i + 1 => by have := fr_le l i; unfold fr; split <;> omega
theorem dn_le (l : List UInt8) : ∀ i, (dn l i).length ≤ i
  | 0 => Nat.le_refl _
  | i + 1 => by have := dn_le l i; unfold dn; split <;> simp <;> omega

def hdp (p : List UInt8) : List (List UInt8) → List (List UInt8) | [] => [p] | h :: r => (p ++ h) :: r

theorem spF_dn (l : List UInt8) : ∀ i, i ≤ l.length → spF l = dn l i ++ hdp ((l.drop (fr l i)).take (i - fr l i)) (spF (l.drop i))
  | 0, _ => by
    cases h : spF l with
    | nil => exact absurd h (spF_ne l)
    | cons a r => simp [dn, fr, hdp, h]
  | i + 1, h => by
    have ih := spF_dn l i (by omega)
    have hfr := fr_le l i
    have hd : l.drop i = l.getD i 0 :: l.drop (i + 1) := by
      rw [List.drop_eq_getElem_cons (by omega)]
      simp [List.getD_eq_getElem?_getD, show i < l.length by omega]
    rw [ih, hd]
    by_cases hx : l.getD i 0 = 44
    · rw [spF, if_pos hx]
      have e1 : fr l (i + 1) = i + 1 := by rw [fr, if_pos hx]
      have e2 : dn l (i + 1) = dn l i ++ [(l.drop (fr l i)).take (i - fr l i)] := by rw [dn, if_pos hx]
      rw [e1, e2]
      cases hs : spF (l.drop (i + 1)) with
      | nil => exact absurd hs (spF_ne _)
      | cons a r => simp [hdp]
    · rw [spF, if_neg hx]
      have e1 : fr l (i + 1) = fr l i := by rw [fr, if_neg hx]
      have e2 : dn l (i + 1) = dn l i := by rw [dn, if_neg hx]
      rw [e1, e2]
      cases hs : spF (l.drop (i + 1)) with
      | nil => exact absurd hs (spF_ne _)
      | cons a r =>
        have e3 : (l.drop (fr l i)).take (i + 1 - fr l i) = (l.drop (fr l i)).take (i - fr l i) ++ [l.getD i 0] := by
          rw [show i + 1 - fr l i = (i - fr l i) + 1 by omega, List.take_succ_eq_append_getElem (by simp; omega)]
          congr 2
          simp [List.getD_eq_getElem?_getD, show i < l.length by omega, show fr l i + (i - fr l i) = i by omega]
        rw [e3]
        simp [hdp]

theorem spF_end (l : List UInt8) : spF l = dn l l.length ++ [l.drop (fr l l.length)] := by
  have h := spF_dn l l.length (Nat.le_refl _)
  rw [List.drop_length] at h
  rw [h]
  simp [spF, hdp, List.take_of_length_le]


/-- A piece of three bytes with a sign in the middle. -/
def tri (t : List UInt8) : Bool := t.length == 3 && (t.getD 1 0 == 61 || t.getD 1 0 == 35)
/-- Such a piece as a claim. -/
def cp (t : List UInt8) : Snd := (((t.getD 0 0).toNat : Int) - 48, ((t.getD 2 0).toNat : Int) - 48, t.getD 1 0 == 61)
theorem sum_tri (q : List (List UInt8)) (h : q.all tri = true) : (q.map fun t => t.length + 1).sum = 4 * q.length := by
  induction q with
  | nil => rfl
  | cons t r ih =>
    simp only [List.all_cons, Bool.and_eq_true, tri, beq_iff_eq] at h
    have h2 := ih (by simpa [tri] using h.2)
    simp only [List.map_cons, List.sum_cons, List.length_cons, h2, h.1.1]
    omega
def iOK (q : List (List UInt8)) : Bool := q.all tri && clB 8 (q.map cp)
def pOK (l : List UInt8) : Bool := decide (l.length ≤ 80) && iOK (spF l)
def qOf (l : List UInt8) : List (List UInt8) := Lib.splitK [44] 0 (min 21 (l.length + 1) - 1) l
theorem iOK_len {q : List (List UInt8)} (h : 20 < q.length) : iOK q = false := by
  have : clB 8 (q.map cp) = false := by
    simp only [clB, List.length_map, decide_eq_false (show ¬ q.length ≤ 20 by omega), Bool.false_and, Bool.and_false]
  unfold iOK; rw [this, Bool.and_false]
theorem iOK_pOK (l : List UInt8) : iOK (qOf l) = pOK l ∧ (pOK l = true → qOf l = spF l) := by
  have hk := splitK_spF (min 21 (l.length + 1) - 1) l
  have hle := spF_le l
  by_cases h : (spF l).length ≤ min 21 (l.length + 1) - 1 + 1
  · have e : qOf l = spF l := hk.1 h
    refine ⟨?_, fun _ => e⟩
    rw [e, pOK]
    cases hi : iOK (spF l)
    · simp
    · have h2 := hi
      simp only [iOK, Bool.and_eq_true] at h2
      have h3 := sum_tri _ h2.1
      rw [spF_sum] at h3
      have h4 := (cl_parts h2.2).2.1
      rw [List.length_map] at h4
      simp; omega
  · have h2 : min 21 (l.length + 1) - 1 + 1 < (spF l).length := by omega
    have h3 := hk.2 h2
    have hq : (qOf l).length = 21 := by unfold qOf; rw [h3]; omega
    have e1 := iOK_len (q := qOf l) (by omega)
    have e2 := iOK_len (q := spF l) (by omega)
    rw [e1, pOK, e2, Bool.and_false]
    exact ⟨rfl, fun h => by cases h⟩
def pB (l : List UInt8) : Bool := l.isEmpty || pOK l
def pR (l : List UInt8) : List Snd := if l.isEmpty then [] else if pOK l then (spF l).map cp else []
theorem pR_length (l : List UInt8) : (pR l).length ≤ 1000 := by
  unfold pR
  split
  · simp
  · split
    · rename_i h
      simp only [pOK, iOK, Bool.and_eq_true] at h
      have := (cl_parts h.2.2).2.1
      omega
    · simp
theorem pR_no {l : List UInt8} (h : pOK l = false) : pR l = [] := by unfold pR; rw [h]; split <;> rfl
theorem pR_yes {l : List UInt8} (h0 : l.isEmpty = false) (h : pOK l = true) : pR l = (spF l).map cp := by unfold pR; rw [h0, h]; rfl
theorem pB_some {l : List UInt8} (h : l.isEmpty = false) : pB l = pOK l := by rw [pB, h]; rfl
theorem nonempty_of {s : ByteArray} {l : List UInt8} (h : l = s.data.toList) (h0 : 0 < s.size) : s.toList.isEmpty = false ∧ l.isEmpty = false := by
  have hl : l.length = s.size := by rw [h]; simp
  rw [ByteArray.toList_eq, ← h]
  cases l with
  | nil => simp at hl; omega
  | cons _ _ => exact ⟨rfl, rfl⟩
theorem empty_of {s : ByteArray} {l : List UInt8} (h : l = s.data.toList) (h0 : s.size = 0) : s.toList.isEmpty = true ∧ l = [] := by
  have hl : l.length = s.size := by rw [h]; simp
  have : l = [] := List.eq_nil_of_length_eq_zero (by omega)
  rw [ByteArray.toList_eq, ← h, this]
  exact ⟨rfl, rfl⟩
theorem piece_size (t : List UInt8) : (⟨t.toArray⟩ : ByteArray).size = t.length := by simp [ByteArray.size]
theorem piece_get (t : List UInt8) (k : Nat) (h : k < (⟨t.toArray⟩ : ByteArray).size) : (⟨t.toArray⟩ : ByteArray)[k]'h = t.getD k 0 := by
  have h2 : k < t.length := by rw [piece_size] at h; exact h
  have h3 : (⟨t.toArray⟩ : ByteArray)[k]'h = t.toArray[k]'(by simpa using h2) := rfl
  rw [h3]; simp [List.getD_eq_getElem?_getD, h2]
theorem piece_cut (t : List UInt8) (h : t.length = 3) : (⟨t.toArray⟩ : ByteArray).extract 1 2 = ⟨#[t.getD 1 0]⟩ := by
  rw [Lib.extract_mk]
  match t, h with
  | [a, b, c], _ => rfl
theorem wrapb (b : UInt8) : IntKind.i64.wrap (b.toNat : Int) = (b.toNat : Int) := IntWalk.i64_in _ (by have := b.toNat_lt; omega)
theorem wrap48 (b : UInt8) : IntKind.i64.wrap ((b.toNat : Int) - 48) = (b.toNat : Int) - 48 := IntWalk.i64_in _ (by have := b.toNat_lt; omega)

end Go.Proofs.YtphnpphkiiedfaaDoor
