/- A text cut at each slash, and what rounds it is a text of. -/
import Derived.Test.YtjldfdaaoeomdaaDoorParseS
import Derived.Test.YtjldfdaaoeomdaaDoorRtS
namespace Go.Proofs.YtjldfdaaoeomdaaDoor
open Go.ChangeShapes Go.WideShapes Go.ChangeAt Go.RowKit
set_option linter.unusedVariables false


theorem spG_piece (l : List UInt8) : ∀ t ∈ spG l, t.length ≤ l.length := by
  have key : ∀ (n : Nat) (l : List UInt8), l.length ≤ n → ∀ t ∈ spG l, t.length ≤ l.length := by
    intro n
    induction n with
    | zero =>
      intro l hl t ht
      have : l = [] := List.eq_nil_of_length_eq_zero (by omega)
      subst this
      simp [spG] at ht
      subst ht; simp
    | succ n ih =>
      intro l hl t ht
      rcases spG_index l with ⟨_, h2⟩ | ⟨i, _, h2, h3⟩
      · rw [h2] at ht; simp at ht; subst ht; exact Nat.le_refl _
      · rw [h3] at ht
        rcases List.mem_cons.1 ht with rfl | ht
        · simp; omega
        · have := ih (l.drop (i + 1)) (by simp; omega) t ht
          simp at this; omega
  exact key l.length l (Nat.le_refl _)

theorem splitK_piece : ∀ (k : Nat) (l : List UInt8), ∀ t ∈ Lib.splitK [47] 0 k l, t.length ≤ l.length
  | 0, l => by intro t ht; simp [Lib.splitK] at ht; subst ht; exact Nat.le_refl _
  | k + 1, l => by
    intro t ht
    rcases spG_index l with ⟨h1, h2⟩ | ⟨i, h1, h2, h3⟩
    · have e : Lib.splitK [47] 0 (k + 1) l = [l] := by unfold Lib.splitK; rw [h1]; rfl
      rw [e] at ht; simp at ht; subst ht; exact Nat.le_refl _
    · have e : Lib.splitK [47] 0 (k + 1) l = l.take i :: Lib.splitK [47] 0 k (l.drop (i + 1)) := by
        have hb : (Lib.index l [47] == -1) = false := by rw [h1, beq_eq_false_iff_ne]; omega
        rw [Lib.splitK, hb, h1]
        simp
      rw [e] at ht
      rcases List.mem_cons.1 ht with rfl | ht
      · simp; omega
      · have := splitK_piece k (l.drop (i + 1)) t ht
        simp at this; omega

def qG (l : List UInt8) : List (List UInt8) := Lib.splitK [47] 0 (min 21 (l.length + 1) - 1) l
/-- These pieces are rounds. -/
def okQ (q : List (List UInt8)) : Bool := q.all pB && rndsB 10 (q.map pR)
def prOK (l : List UInt8) : Bool := okQ (spG l)
def prR (l : List UInt8) : List (List (Int × Int)) := if prOK l then (spG l).map pR else []

theorem okQ_eq (l : List UInt8) : okQ (qG l) = prOK l ∧ (prOK l = true → qG l = spG l) := by
  have hk := splitK_spG (min 21 (l.length + 1) - 1) l
  have hle := spG_le l
  by_cases h : (spG l).length ≤ min 21 (l.length + 1) - 1 + 1
  · have e : qG l = spG l := hk.1 h
    exact ⟨by rw [e]; rfl, fun _ => e⟩
  · have e : (qG l).length = min 21 (l.length + 1) - 1 + 1 := hk.2 (by omega)
    have hn : prOK l = false := by
      rw [prOK, okQ, rnds_len (by rw [List.length_map]; omega), Bool.and_false]
    refine ⟨?_, fun h => by rw [hn] at h; cases h⟩
    rw [hn, okQ, rnds_len (by rw [List.length_map]; omega), Bool.and_false]
/-- What rounds a text is of. -/
def rpB (l : List UInt8) : Bool := l == [46] || prOK l
def rpR (l : List UInt8) : List (List (Int × Int)) := if l == [46] then [] else prR l
theorem pR_len60 (t : List UInt8) : (pR t).length ≤ 60 := pR_length t
theorem rpR_rows (l : List UInt8) : ∀ i, (crow (rpR l) i).length ≤ 1048576 := by
  have key : ∀ M : List (List (Int × Int)), (∀ r ∈ M, r.length ≤ 60) → ∀ i, (crow M i).length ≤ 1048576 := by
    intro M hM i
    by_cases hi : i < M.length
    · have := hM (crow M i) (by rw [← crow_get hi]; exact List.getElem_mem hi)
      omega
    · rw [crow_none (by omega)]; simp
  apply key
  intro r hr
  unfold rpR prR at hr
  split at hr
  · simp at hr
  · split at hr
    · obtain ⟨t, _, rfl⟩ := List.mem_map.1 hr
      exact pR_length t
    · simp at hr
theorem rpR_len (l : List UInt8) : (rpR l).length ≤ 20 := by
  unfold rpR prR
  split
  · simp
  · cases h : prOK l
    · simp
    · simp only [prOK, okQ, Bool.and_eq_true] at h
      have := rnds_len20 h.2
      simpa using this

end Go.Proofs.YtjldfdaaoeomdaaDoor
