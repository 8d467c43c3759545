/- How many know the news at a minute. -/
import Derived.Test.YtghfkgbmmkcjhaaInts
namespace Go.Proofs.Ytghfkgbmmkcjhaa
open Go.ChangeShapes Go.WideShapes Go.ChangeAt Go.RowKit
set_option linter.unusedVariables false


/-- How many know the news at a minute. -/
def inf (d t : Nat) : Nat := if t < d ∨ d = 0 then 1 else inf d (t - 1) + inf d (t - d)
termination_by t
decreasing_by all_goals omega

theorem inf_lo {d t : Nat} (h : t < d) : inf d t = 1 := by rw [inf, if_pos (.inl h)]
theorem inf_hi {d t : Nat} (h0 : 1 ≤ d) (h : d ≤ t) : inf d t = inf d (t - 1) + inf d (t - d) := by rw [inf, if_neg (by omega)]
theorem inf_pos (d : Nat) : ∀ t, 1 ≤ inf d t := by
  intro t
  induction t using Nat.strongRecOn with
  | _ t ih =>
    by_cases h : t < d ∨ d = 0
    · rw [inf, if_pos h]; omega
    · rw [inf, if_neg h]
      have := ih (t - 1) (by omega)
      omega
theorem inf_step {d : Nat} (h0 : 1 ≤ d) (t : Nat) : inf d t ≤ inf d (t + 1) := by
  by_cases h : t + 1 < d
  · rw [inf_lo h, inf_lo (by omega)]; omega
  · rw [inf_hi h0 (t := t + 1) (by omega), Nat.add_sub_cancel]; omega
theorem inf_mono {d : Nat} (h0 : 1 ≤ d) {s t : Nat} (h : s ≤ t) : inf d s ≤ inf d t := by
  induction t with
  | zero => obtain rfl : s = 0 := by omega
            exact Nat.le_refl _
  | succ t ih =>
    by_cases hs : s = t + 1
    · subst hs; exact Nat.le_refl _
    · exact Nat.le_trans (ih (by omega)) (inf_step h0 t)
theorem inf_pow {d : Nat} (h0 : 1 ≤ d) : ∀ t, inf d t ≤ 2 ^ t := by
  intro t
  induction t with
  | zero => rw [inf_lo (by omega)]; simp
  | succ t ih =>
    by_cases h : t + 1 < d
    · rw [inf_lo h]; exact Nat.one_le_two_pow
    · rw [inf_hi h0 (t := t + 1) (by omega), Nat.add_sub_cancel, Nat.pow_succ]
      have := inf_mono h0 (s := t + 1 - d) (t := t) (by omega)
      omega
theorem inf_ge {d : Nat} (h0 : 1 ≤ d) : ∀ t, d ≤ t + 1 → t + 2 ≤ inf d t + d := by
  intro t
  induction t with
  | zero => intro h; obtain rfl : d = 1 := by omega
            rw [inf_lo (by omega)]; exact Nat.le_refl _
  | succ t ih =>
    intro h
    by_cases h1 : t + 1 < d
    · rw [inf_lo h1]; omega
    · rw [inf_hi h0 (t := t + 1) (by omega), Nat.add_sub_cancel]
      have := ih (by omega)
      have := inf_pos d (t + 1 - d)
      omega
theorem pow61 {t : Nat} (h : t ≤ 61) : 2 ^ t ≤ 2305843009213693952 := Nat.le_trans (Nat.pow_le_pow_right (by omega) h) (by decide)

/-- The first m of so many numbers, the others 0. -/
def il (d M m : Nat) : List Int := (List.range (M + 1)).map fun j => if j < m then (inf d j : Int) else 0
theorem il_length (d M m : Nat) : (il d M m).length = M + 1 := by simp [il]
theorem il_zero (d M : Nat) : il d M 0 = List.replicate (M + 1) 0 := by
  apply List.ext_getElem
  · simp [il]
  · intro i h1 h2; simp [il]
theorem il_get (d M m j : Nat) (h : j ≤ M) : na (il d M m) j = if j < m then (inf d j : Int) else 0 := by
  simp [na, il, List.getD_eq_getElem?_getD, List.getElem?_map, List.getElem?_range (show j < M + 1 by omega)]
theorem il_set (d M m : Nat) (h : m ≤ M) : (il d M m).set m (inf d m : Int) = il d M (m + 1) := by
  apply List.ext_getElem
  · simp [il]
  · intro i h1 h2
    rw [List.getElem_set]
    simp only [il, List.getElem_map, List.getElem_range]
    by_cases e : m = i
    · subst e; simp
    · rw [if_neg e]
      by_cases h3 : i < m
      · rw [if_pos h3, if_pos (by omega)]
      · rw [if_neg h3, if_neg (by omega)]
theorem il_set2 (d M m : Nat) (x : Int) (h : m ≤ M) : ((il d M m).set m x).set m (inf d m : Int) = il d M (m + 1) := by
  rw [List.set_set]; exact il_set d M m h
/-- The numbers up to a minute. -/
def iL (d k : Nat) : List Int := (List.range k).map fun j => (inf d j : Int)
theorem iL_length (d k : Nat) : (iL d k).length = k := by simp [iL]
theorem iL_zero (d : Nat) : iL d 0 = [] := rfl
theorem iL_succ (d k : Nat) : iL d (k + 1) = iL d k ++ [(inf d k : Int)] := by simp [iL, List.range_succ]
theorem iL_get (d k j : Nat) (h : j < k) : na (iL d k) j = (inf d j : Int) := by
  simp [na, iL, List.getD_eq_getElem?_getD, List.getElem?_map, List.getElem?_range h]

end Go.Proofs.Ytghfkgbmmkcjhaa
