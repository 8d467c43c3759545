/- Quick sends: the pure part. -/
import Derived.Test.YtghfkgbmmkcjhaaIA
import Derived.Test.YtghfkgbmmkcjhaaSndP
import Derived.Test.YtghfkgbmmkcjhaaSndH
namespace Go.Proofs.Ytghfkgbmmkcjhaa
open Go.ChangeShapes Go.WideShapes Go.ChangeAt Go.RowKit
set_option linter.unusedVariables false


/-- The sends of a minute by the first n people, when a have been made. -/
def seg (a n m : Nat) : List Snd := (List.range n).map fun (p : Nat) => ((p : Int), ((a + 1 + p : Nat) : Int), (m : Int))
theorem seg_length (a n m : Nat) : (seg a n m).length = n := by simp [seg]
theorem seg_succ (a n m : Nat) : seg a (n + 1) m = seg a n m ++ [((n : Int), ((a + 1 + n : Nat) : Int), (m : Int))] := by simp [seg, List.range_succ]
/-- How many are told in a minute. -/
def qC (d P a m : Nat) : Nat := min (inf d m) (P - 1 - a)
/-- The sends before a minute. -/
def qL (d P : Nat) : Nat → List Snd
  | 0 => []
  | m + 1 => qL d P m ++ seg (qL d P m).length (qC d P (qL d P m).length m) m
theorem qL_len (d P m : Nat) : (qL d P (m + 1)).length = (qL d P m).length + qC d P (qL d P m).length m := by simp [qL, seg_length]
theorem qL_le (d P : Nat) : ∀ m, (qL d P m).length ≤ P - 1
  | 0 => by simp [qL]
  | m + 1 => by have := qL_le d P m; rw [qL_len]; unfold qC; omega
theorem qL_inf {d P : Nat} (h1 : 1 ≤ d) : ∀ m, (qL d P m).length < P - 1 → (qL d P m).length + 1 = inf d (m + d - 1)
  | 0 => fun _ => by rw [inf_lo (by omega)]; simp [qL]
  | m + 1 => fun h => by
    rw [qL_len] at h ⊢
    have ih := qL_inf (P := P) h1 m (by omega)
    have e := inf_hi h1 (t := m + 1 + d - 1) (by omega)
    rw [show m + 1 + d - 1 - 1 = m + d - 1 by omega, show m + 1 + d - 1 - d = m by omega] at e
    rw [e, ← ih]
    unfold qC at h ⊢
    omega
theorem qL_more {d P m : Nat} (h : (qL d P m).length < P - 1) : (qL d P m).length < (qL d P (m + 1)).length := by
  rw [qL_len]; unfold qC; have := inf_pos d m; omega
theorem qL_ge (d P : Nat) : ∀ m, min m (P - 1) ≤ (qL d P m).length
  | 0 => by simp
  | m + 1 => by
    have ih := qL_ge d P m
    by_cases h : (qL d P m).length < P - 1
    · have := qL_more h; omega
    · rw [qL_len]; omega
theorem qL_full {d P m : Nat} (h : (qL d P m).length = P - 1) : qL d P (m + 1) = qL d P m := by
  have : qC d P (qL d P m).length m = 0 := by unfold qC; omega
  rw [qL, this]; simp [seg]
theorem qL_stay {d P m : Nat} (h : (qL d P m).length = P - 1) : ∀ k, qL d P (m + k) = qL d P m
  | 0 => rfl
  | k + 1 => by
    have ih := qL_stay h k
    rw [← Nat.add_assoc, qL_full (by rw [ih]; exact h), ih]
/-- The quick sends. -/
def qR0 (d P : Nat) : List Snd := qL d P P
theorem qR0_eq {d P m : Nat} (h : (qL d P m).length = P - 1) : qR0 d P = qL d P m := by
  have hP : (qL d P P).length = P - 1 := by have a := qL_ge d P P; have b := qL_le d P P; omega
  unfold qR0
  rcases Nat.le_total m P with hl | hl
  · obtain ⟨k, rfl⟩ := Nat.exists_eq_add_of_le hl
    exact qL_stay h k
  · obtain ⟨k, rfl⟩ := Nat.exists_eq_add_of_le hl
    exact (qL_stay hP k).symm
def qsB (d m : Int) : Bool := deB d && peB m
def qsR (d m : Int) : List Snd := if qsB d m then qR0 d.toNat m.toNat else []
theorem qsR_len (d m : Int) : (qsR d m).length ≤ 40 := by
  unfold qsR
  cases h : qsB d m
  · simp
  · simp only [qsB, Bool.and_eq_true] at h
    obtain ⟨P, rfl, h1, h2⟩ := pe_in h.2
    rw [if_pos rfl]
    have := qL_le d.toNat (P : Int).toNat (P : Int).toNat
    unfold qR0
    omega

end Go.Proofs.Ytghfkgbmmkcjhaa
