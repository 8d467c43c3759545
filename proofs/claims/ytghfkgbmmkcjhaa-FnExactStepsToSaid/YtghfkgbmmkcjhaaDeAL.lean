/- The model's arrivals: the pure part. -/
import Derived.Test.YtghfkgbmmkcjhaaArr
namespace Go.Proofs.Ytghfkgbmmkcjhaa
open Go.ChangeShapes Go.WideShapes Go.ChangeAt Go.RowKit
set_option linter.unusedVariables false


theorem av_has {d : Int} {l : List Snd} {k : Nat} (hd : 1 ≤ d) (hpos : ∀ s ∈ l.take k, 0 ≤ s.at) {x : Int} (hx : x ≠ 0) : (0 ≤ av d (l.take k) x) ↔ ∃ s ∈ l.take k, s.to = x := by
  unfold av
  cases e : lk (l.take k) x with
  | none =>
    simp only
    rw [if_neg hx]
    constructor
    · intro h; omega
    · rintro ⟨s, hs, h⟩; exact absurd h (lk_none e s hs)
  | some t =>
    obtain ⟨s, hs, h1, h2⟩ := lk_some e
    simp only
    constructor
    · intro _; exact ⟨s, hs, h1⟩
    · intro _; have := hpos s hs; omega
/-- Another one of the same person at the same minute. -/
def sameB (s q : Snd) : Bool := q.fr == s.fr && q.at == s.at
theorem meet_eq (s q : Snd) : meetB s q = (q.to == s.to || sameB s q) := rfl
theorem any_meet (s : Snd) (m : List Snd) : m.any (meetB s) = (m.any (fun q => q.to == s.to) || m.any (sameB s)) := by
  induction m with
  | nil => rfl
  | cons a m ih =>
    simp only [List.any_cons, ih, meet_eq]
    cases a.to == s.to <;> cases sameB s a <;> cases m.any (fun q => q.to == s.to) <;> simp
theorem ok_first {P : Int} {l : List Snd} {k : Nat} (hs : sdB P (lsn l k) = false) : okB P l k = false := by simp [okB, hs]
theorem ok_dup {P : Int} {l : List Snd} {k : Nat} (h : ∃ s ∈ l.take k, s.to = (lsn l k).to) : okB P l k = false := by
  obtain ⟨s, hs, e⟩ := h
  have : (l.take k).any (fun q => q.to == (lsn l k).to) = true := by rw [List.any_eq_true]; exact ⟨s, hs, by simpa using e⟩
  simp [okB, any_meet, this]
theorem ok_same {P : Int} {l : List Snd} {k j : Nat} (hj : j < k) (hk : k < l.length) (h : sameB (lsn l k) (lsn l j) = true) : okB P l k = false := by
  have hm : lsn l j ∈ l.take k := by
    rw [← lsn_get l j (by omega)]
    exact List.mem_take_iff_getElem.2 ⟨j, by omega, rfl⟩
  have : (l.take k).any (sameB (lsn l k)) = true := by rw [List.any_eq_true]; exact ⟨_, hm, h⟩
  simp [okB, any_meet, this]
theorem ok_all {P : Int} {l : List Snd} {k : Nat} (hk : k < l.length) (h1 : sdB P (lsn l k) = true) (h2 : ¬ ∃ s ∈ l.take k, s.to = (lsn l k).to) (h3 : ∀ j, j < k → sameB (lsn l k) (lsn l j) = false) : okB P l k = true := by
  have a1 : (l.take k).any (fun q => q.to == (lsn l k).to) = false := by
    rw [List.any_eq_false]
    intro s hs e
    exact h2 ⟨s, hs, by simpa using e⟩
  have a2 : (l.take k).any (sameB (lsn l k)) = false := by
    rw [List.any_eq_false]
    intro s hs e
    obtain ⟨j, hj, rfl⟩ := List.getElem_of_mem hs
    have hjk : j < k := by rw [List.length_take] at hj; omega
    rw [List.getElem_take, lsn_get l j (by omega), h3 j hjk] at e
    cases e
  simp [okB, any_meet, h1, a1, a2]
theorem ok2_no {d : Int} {l : List Snd} {j : Nat} (hj : j < l.length) (h : decide (0 ≤ av d l (lsn l j).fr ∧ av d l (lsn l j).fr ≤ (lsn l j).at) = false) : ok2B d l = false := by
  unfold ok2B; rw [List.all_eq_false]; exact ⟨j, List.mem_range.2 hj, by rw [h]; simp⟩
theorem ok2_yes {d : Int} {l : List Snd} (h : ∀ j, j < l.length → decide (0 ≤ av d l (lsn l j).fr ∧ av d l (lsn l j).fr ≤ (lsn l j).at) = true) : ok2B d l = true := by
  unfold ok2B; rw [List.all_eq_true]; exact fun j hj => h j (List.mem_range.1 hj)
theorem arB_yes {d P : Int} {l : List Snd} (h40 : l.length ≤ 40) (hv : ok1B P l = true) : arB d P l = ok2B d l := by simp [arB, h40, hv]
theorem arB_no {d P : Int} {l : List Snd} (hv : ok1B P l = false) : arB d P l = false := by simp [arB, hv]
/-- The first numbers of a row filled, the others 0. -/
def fp (P k : Nat) : List Int := (List.range P).map fun (i : Nat) => if i < k then (-1 : Int) else 0
theorem fp_length (P k : Nat) : (fp P k).length = P := by simp [fp]
theorem fp_zero (P : Nat) : fp P 0 = List.replicate P 0 := by
  apply List.ext_getElem
  · simp [fp]
  · intro i h1 h2; simp [fp]
theorem fp_set (P k : Nat) (h : k < P) : (fp P k).set k (-1) = fp P (k + 1) := by
  apply List.ext_getElem
  · simp [fp]
  · intro i h1 h2
    rw [List.getElem_set]
    simp only [fp, List.getElem_map, List.getElem_range]
    by_cases e : k = i
    · subst e; simp
    · rw [if_neg e]
      by_cases h3 : i < k
      · rw [if_pos h3, if_pos (by omega)]
      · rw [if_neg h3, if_neg (by omega)]
theorem fp_start (d : Int) (P : Nat) (l : List Snd) (hP : 0 < P) : (fp P P).set 0 0 = aL d P l 0 := by
  apply List.ext_getElem
  · simp [fp, aL]
  · intro i h1 h2
    rw [List.getElem_set]
    simp only [fp, aL, List.getElem_map, List.getElem_range]
    have hi : i < P := by simpa [fp] using h1
    by_cases e : 0 = i
    · subst e; simp [av, lk]
    · rw [if_neg e, if_pos hi]
      have : ¬ i = 0 := by omega
      simp [av, lk, this]
def arR (d : Int) (P : Nat) (l : List Snd) : List Int := if arB d P l then aL d P l l.length else []
theorem arR_len (d : Int) (P : Nat) (l : List Snd) : (arR d P l).length ≤ P := by unfold arR; split <;> simp [aL_length]

end Go.Proofs.Ytghfkgbmmkcjhaa
