/- Friends in groups all of which can hear from each other. -/
import Derived.Test.YtolkfgjgnpjpkaaHeardB
namespace Go.Proofs.Ytolkfgjgnpjpkaa
open Go.ChangeShapes Go.WideShapes Go.ChangeAt Go.RowKit
set_option linter.unusedVariables false


theorem Path.trans' {l : List (Int × Int)} {x y : Nat} (p : Path l x y) : ∀ {z : Nat}, Path l y z → Path l x z := by
  induction p with
  | refl x => intro z q; exact q
  | step i hi ha hb _ ih => intro z q; exact .step i hi ha hb (ih q)

/-- A friend is the first one of the group. -/
def rep (m : Nat → Nat → Bool) (i : Nat) : Bool := (List.range i).all fun j => !m j i
def grp (m : Nat → Nat → Bool) (k i : Nat) : List Int := ((List.range k).filter (m i)).map fun (j : Nat) => (j : Int)
def grps (m : Nat → Nat → Bool) (F k : Nat) : List (List Int) := ((List.range k).filter (rep m)).map (grp m F)
/-- Whom an earlier first one has. -/
def seenB (m : Nat → Nat → Bool) (i j : Nat) : Bool := (List.range i).any fun i' => rep m i' && m i' j
theorem grp_yes {m : Nat → Nat → Bool} {k i : Nat} (h : m i k = true) : grp m (k + 1) i = grp m k i ++ [(k : Int)] := by simp [grp, List.range_succ, h]
theorem grp_no {m : Nat → Nat → Bool} {k i : Nat} (h : m i k = false) : grp m (k + 1) i = grp m k i := by simp [grp, List.range_succ, h]
theorem grp_le (m : Nat → Nat → Bool) (k i : Nat) : (grp m k i).length ≤ k := by
  have := List.length_filter_le (m i) (List.range k)
  simpa [grp] using this
theorem grps_yes {m : Nat → Nat → Bool} {F k : Nat} (h : rep m k = true) : grps m F (k + 1) = grps m F k ++ [grp m F k] := by simp [grps, List.range_succ, h]
theorem grps_no {m : Nat → Nat → Bool} {F k : Nat} (h : rep m k = false) : grps m F (k + 1) = grps m F k := by simp [grps, List.range_succ, h]
theorem grps_le (m : Nat → Nat → Bool) (F k : Nat) : (grps m F k).length ≤ k := by
  have := List.length_filter_le (rep m) (List.range k)
  simpa [grps] using this
theorem grps_row (m : Nat → Nat → Bool) (F k : Nat) : ∀ i, (row (grps m F k) i).length ≤ F := by
  intro i
  simp only [row, List.getD_eq_getElem?_getD]
  cases h : (grps m F k)[i]? with
  | none => simp
  | some l =>
    have hm := List.mem_of_getElem? h
    obtain ⟨j, _, rfl⟩ := List.mem_map.1 hm
    exact grp_le m F j
theorem seen_yes {m : Nat → Nat → Bool} {i j : Nat} (h : rep m i = true) : seenB m (i + 1) j = (seenB m i j || m i j) := by simp [seenB, List.range_succ, h]
theorem seen_no {m : Nat → Nat → Bool} {i j : Nat} (h : rep m i = false) : seenB m (i + 1) j = seenB m i j := by simp [seenB, List.range_succ, h]

/-- To be in one group. -/
structure Eqv (F : Nat) (m : Nat → Nat → Bool) : Prop where
  rfl' : ∀ i, i < F → m i i = true
  sym : ∀ i j, m i j = m j i
  trn : ∀ i j k, i < F → j < F → k < F → m i j = true → m j k = true → m i k = true
theorem Eqv.first {F : Nat} {m : Nat → Nat → Bool} (h : Eqv F m) : ∀ i, i < F → ∃ r, r ≤ i ∧ rep m r = true ∧ m r i = true := by
  intro i
  induction i using Nat.strongRecOn with
  | _ i ih =>
    intro hi
    cases hr : rep m i
    · have : ∃ j, j < i ∧ m j i = true := by
        simp only [rep, List.all_eq_false, List.mem_range, Bool.not_eq_true', Bool.not_eq_false] at hr
        obtain ⟨j, hj, hm⟩ := hr
        exact ⟨j, hj, by simpa using hm⟩
      obtain ⟨j, hj, hm⟩ := this
      obtain ⟨r, h1, h2, h3⟩ := ih j hj (by omega)
      exact ⟨r, by omega, h2, h.trn r j i (by omega) (by omega) hi h3 hm⟩
    · exact ⟨i, Nat.le_refl _, hr, h.rfl' i hi⟩
theorem Eqv.seen {F : Nat} {m : Nat → Nat → Bool} (h : Eqv F m) {i : Nat} (hi : i < F) : seenB m i i = !rep m i := by
  cases hr : rep m i
  · obtain ⟨r, h1, h2, h3⟩ := h.first i hi
    have hlt : r < i := by
      rcases Nat.lt_or_ge r i with h4 | h4
      · exact h4
      · obtain rfl : r = i := by omega
        rw [hr] at h2; cases h2
    simp only [seenB, Bool.not_false, List.any_eq_true, List.mem_range, Bool.and_eq_true]
    exact ⟨r, hlt, h2, h3⟩
  · simp only [seenB, Bool.not_true, List.any_eq_false, List.mem_range, Bool.and_eq_true]
    rintro j hj ⟨_, hm⟩
    simp only [rep, List.all_eq_true, List.mem_range] at hr
    have := hr j hj
    rw [hm] at this
    cases this
theorem Eqv.head {F : Nat} {m : Nat → Nat → Bool} (h : Eqv F m) {i : Nat} (hi : i < F) : 0 < (grp m F i).length ∧ (na (grp m F i) 0 == (i : Int)) = rep m i := by
  have hin : i ∈ (List.range F).filter (m i) := List.mem_filter.2 ⟨List.mem_range.2 hi, h.rfl' i hi⟩
  have hpos : 0 < ((List.range F).filter (m i)).length := List.length_pos_of_mem hin
  refine ⟨by simpa [grp] using hpos, ?_⟩
  obtain ⟨x, t, hx⟩ : ∃ x t, (List.range F).filter (m i) = x :: t := by
    cases hc : (List.range F).filter (m i) with
    | nil => rw [hc] at hpos; simp at hpos
    | cons x t => exact ⟨x, t, rfl⟩
  have hxm : x ∈ (List.range F).filter (m i) := by rw [hx]; simp
  have hxF := (List.mem_filter.1 hxm)
  have hsort : (x :: t).Pairwise (· < ·) := by rw [← hx]; exact List.Pairwise.filter _ List.pairwise_lt_range
  have hle : ∀ y ∈ (List.range F).filter (m i), x ≤ y := by
    intro y hy
    rw [hx] at hy
    rcases List.mem_cons.1 hy with rfl | hy
    · exact Nat.le_refl _
    · exact Nat.le_of_lt ((List.pairwise_cons.1 hsort).1 y hy)
  have hn : na (grp m F i) 0 = (x : Int) := by simp [na, grp, hx]
  rw [hn, Bool.eq_iff_iff, beq_iff_eq]
  constructor
  · intro e
    have e' : x = i := by omega
    simp only [rep, List.all_eq_true, List.mem_range, Bool.not_eq_true']
    intro j hj
    cases hm : m j i
    · rfl
    · have := hle j (List.mem_filter.2 ⟨List.mem_range.2 (by omega), by rw [h.sym]; exact hm⟩)
      omega
  · intro hr
    have h1 := hle i hin
    rcases Nat.lt_or_ge x i with h2 | h2
    · simp only [rep, List.all_eq_true, List.mem_range] at hr
      have h3 := hr x h2
      rw [h.sym, hxF.2] at h3
      cases h3
    · have : x = i := by omega
      rw [this]

/-- Each hears from the other. -/
def mu (h : Nat → Nat) (i j : Nat) : Bool := (h i).testBit j && (h j).testBit i
theorem mu_eqv {F : Nat} {l : List (Int × Int)} {h : Nat → Nat} (hh : ∀ x, x < F → IsHr F l x (h x)) : Eqv F (mu h) where
  rfl' := fun i hi => by
    have : (h i).testBit i = true := ((hh i hi).2 i).2 ⟨hi, .refl i⟩
    simp [mu, this]
  sym := fun i j => Bool.and_comm _ _
  trn := fun i j k hi hj hk h1 h2 => by
    simp only [mu, Bool.and_eq_true] at h1 h2 ⊢
    have p1 := (((hh i hi).2 j).1 h1.1).2
    have p2 := (((hh j hj).2 i).1 h1.2).2
    have p3 := (((hh j hj).2 k).1 h2.1).2
    have p4 := (((hh k hk).2 j).1 h2.2).2
    exact ⟨((hh i hi).2 k).2 ⟨hk, p1.trans' p3⟩, ((hh k hk).2 i).2 ⟨hi, p4.trans' p2⟩⟩
theorem one_group {F : Nat} {l : List (Int × Int)} {h : Nat → Nat} (h1 : 1 ≤ F) (hh : ∀ x, x < F → IsHr F l x (h x)) : ((grps (mu h) F F).length == 1) = allB F h := by
  have E := mu_eqv hh
  have r0 : rep (mu h) 0 = true := by simp [rep]
  have hbits : allB F h = true ↔ ∀ i j, i < F → j < F → (h i).testBit j = true := by
    simp only [allB, List.all_eq_true, List.mem_range, beq_iff_eq]
    constructor
    · intro ha i j hi hj
      rw [ha i hi, Nat.testBit_two_pow_sub_one]
      simpa using hj
    · intro ha i hi
      apply Nat.eq_of_testBit_eq
      intro j
      rw [Nat.testBit_two_pow_sub_one]
      by_cases hj : j < F
      · rw [ha i j hi hj]; simp [hj]
      · have : (h i).testBit j = false := by
          cases hb : (h i).testBit j
          · rfl
          · exact absurd (bit_lt (hh i hi).1 hb) hj
        rw [this]; simp [hj]
  have hlen : (grps (mu h) F F).length = ((List.range F).filter (rep (mu h))).length := by simp [grps]
  rw [Bool.eq_iff_iff, hbits, beq_iff_eq, hlen]
  have h0 : 0 ∈ (List.range F).filter (rep (mu h)) := List.mem_filter.2 ⟨List.mem_range.2 (by omega), r0⟩
  constructor
  · intro hl i j hi hj
    obtain ⟨a, ha⟩ := List.length_eq_one_iff.1 hl
    have ha0 : a = 0 := by rw [ha] at h0; have := List.mem_singleton.1 h0; omega
    have key : ∀ i, i < F → mu h 0 i = true := by
      intro i hi
      obtain ⟨r, h1, h2, h3⟩ := E.first i hi
      have hr : r ∈ (List.range F).filter (rep (mu h)) := List.mem_filter.2 ⟨List.mem_range.2 (by omega), h2⟩
      rw [ha, ha0] at hr
      obtain rfl : r = 0 := by simpa using hr
      exact h3
    have k1 := key i hi
    rw [E.sym] at k1
    have k2 := E.trn i 0 j hi (by omega) hj k1 (key j hj)
    simp only [mu, Bool.and_eq_true] at k2
    exact k2.1
  · intro ha
    have e : (List.range F).filter (rep (mu h)) = [0] := by
      obtain ⟨n, rfl⟩ : ∃ n, F = n + 1 := ⟨F - 1, by omega⟩
      rw [List.range_succ_eq_map, List.filter_cons, r0]
      simp only [if_true, List.cons.injEq, true_and]
      rw [List.filter_eq_nil_iff]
      intro x hx
      obtain ⟨y, hy, rfl⟩ := List.mem_map.1 hx
      have hyn := List.mem_range.1 hy
      intro hr
      simp only [rep, List.all_eq_true, List.mem_range] at hr
      have m1 := ha 0 (y + 1) (by omega) (by omega)
      have m2 := ha (y + 1) 0 (by omega) (by omega)
      have := hr 0 (by omega)
      simp [mu, m1, m2] at this
    rw [e]; rfl

end Go.Proofs.Ytolkfgjgnpjpkaa
