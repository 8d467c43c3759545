/- Who can hear from whom along arrows. -/
import Derived.Test.YtolkfgjgnpjpkaaSame
namespace Go.Proofs.Ytolkfgjgnpjpkaa
open Go.ChangeShapes Go.WideShapes Go.ChangeAt Go.RowKit
set_option linter.unusedVariables false

theorem pc_or_same {x y : Nat} (hx : x < 1024) (hy : y < 1024) : pc (x ||| y) = pc x ↔ x = x ||| y := by
  have hxy : x ||| y < 1024 := Nat.or_lt_two_pow (n := 10) hx hy
  constructor
  · intro h
    have h1 := (pc_sub (a := x) (b := x ||| y) 10 (fun i _ hi => by rw [Nat.testBit_or, hi, Bool.true_or])).2 h.symm
    apply Nat.eq_of_testBit_eq
    intro i
    by_cases hi : i < 10
    · exact h1 i hi
    · have hp : 2 ^ 10 ≤ 2 ^ i := Nat.pow_le_pow_right (by decide) (by omega)
      rw [Nat.testBit_lt_two_pow (by omega), Nat.testBit_lt_two_pow (by omega)]
  · intro h; rw [← h]def cntTo (s : Nat → Nat) : Nat → Nat | 0 => 0 | k + 1 => cntTo s k + pc (s k)

theorem pc_le : ∀ n : Fin 1024, pc n.val ≤ 10 := by decide +kernel

theorem cntTo_le (s : Nat → Nat) (hs : ∀ i, s i < 1024) : ∀ k, cntTo s k ≤ 10 * k := by
  intro k
  induction k with
  | zero => simp [cntTo]
  | succ k ih => have := pc_le ⟨s k, hs k⟩; simp only at this; simp only [cntTo]; omega

theorem cnt_upd (s : Nat → Nat) (i v : Nat) : ∀ k, (i < k → cntTo (upd s i v) k + pc (s i) = cntTo s k + pc v) ∧ (k ≤ i → cntTo (upd s i v) k = cntTo s k) := by
  intro k
  induction k with
  | zero => exact ⟨fun h => absurd h (by omega), fun _ => rfl⟩
  | succ k ih =>
    simp only [cntTo]
    refine ⟨fun h => ?_, fun h => ?_⟩
    · by_cases hik : i = k
      · subst hik
        have := ih.2 (Nat.le_refl _)
        have e : upd s i v i = v := by simp [upd]
        rw [e]
        omega
      · have := ih.1 (by omega)
        have e : upd s i v k = s k := by simp [upd, Ne.symm hik]
        rw [e]
        omega
    · have := ih.2 (by omega)
      have e : upd s i v k = s k := by simp [upd]; omega
      rw [e, this]

/-- From one friend news come to another along arrows. -/
inductive Path (l : List (Int × Int)) : Nat → Nat → Prop
  | refl (x : Nat) : Path l x x
  | step {x z y : Nat} (i : Nat) (hi : i < l.length) (ha : ca l i = x) (hb : cb l i = z) (p : Path l z y) : Path l x y
theorem Path.snoc {l : List (Int × Int)} {x y : Nat} (p : Path l x y) : ∀ {z : Nat} (i : Nat), i < l.length → ca l i = y → cb l i = z → Path l x z := by
  induction p with
  | refl x => intro z i hi ha hb; exact .step i hi ha hb (.refl z)
  | step j hj hja hjb _ ih => intro z i hi ha hb; exact .step j hj hja hjb (ih i hi ha hb)

/-- These are the friends, as digits, who can hear from x. -/
def IsHr (F : Nat) (l : List (Int × Int)) (x s : Nat) : Prop := s < 2 ^ F ∧ ∀ j, s.testBit j = true ↔ (j < F ∧ Path l x j)
theorem IsHr.unique {F : Nat} {l : List (Int × Int)} {x s t : Nat} (h1 : IsHr F l x s) (h2 : IsHr F l x t) : s = t := by
  apply Nat.eq_of_testBit_eq
  intro i
  rw [Bool.eq_iff_iff, h1.2 i, h2.2 i]
open Classical in
/-- The friends, as digits, who can hear from x. -/
noncomputable def hr (F : Nat) (l : List (Int × Int)) (x : Nat) : Nat := if h : ∃ s, IsHr F l x s then Classical.choose h else 0
theorem hr_eq {F : Nat} {l : List (Int × Int)} {x s : Nat} (h : IsHr F l x s) : hr F l x = s := by
  have hex : ∃ s, IsHr F l x s := ⟨s, h⟩
  unfold hr
  rw [dif_pos hex]
  exact (Classical.choose_spec hex).unique h

theorem bit_lt {F s j : Nat} (h : s < 2 ^ F) (hb : s.testBit j = true) : j < F := by
  rcases Nat.lt_or_ge j F with h1 | h1
  · exact h1
  · rw [Nat.testBit_lt_two_pow (Nat.lt_of_lt_of_le h (Nat.pow_le_pow_right (by decide) h1))] at hb
    cases hb

/-- What the model holds between two arrows: digits are of friends who hear, each hears the own news. -/
def Hd0 (F : Nat) (l : List (Int × Int)) (s : Nat → Nat) : Prop := (∀ i, s i < 2 ^ F) ∧ (∀ i j, i < F → (s i).testBit j = true → Path l i j) ∧ ∀ i, i < F → (s i).testBit i = true
theorem Hd0.start (F : Nat) (l : List (Int × Int)) : Hd0 F l (own0 F) := by
  refine ⟨own0_lt F, fun i j hi hb => ?_, fun i hi => ?_⟩
  · simp only [own0, hi, if_true, Nat.testBit_two_pow, decide_eq_true_eq] at hb
    subst hb; exact .refl i
  · simp only [own0, hi, if_true, Nat.testBit_two_pow_self]
theorem Hd0.next {F : Nat} {l : List (Int × Int)} {s : Nat → Nat} (h : Hd0 F l s) {x z i : Nat} (hi : i < l.length) (ha : ca l i = x) (hb : cb l i = z) (hx : x < F) (hz : z < F) : Hd0 F l (upd s x (s x ||| s z)) := by
  refine ⟨upd_lt h.1 (Nat.or_lt_two_pow (h.1 _) (h.1 _)) _, fun k j hk hbit => ?_, fun k hk => ?_⟩
  · by_cases e : k = x
    · subst e
      rw [upd_same, Nat.testBit_or, Bool.or_eq_true] at hbit
      rcases hbit with hbit | hbit
      · exact h.2.1 _ _ hk hbit
      · exact .step i hi ha hb (h.2.1 _ _ hz hbit)
    · simp only [upd, e, if_false] at hbit
      exact h.2.1 _ _ hk hbit
  · by_cases e : k = x
    · subst e
      rw [upd_same, Nat.testBit_or, h.2.2 k hk, Bool.true_or]
    · simp only [upd, e, if_false]
      exact h.2.2 k hk
/-- No arrow of the first n tells anything new. -/
def Shut (l : List (Int × Int)) (s : Nat → Nat) (n : Nat) : Prop := ∀ i, i < n → ∀ x z : Nat, ca l i = x → cb l i = z → s x ||| s z = s x
theorem Hd0.done {F : Nat} {l : List (Int × Int)} {s : Nat → Nat} (h : Hd0 F l s) (hf : Fit F l.length l) (hs : Shut l s l.length) : ∀ x, x < F → IsHr F l x (s x) := by
  have key : ∀ {x y : Nat}, Path l x y → x < F → (s x).testBit y = true := by
    intro x y p
    induction p with
    | refl y => intro hy; exact h.2.2 y hy
    | @step y z t i hi ha hb _ ih =>
      intro hy
      have hfi := hf i hi
      have hz : z < F := by omega
      rw [← hs i hi y z ha hb, Nat.testBit_or, ih hz, Bool.or_true]
  intro x hx
  exact ⟨h.1 x, fun j => ⟨fun hb => ⟨bit_lt (h.1 x) hb, h.2.1 x j hx hb⟩, fun ⟨_, p⟩ => key p hx⟩⟩
theorem Shut.succ {l : List (Int × Int)} {s : Nat → Nat} {k x z : Nat} (h : Shut l s k) (ha : ca l k = x) (hb : cb l k = z) (he : s x ||| s z = s x) : Shut l s (k + 1) := by
  intro i hi x' z' ha' hb'
  by_cases hik : i = k
  · subst hik
    obtain rfl : x = x' := by omega
    obtain rfl : z = z' := by omega
    exact he
  · exact h i (by omega) x' z' ha' hb'
theorem cnt_more {F x : Nat} {s : Nat → Nat} {v : Nat} (hx : x < F) (hlt : ∀ i, s i < 1024) (hv : v < 1024) (hne : ¬ s x ||| v = s x) : cntTo s F < cntTo (upd s x (s x ||| v)) F := by
  have h1 := (cnt_upd s x (s x ||| v) F).1 hx
  have h2 := (pc_sub (a := s x) (b := s x ||| v) 10 (fun i _ hi => by rw [Nat.testBit_or, hi, Bool.true_or])).1
  rw [pcTo_ten, pcTo_ten] at h2
  have h3 : pc (s x ||| v) ≠ pc (s x) := fun e => hne ((pc_or_same (hlt x) hv).1 e).symm
  omega

end Go.Proofs.Ytolkfgjgnpjpkaa
