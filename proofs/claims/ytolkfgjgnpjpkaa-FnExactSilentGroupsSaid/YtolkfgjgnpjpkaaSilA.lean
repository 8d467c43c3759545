/- The groups of friends, and whether each can hear from each: the model and the program at every list. -/
import Derived.Test.YtolkfgjgnpjpkaaSilS
namespace Go.Proofs.Ytolkfgjgnpjpkaa
open Go.ChangeShapes Go.WideShapes Go.ChangeAt Go.RowKit
set_option linter.unusedVariables false


noncomputable def silR (f : Int) (l : List (Int × Int)) : List (List Int) := if arB f l then grps (mu (hr f.toNat l)) f.toNat f.toNat else []
theorem arB_fr {f : Int} {l : List (Int × Int)} (h : arB f l = true) : gdL f l = true ∧ 1 ≤ f ∧ f ≤ 8 := by
  simp only [arB, Bool.and_eq_true, decide_eq_true_eq] at h
  exact ⟨h.1, (gl_fr h.1).1, h.2⟩
theorem silR_length (f : Int) (l : List (Int × Int)) : (silR f l).length ≤ 1000 := by
  unfold silR
  cases h : arB f l
  · simp
  · have h1 := arB_fr h
    have h2 := grps_le (mu (hr f.toNat l)) f.toNat f.toNat
    rw [if_pos rfl]; omega
theorem silR_row (f : Int) (l : List (Int × Int)) : ∀ i, (row (silR f l) i).length ≤ 1000 := by
  intro i
  unfold silR
  cases h : arB f l
  · simp [row]
  · have h1 := arB_fr h
    have h2 := grps_row (mu (hr f.toNat l)) f.toNat f.toNat i
    rw [if_pos rfl]; omega

theorem specSil_any (w : World) (f : Int) (ao : Option Addr) (cap : Nat) (l : List (Int × Int)) (n : Nat) (Hn : Hid (n = l.length)) (hs : n ≤ 1048576) (Hc : CallsAt w ao l) :
    Calls Try.prog 61 #[.int .i64 f, .slice ao n cap] w fun e w' => ∃ v X, e = .returned (.tuple #[v, .bool (arB f l)]) ∧ OwnSS w' w.heap.size v X (silR f l) ∧ Below w.heap.size w w' := by
  have HHc := Lib.hid Hc
  clear Hc
  cases hg : arB f l
  · rw [show silR f l = [] by simp [silR, hg]]
    have Hg := Lib.hid hg
    clear hg
    go_enter Try.func61, Try.ntmps61
    go_wp2_with fail
    refine (leArrows_any f ao cap l n w Hn.out (by omega) HHc.out).mono ?_
    rintro e w1 ⟨rfl, hb⟩
    rw [Hg.out]
    go_wp2_with fail
    go_ret2
    exact ⟨_, [], rfl, OwnSS.nil _ _, hb⟩
  · have hff := arB_fr hg
    obtain ⟨F, rfl⟩ := Int.eq_ofNat_of_zero_le (show 0 ≤ f by omega)
    rw [show silR F l = grps (mu (hr F l)) F F by simp [silR, hg]]
    exact specSil_yes w F ao cap l n Hn hs HHc hg hff.1 (by omega) (by omega)

theorem implSil_any (w : World) (f : Int) (ao : Option Addr) (cap : Nat) (l : List (Int × Int)) (n : Nat) (Hn : Hid (n = l.length)) (hs : n ≤ 1048576) (Hc : CallsAt w ao l) :
    Calls Try.prog 62 #[.int .i64 f, .slice ao n cap] w fun e w' => ∃ v X, e = .returned (.tuple #[v, .bool (arB f l)]) ∧ OwnSS w' w.heap.size v X (silR f l) ∧ Below w.heap.size w w' := by
  have HHc := Lib.hid Hc
  clear Hc
  cases hg : arB f l
  · rw [show silR f l = [] by simp [silR, hg]]
    have Hg := Lib.hid hg
    clear hg
    go_enter Try.func62, Try.ntmps62
    go_wp2_with fail
    refine (areArrows_any f ao cap l n w Hn.out (by omega) HHc.out).mono ?_
    rintro e w1 ⟨rfl, hb⟩
    rw [Hg.out]
    go_wp2_with fail
    go_ret2
    exact ⟨_, [], rfl, OwnSS.nil _ _, hb⟩
  · have hff := arB_fr hg
    obtain ⟨F, rfl⟩ := Int.eq_ofNat_of_zero_le (show 0 ≤ f by omega)
    rw [show silR F l = grps (mu (hr F l)) F F by simp [silR, hg]]
    exact implSil_yes w F ao cap l n Hn hs HHc hg hff.1 (by omega) (by omega)

noncomputable def canB (f : Int) (l : List (Int × Int)) : Bool := arB f l && allB f.toNat (hr f.toNat l)

set_option maxRecDepth 20000 in
theorem specCan_any (w : World) (f : Int) (ao : Option Addr) (cap : Nat) (l : List (Int × Int)) (n : Nat) (Hn : Hid (n = l.length)) (hs : n ≤ 1048576) (Hc : CallsAt w ao l) :
    Calls Try.prog 59 #[.int .i64 f, .slice ao n cap] w fun e w' => e = .returned (.tuple #[.bool (canB f l), .bool (arB f l)]) ∧ Below w.heap.size w w' := by
  have HHc := Lib.hid Hc
  clear Hc
  cases hg : arB f l
  · rw [show canB f l = false by simp [canB, hg]]
    have Hg := Lib.hid hg
    clear hg
    go_enter Try.func59, Try.ntmps59
    go_wp2_with fail
    refine (leArrows_any f ao cap l n w Hn.out (by omega) HHc.out).mono ?_
    rintro e w1 ⟨rfl, hb⟩
    rw [Hg.out]
    go_wp2_with fail
    go_ret2
    exact ⟨rfl, hb⟩
  · have hff := arB_fr hg
    obtain ⟨F, rfl⟩ := Int.eq_ofNat_of_zero_le (show 0 ≤ f by omega)
    have HR : Hid (canB F l = allB F (hr F l)) := by show _ = _; simp [canB, hg]
    have Hg := Lib.hid hg
    have Hgd := Lib.hid hff.1
    clear hg
    go_enter Try.func59, Try.ntmps59
    go_wp2_with fail
    refine (leArrows_any F ao cap l n w Hn.out (by omega) HHc.out).mono ?_
    rintro e w1 ⟨rfl, hb1⟩
    rw [Hg.out]
    have Hc1 := Lib.hid (HHc.out.kept hb1)
    go_wp2_with fail
    refine (leHeard_any F ao cap l n w1 Hn Hgd.out Hc1.out).mono ?_
    rintro e w2 ⟨v2, s, rfl, own2, hhr, _, hb⟩
    rw [kl_ext (t := hr F l) (fun i hi => (hr_eq (hhr i hi)).symm)] at own2
    have Hown2 := Lib.hid own2
    have hb3 : Below w.heap.size w w2 := hb1.trans (hb.mono hb1.size)
    clear own2 hb hhr
    go_wp2_with fail
    refine (caAll_any _ F v2 (hr F l) w2 (by omega) (by omega) Hown2.out).mono ?_
    rintro e w3 ⟨rfl, hb4⟩
    go_wp2_with fail
    go_ret2
    exact ⟨by rw [HR.out]; rfl, hb3.trans (hb4.mono hb3.size)⟩

theorem hr_is {F : Nat} {l : List (Int × Int)} {x s : Nat} (h : IsHr F l x s) : IsHr F l x (hr F l x) := by rw [hr_eq h]; exact h
/-- The friends who can hear from x are some: by adding them one by one. -/
theorem hr_some (F : Nat) (l : List (Int × Int)) (x : Nat) : ∃ s, IsHr F l x s := by
  have key : ∀ k, ∃ s : Nat, s < 2 ^ k ∧ ∀ j, s.testBit j = true ↔ (j < k ∧ Path l x j) := by
    intro k
    induction k with
    | zero => exact ⟨0, by simp, fun j => by simp⟩
    | succ k ih =>
      obtain ⟨s, h1, h2⟩ := ih
      have hk : s.testBit k = false := by rw [Nat.testBit_lt_two_pow h1]
      have h1' : s < 2 ^ (k + 1) := Nat.lt_of_lt_of_le h1 (Nat.pow_le_pow_right (by decide) (by omega))
      by_cases hp : Path l x k
      · refine ⟨s ||| 2 ^ k, Nat.or_lt_two_pow h1' (Nat.pow_lt_pow_right (by decide) (by omega)), fun j => ?_⟩
        rw [Nat.testBit_or, Bool.or_eq_true, h2 j, Nat.testBit_two_pow, decide_eq_true_eq]
        constructor
        · rintro (⟨h3, h4⟩ | rfl)
          · exact ⟨by omega, h4⟩
          · exact ⟨by omega, hp⟩
        · rintro ⟨h3, h4⟩
          by_cases e : k = j
          · exact .inr e
          · exact .inl ⟨by omega, h4⟩
      · refine ⟨s, h1', fun j => ?_⟩
        rw [h2 j]
        constructor
        · rintro ⟨h3, h4⟩; exact ⟨by omega, h4⟩
        · rintro ⟨h3, h4⟩
          refine ⟨?_, h4⟩
          rcases Nat.lt_or_ge j k with h5 | h5
          · exact h5
          · obtain rfl : j = k := by omega
            exact absurd h4 hp
  exact key F
theorem can_one (f : Int) (l : List (Int × Int)) : ((silR f l).length == 1) = canB f l := by
  cases hg : arB f l
  · simp [silR, canB, hg]
  · have hff := arB_fr hg
    have := one_group (F := f.toNat) (l := l) (h := hr f.toNat l) (by omega) (fun x _ => let ⟨_, h⟩ := hr_some f.toNat l x; hr_is h)
    simp only [silR, canB, hg, if_true, Bool.true_and]
    exact this
theorem implCan_any (w : World) (f : Int) (ao : Option Addr) (cap : Nat) (l : List (Int × Int)) (n : Nat) (Hn : Hid (n = l.length)) (hs : n ≤ 1048576) (Hc : CallsAt w ao l) :
    Calls Try.prog 60 #[.int .i64 f, .slice ao n cap] w fun e w' => e = .returned (.tuple #[.bool (canB f l), .bool (arB f l)]) ∧ Below w.heap.size w w' := by
  have HHc := Lib.hid Hc
  have hlen := silR_length f l
  have Hone := Lib.hid (can_one f l)
  clear Hc
  go_enter Try.func60, Try.ntmps60
  go_wp2_with fail
  refine (implSil_any w f ao cap l n Hn hs HHc.out).mono ?_
  rintro e w1 ⟨v, X, rfl, ho, hb⟩
  obtain ⟨a, c, rfl, _⟩ := ho.reads
  have hone : (((silR f l).length : Int) == 1) = canB f l := by
    rw [← Hone.out, Bool.eq_iff_iff]
    simp only [beq_iff_eq]
    omega
  clear ho
  go_wp2_with fail
  go_ret2
  exact ⟨by first | rfl | (rw [hone]; done) | (rw [← hone]; done) | (simp [hone]; done), hb⟩

end Go.Proofs.Ytolkfgjgnpjpkaa
