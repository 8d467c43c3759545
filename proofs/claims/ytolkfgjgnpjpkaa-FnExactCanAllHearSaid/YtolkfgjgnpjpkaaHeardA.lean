/- Arrows, and who can hear along them: the model at every list. -/
import Derived.Test.YtolkfgjgnpjpkaaHeardI
namespace Go.Proofs.Ytolkfgjgnpjpkaa
open Go.ChangeShapes Go.WideShapes Go.ChangeAt Go.RowKit
set_option linter.unusedVariables false


/-- These are arrows of so many friends. -/
def arB (f : Int) (l : List (Int × Int)) : Bool := gdL f l && decide (f ≤ 8)

theorem leArrows_any (f : Int) (ao : Option Addr) (cap : Nat) (l : List (Int × Int)) (n : Nat) (w : World) (hn : n = l.length) (hm : n ≤ 9223372036854775807) (hc : CallsAt w ao l) :
    Calls Try.prog 92 #[.int .i64 f, .slice ao n cap] w fun e w' => e = .returned (.bool (arB f l)) ∧ Below w.heap.size w w' := by
  have HHc := Lib.hid hc
  have Hn := Lib.hid hn
  clear hc hn
  cases hg : gdL f l
  · rw [show arB f l = false by simp [arB, hg]]
    have Hg := Lib.hid hg
    clear hg
    go_enter Try.func92, Try.ntmps92
    go_wp2_with fail
    refine (leGood_any f ao cap l n w Hn.out hm HHc.out).mono ?_
    rintro e w1 ⟨rfl, hb⟩
    rw [Hg.out]
    go_wp2_with fail
    go_ret
    exact ⟨rfl, hb⟩
  · by_cases h8 : f ≤ 8
    · rw [show arB f l = true by simp [arB, hg, h8]]
      have Hg := Lib.hid hg
      have hd : decide (f ≤ 8) = true := by simpa using h8
      clear hg
      go_enter Try.func92, Try.ntmps92
      go_wp2_with fail
      refine (leGood_any f ao cap l n w Hn.out hm HHc.out).mono ?_
      rintro e w1 ⟨rfl, hb⟩
      rw [Hg.out]
      go_wp2_with fail
      go_ret
      exact ⟨by first | rfl | (simp; done) | (simp; omega), hb⟩
    · rw [show arB f l = false by simp [arB, h8]]
      have Hg := Lib.hid hg
      have hd : decide (f ≤ 8) = false := by simpa using h8
      clear hg
      go_enter Try.func92, Try.ntmps92
      go_wp2_with fail
      refine (leGood_any f ao cap l n w Hn.out hm HHc.out).mono ?_
      rintro e w1 ⟨rfl, hb⟩
      rw [Hg.out]
      go_wp2_with fail
      go_ret
      exact ⟨by first | rfl | (simp; done) | (simp; omega), hb⟩

theorem areArrows_any (f : Int) (ao : Option Addr) (cap : Nat) (l : List (Int × Int)) (n : Nat) (w : World) (hn : n = l.length) (hm : n ≤ 9223372036854775807) (hc : CallsAt w ao l) :
    Calls Try.prog 95 #[.int .i64 f, .slice ao n cap] w fun e w' => e = .returned (.bool (arB f l)) ∧ Below w.heap.size w w' := by
  have HHc := Lib.hid hc
  have Hn := Lib.hid hn
  clear hc hn
  by_cases h8 : f ≤ 8
  · rw [show arB f l = gdL f l by simp [arB, h8]]
    have hd : decide (f ≤ 8) = true := by simpa using h8
    go_enter Try.func95, Try.ntmps95
    go_wp2_with fail
    refine (areLetters_any f ao cap l n w Hn.out hm HHc.out).mono ?_
    rintro e w1 ⟨rfl, hb⟩
    go_wp2_with fail
    go_ret
    exact ⟨rfl, hb⟩
  · rw [show arB f l = false by simp [arB, h8]]
    have hd : decide (f ≤ 8) = false := by simpa using h8
    go_enter Try.func95, Try.ntmps95
    go_wp2_with fail
    go_ret
    exact ⟨by first | rfl | (simp; done) | (simp; omega), Below.refl _ _⟩

theorem leHeard_zero (F : Nat) (ao : Option Addr) (cap : Nat) (w : World) (h1 : 1 ≤ F) (hF : F ≤ 10) :
    Calls Try.prog 94 #[.int .i64 F, .slice ao 0 cap] w fun e w' => ∃ v s, e = .returned v ∧ w'.ownsRow w.heap.size 3 1 v F (ns (kl F s)) ∧ (∀ x, x < F → IsHr F [] x (s x)) ∧ (∀ i, s i < 2 ^ F) ∧ Below w.heap.size w w' := by
  have Hdone := Lib.hid ((Hd0.start F []).done (fun i hi => absurd hi (by simp)) (fun i hi => absurd hi (by simp)))
  go_enter Try.func94, Try.ntmps94
  go_wp2_with fail
  refine (caStart_any F w (by omega)).mono ?_
  rintro e w1 ⟨v1, rfl, own1, bel1⟩
  have Hown1 := Lib.hid own1
  clear own1
  go_wp2_with fail
  go_rounds 2
  go_rounds 1
  go_ret
  exact ⟨_, own0 F, rfl, Hown1.out, Hdone.out, own0_lt F, bel1⟩

theorem leHeard_any (F : Nat) (ao : Option Addr) (cap : Nat) (l : List (Int × Int)) (n : Nat) (w : World) (Hn : Hid (n = l.length)) (hg : gdL (F : Int) l = true) (Hc : CallsAt w ao l) :
    Calls Try.prog 94 #[.int .i64 F, .slice ao n cap] w fun e w' => ∃ v s, e = .returned v ∧ w'.ownsRow w.heap.size 3 1 v F (ns (kl F s)) ∧ (∀ x, x < F → IsHr F l x (s x)) ∧ (∀ i, s i < 2 ^ F) ∧ Below w.heap.size w w' := by
  have hff := gl_fr hg
  have hlen := gl_len2 hg
  have Hfit : Hid (Fit F n l) := fun i hi => gl_letter hg (by rw [← Hn.out]; exact hi)
  by_cases h0 : n = 0
  · subst h0
    have : l = [] := List.eq_nil_of_length_eq_zero Hn.out.symm
    subst this
    exact leHeard_zero F ao cap w (by omega) (by omega)
  · rcases Hc with rfl | ⟨b, off, rfl, hc⟩
    · exact absurd Hn.out h0
    · exact leHeard_pos b off cap F l n w Hn (by rw [Hn.out]; exact hlen) (by omega) (by omega) Hfit (by rw [Hn.out]; exact hc)

end Go.Proofs.Ytolkfgjgnpjpkaa
