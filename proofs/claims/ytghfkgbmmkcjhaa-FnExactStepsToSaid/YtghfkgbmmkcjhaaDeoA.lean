/- deOrdered for all, dePerson. -/
import Derived.Test.YtghfkgbmmkcjhaaDeo
namespace Go.Proofs.Ytghfkgbmmkcjhaa
open Go.ChangeShapes Go.WideShapes Go.ChangeAt Go.RowKit
set_option linter.unusedVariables false


set_option maxRecDepth 20000 in
theorem deOrd_zero (ao : Option Addr) (cap : Nat) (w : World) :
    Calls Try.prog 70 #[.slice ao 0 cap] w fun e w' => ∃ v, e = .returned v ∧ w'.ownsRow w.heap.size 52 3 v 0 (ss []) ∧ Below w.heap.size w w' := by
  go_enter Try.func70, Try.ntmps70
  go_wp2_with fail
  go_loop [3, 10] (fun v i => v = .slice none 0 0 ∧ i = .int .i64 0) (fun _ _ => 0)
  case atStart => exact ⟨rfl, rfl⟩
  case round =>
    obtain ⟨rfl, rfl⟩ := hrel
    go_wp2_with fail
    go_ret
    exact ⟨_, rfl, World.ownsRow_nil _ _ _ _, Below.refl _ _⟩

theorem deOrd_any (w : World) (ao : Option Addr) (cap : Nat) (l : List Snd) (n : Nat) (Hn : Hid (n = l.length)) (hn : n ≤ 1000) (hcap : n ≤ cap) (hc : SendsAt w ao l) :
    Calls Try.prog 70 #[.slice ao n cap] w fun e w' => ∃ v, e = .returned v ∧ w'.ownsRow w.heap.size 52 3 v n (ss (ordS l)) ∧ Below w.heap.size w w' := by
  by_cases h0 : n = 0
  · subst h0
    obtain rfl : l = [] := List.eq_nil_of_length_eq_zero Hn.out.symm
    exact deOrd_zero ao cap w
  · rcases hc with h | ⟨b, off, rfl, hcc⟩
    · subst h; exact absurd Hn.out h0
    · exact deOrd_pos b off cap l n w Hn hn hcap (Lib.hid (by rw [Hn.out]; exact hcc))

def dpB (d P : Int) (l : List Snd) (x : Int) : Bool := arsB d P l && decide (0 ≤ x ∧ x ≤ P - 1)
set_option maxRecDepth 20000 in
theorem dePerson_any (w : World) (d P x : Int) (ao : Option Addr) (cap : Nat) (l : List Snd) (n : Nat) (Hn : Hid (n = l.length)) (hn : n ≤ 1048576) (hcap : n ≤ cap) (hc : SendsAt w ao l) :
    Calls Try.prog 69 #[.int .i64 d, .int .i64 P, .slice ao n cap, .int .i64 x] w fun e w' => e = .returned (.bool (dpB d P l x)) ∧ Below w.heap.size w w' := by
  cases hA : deB d && peB P
  · have hB : arsB d P l = false := by
      unfold arsB
      cases h1 : deB d
      · rfl
      · rw [h1] at hA; simp at hA; simp [hA]
    have hR : dpB d P l x = false := by simp [dpB, hB]
    rw [hR]
    have HA : Hid ((deB d && peB P) = false) := hA
    clear hA hR hB
    go_enter Try.func69, Try.ntmps69
    go_wp2_with fail
    refine (deAsked_any d P w).mono ?_
    rintro e w' ⟨rfl, rfl⟩
    rw [HA.out]
    go_wp2_with fail
    go_ret
    exact ⟨rfl, Below.refl _ _⟩
  · have HA : Hid ((deB d && peB P) = true) := hA
    simp only [Bool.and_eq_true] at hA
    obtain ⟨D, rfl, hD1, hD10⟩ := de_in hA.1
    obtain ⟨Q, rfl, hQ1, hQ2⟩ := pe_in hA.2
    have hB : arsB (D : Int) (Q : Int) l = arB (D : Int) (Q : Int) l := by simp [arsB, hA.1, hA.2]
    have HX := Lib.hid (deA_any w (D : Int) Q ao cap l n (by omega) hQ1 hQ2 Hn hcap hc)
    have hwr : IntKind.i64.wrap ((Q : Int) - 1) = (Q : Int) - 1 := IntWalk.i64_in _ (by omega)
    obtain ⟨p, hp⟩ : ∃ p, (Q : Int) - 1 = p := ⟨_, rfl⟩
    cases hx : decide (0 ≤ x ∧ x ≤ p)
    · have hR : dpB (D : Int) Q l x = false := by unfold dpB; rw [hp, hx, Bool.and_false]
      rw [hR]
      have HXx := Lib.hid hx
      rw [hp] at hwr
      clear hx hA hR hB HX hc
      go_enter Try.func69, Try.ntmps69
      go_wp2_with fail
      refine (deAsked_any D Q w).mono ?_
      rintro e w' ⟨rfl, rfl⟩
      rw [HA.out]
      go_wp2_with fail
      refine (l1In_any x 0 p w).mono ?_
      rintro e w' ⟨rfl, rfl⟩
      rw [HXx.out]
      go_wp2_with fail
      go_ret
      exact ⟨rfl, Below.refl _ _⟩
    · have hR : dpB (D : Int) Q l x = arB (D : Int) (Q : Int) l := by unfold dpB; rw [hp, hx, Bool.and_true, hB]
      rw [hR]
      have HXx := Lib.hid hx
      rw [hp] at hwr
      obtain ⟨r, Hr⟩ : ∃ r : Bool, Hid (r = arB (D : Int) (Q : Int) l) := ⟨_, Lib.hid rfl⟩
      rw [← Hr.out] at HX ⊢
      clear hx hA hR hB hc
      go_enter Try.func69, Try.ntmps69
      go_wp2_with fail
      refine (deAsked_any D Q w).mono ?_
      rintro e w' ⟨rfl, rfl⟩
      rw [HA.out]
      go_wp2_with fail
      refine (l1In_any x 0 p w).mono ?_
      rintro e w' ⟨rfl, rfl⟩
      rw [HXx.out]
      go_wp2_with fail
      refine HX.out.mono ?_
      rintro e w1 ⟨v, rfl, own, hb1⟩
      clear own
      go_wp2_with fail
      go_ret
      exact ⟨rfl, hb1⟩

end Go.Proofs.Ytghfkgbmmkcjhaa
