/- AreSends, both sides. -/
import Derived.Test.YtghfkgbmmkcjhaaAofZ
import Derived.Test.YtghfkgbmmkcjhaaDeAZ
import Derived.Test.YtghfkgbmmkcjhaaAsk
namespace Go.Proofs.Ytghfkgbmmkcjhaa
open Go.ChangeShapes Go.WideShapes Go.ChangeAt Go.RowKit
set_option linter.unusedVariables false


def asA (d P : Int) (_l : List Snd) : Bool := deB d && peB P
theorem implAS_any (w : World) (d P : Int) (ao : Option Addr) (cap : Nat) (l : List Snd) (n : Nat) (Hn : Hid (n = l.length)) (hn : n ≤ 1048576) (hcap : n ≤ cap) (hc : SendsAt w ao l) :
    Calls Try.prog 32 #[.int .i64 d, .int .i64 P, .slice ao n cap] w fun e w' => e = .returned (.tuple #[.bool (arsB d P l), .bool (asA d P l)]) ∧ Below w.heap.size w w' := by
  obtain ⟨r, Hr⟩ : ∃ r : Bool, Hid (r = arsB d P l) := ⟨_, Lib.hid rfl⟩
  have HX := Lib.hid (aof_any w d P ao cap l n Hn hn hcap hc)
  rw [← Hr.out] at HX ⊢
  clear hc
  cases hA : deB d
  · have HA := Lib.hid hA
    have hB1 : asA d P l = false := by simp [asA, hA]
    rw [hB1]
    clear hA hB1
    go_enter Try.func32, Try.ntmps32
    go_wp2_with fail
    refine HX.out.mono ?_
    rintro e w1 ⟨F, rfl, _, hb1⟩
    go_wp2_with (refine wpList_store_row rfl 57 (.tmp 8) (.tmp 15) rfl w1.heap.size (AA F) ?_ ?_ 57 _ (heap_alloc_new w1 _) ?_ ?_ ?_ ?_)
    try any_goals first | exact AA_one _ | exact infoA2 | (rw [infoA, AA_size]; done) | (rw [AA_size]; rfl) | rfl
    refine (isDelay_any d _).mono ?_
    rintro e w' ⟨rfl, rfl⟩
    rw [HA.out]
    go_wp2_with fail
    go_ret2
    exact ⟨rfl, below_setRow (hb1.alloc hb1.size _) hb1.size _⟩
  · have HA := Lib.hid hA
    have hB1 : asA d P l = peB P := by simp [asA, hA]
    rw [hB1]
    clear hA hB1
    go_enter Try.func32, Try.ntmps32
    go_wp2_with fail
    refine HX.out.mono ?_
    rintro e w1 ⟨F, rfl, _, hb1⟩
    go_wp2_with (refine wpList_store_row rfl 57 (.tmp 8) (.tmp 15) rfl w1.heap.size (AA F) ?_ ?_ 57 _ (heap_alloc_new w1 _) ?_ ?_ ?_ ?_)
    try any_goals first | exact AA_one _ | exact infoA2 | (rw [infoA, AA_size]; done) | (rw [AA_size]; rfl) | rfl
    refine (isDelay_any d _).mono ?_
    rintro e w' ⟨rfl, rfl⟩
    rw [HA.out]
    go_wp2_with fail
    refine (canBePeople_any P _).mono ?_
    rintro e w' ⟨rfl, rfl⟩
    go_wp2_with fail
    go_ret2
    exact ⟨rfl, below_setRow (hb1.alloc hb1.size _) hb1.size _⟩

theorem specAS_any (w : World) (d P : Int) (ao : Option Addr) (cap : Nat) (l : List Snd) (n : Nat) (Hn : Hid (n = l.length)) (hn : n ≤ 1048576) (hcap : n ≤ cap) (hc : SendsAt w ao l) :
    Calls Try.prog 30 #[.int .i64 d, .int .i64 P, .slice ao n cap] w fun e w' => e = .returned (.tuple #[.bool (arsB d P l), .bool (asA d P l)]) ∧ Below w.heap.size w w' := by
  cases hA : asA d P l
  · have hR : arsB d P l = false := by
      unfold asA at hA
      unfold arsB
      cases h1 : deB d
      · rfl
      · rw [h1] at hA; simp at hA; simp [hA]
    rw [hR]
    have HA : Hid ((deB d && peB P) = false) := hA
    clear hA hR
    go_enter Try.func30, Try.ntmps30
    go_wp2_with fail
    refine (deAsked_any d P w).mono ?_
    rintro e w' ⟨rfl, rfl⟩
    rw [HA.out]
    go_wp2_with fail
    go_ret2
    exact ⟨rfl, Below.refl _ _⟩
  · have HA : Hid ((deB d && peB P) = true) := hA
    simp only [asA, Bool.and_eq_true] at hA
    obtain ⟨D, rfl, hD1, hD10⟩ := de_in hA.1
    obtain ⟨Q, rfl, hQ1, hQ2⟩ := pe_in hA.2
    have hR : arsB (D : Int) (Q : Int) l = arB (D : Int) (Q : Int) l := by simp [arsB, hA.1, hA.2]
    rw [hR]
    have HX := Lib.hid (deA_any w (D : Int) Q ao cap l n (by omega) hQ1 hQ2 Hn hcap hc)
    obtain ⟨r, Hr⟩ : ∃ r : Bool, Hid (r = arB (D : Int) (Q : Int) l) := ⟨_, Lib.hid rfl⟩
    rw [← Hr.out] at HX ⊢
    clear hA hR hc
    go_enter Try.func30, Try.ntmps30
    go_wp2_with fail
    refine (deAsked_any D Q w).mono ?_
    rintro e w' ⟨rfl, rfl⟩
    rw [HA.out]
    go_wp2_with fail
    refine HX.out.mono ?_
    rintro e w1 ⟨v, rfl, own, hb1⟩
    clear own
    go_wp2_with fail
    go_ret2
    exact ⟨rfl, hb1⟩

end Go.Proofs.Ytghfkgbmmkcjhaa
