/- KnownAfter at every list: the model and the program. -/
import Derived.Test.YtffnmpmgnaephaaKnownI
namespace Go.Proofs.Ytffnmpmgnaephaa
open Go.ChangeShapes Go.WideShapes Go.ChangeAt Go.RowKit
set_option linter.unusedVariables false


theorem specKnown_any (w : World) (f : Int) (ao : Option Addr) (cap : Nat) (l : List (Int × Int)) (n : Nat) (Hn : Hid (n = l.length)) (hs : n ≤ 1048576) (Hc : CallsAt w ao l) :
    Calls Try.prog 13 #[.int .i64 f, .slice ao n cap] w fun e w' => ∃ v X, e = .returned (.tuple #[v, .bool (gdB f l)]) ∧ OwnSS w' w.heap.size v X (knownR f l) ∧ Below w.heap.size w w' := by
  have HHc := Lib.hid Hc
  clear Hc
  cases hg : gdB f l
  · rw [show knownR f l = [] by simp [knownR, hg]]
    have Hg := Lib.hid hg
    clear hg
    go_enter Try.func13, Try.ntmps13
    go_wp2_with fail
    refine (caGood_any f ao cap l n w Hn.out (by omega) HHc.out).mono ?_
    rintro e w1 ⟨rfl, hb⟩
    rw [Hg.out]
    go_wp2_with fail
    go_ret2
    exact ⟨_, [], rfl, OwnSS.nil _ _, hb⟩
  · have hff := gd_fr hg
    obtain ⟨F, rfl⟩ := Int.eq_ofNat_of_zero_le (show 0 ≤ f by omega)
    rw [show knownR F l = kn F l F by simp [knownR, hg]]
    exact specKnown_yes w F ao cap l n Hn (by rw [Hn.out]; exact gd_len' hg) HHc hg hff

theorem implKnown_any (w : World) (f : Int) (ao : Option Addr) (cap : Nat) (l : List (Int × Int)) (n : Nat) (Hn : Hid (n = l.length)) (hs : n ≤ 1048576) (Hc : CallsAt w ao l) :
    Calls Try.prog 15 #[.int .i64 f, .slice ao n cap] w fun e w' => ∃ v X, e = .returned (.tuple #[v, .bool (gdB f l)]) ∧ OwnSS w' w.heap.size v X (knownR f l) ∧ Below w.heap.size w w' := by
  have HHc := Lib.hid Hc
  clear Hc
  cases hg : gdB f l
  · rw [show knownR f l = [] by simp [knownR, hg]]
    have Hg := Lib.hid hg
    clear hg
    go_enter Try.func15, Try.ntmps15
    go_wp2_with fail
    refine (areCalls_any f ao cap l n w Hn.out (by omega) HHc.out).mono ?_
    rintro e w1 ⟨rfl, hb⟩
    rw [Hg.out]
    go_wp2_with fail
    go_ret2
    exact ⟨_, [], rfl, OwnSS.nil _ _, hb⟩
  · have hff := gd_fr hg
    obtain ⟨F, rfl⟩ := Int.eq_ofNat_of_zero_le (show 0 ≤ f by omega)
    rw [show knownR F l = kn F l F by simp [knownR, hg]]
    exact implKnown_yes w F ao cap l n Hn (by rw [Hn.out]; exact gd_len' hg) HHc hg hff

end Go.Proofs.Ytffnmpmgnaephaa
