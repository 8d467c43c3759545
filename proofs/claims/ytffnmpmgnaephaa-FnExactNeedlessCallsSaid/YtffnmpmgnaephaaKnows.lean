/- AllKnow and CountKnown: the model and the program. -/
import Derived.Test.YtffnmpmgnaephaaSums
namespace Go.Proofs.Ytffnmpmgnaephaa
open Go.ChangeShapes Go.WideShapes Go.ChangeAt Go.RowKit
set_option linter.unusedVariables false

def knowB (f : Int) (l : List (Int × Int)) : Bool := if gdB f l then allB f.toNat (play f.toNat l) else false

def cntI (f : Int) (l : List (Int × Int)) : Int := if gdB f l then (cntTo (play f.toNat l) f.toNat : Int) else 0

set_option maxRecDepth 20000 in
theorem specAllKnow_any (w : World) (f : Int) (ao : Option Addr) (cap : Nat) (l : List (Int × Int)) (n : Nat) (Hn : Hid (n = l.length)) (hs : n ≤ 1048576) (Hc : CallsAt w ao l) :
    Calls Try.prog 21 #[.int .i64 f, .slice ao n cap] w fun e w' => e = .returned (.tuple #[.bool (knowB f l), .bool (gdB f l)]) ∧ Below w.heap.size w w' := by
  have HHc := Lib.hid Hc
  clear Hc
  cases hg : gdB f l
  · have hR : knowB f l = false := by simp [knowB, hg]
    rw [hR]
    have Hg := Lib.hid hg
    clear hg hR
    go_enter Try.func21, Try.ntmps21
    go_wp2_with fail
    refine (caGood_any f ao cap l n w Hn.out (by omega) HHc.out).mono ?_
    rintro e w1 ⟨rfl, hb⟩
    rw [Hg.out]
    go_wp2_with fail
    go_ret2
    exact ⟨rfl, hb⟩
  · have hff := gd_fr hg
    obtain ⟨F, rfl⟩ := Int.eq_ofNat_of_zero_le (show 0 ≤ f by omega)
    have hR : knowB F l = allB F (play F l) := by simp [knowB, hg]
    have HR := Lib.hid hR
    have Hg := Lib.hid hg
    clear hg hR
    go_enter Try.func21, Try.ntmps21
    go_wp2_with fail
    refine (caGood_any F ao cap l n w Hn.out (by omega) HHc.out).mono ?_
    rintro e w1 ⟨rfl, hb1⟩
    rw [Hg.out]
    have Hc1 := Lib.hid (HHc.out.kept hb1)
    go_wp2_with fail
    refine (caPlay_any F ao cap l n w1 Hn Hg.out Hc1.out).mono ?_
    rintro e w2 ⟨v, rfl, own2, hb2⟩
    have Hown2 := Lib.hid own2
    have hb3 : Below w.heap.size w w2 := hb1.trans (hb2.mono hb1.size)
    clear own2 hb2
    go_wp2_with fail
    refine (caAll_any _ F v (play F l) w2 (by omega) (by omega) Hown2.out).mono ?_
    rintro e w3 ⟨rfl, hb4⟩
    go_wp2_with fail
    go_ret2
    exact ⟨by rw [HR.out]; rfl, hb3.trans (hb4.mono hb3.size)⟩

set_option maxRecDepth 20000 in
theorem implAllKnow_any (w : World) (f : Int) (ao : Option Addr) (cap : Nat) (l : List (Int × Int)) (n : Nat) (Hn : Hid (n = l.length)) (hs : n ≤ 1048576) (Hc : CallsAt w ao l) :
    Calls Try.prog 22 #[.int .i64 f, .slice ao n cap] w fun e w' => e = .returned (.tuple #[.bool (knowB f l), .bool (gdB f l)]) ∧ Below w.heap.size w w' := by
  have HHc := Lib.hid Hc
  clear Hc
  cases hg : gdB f l
  · have hR : knowB f l = false := by simp [knowB, hg]
    rw [hR]
    have Hg := Lib.hid hg
    clear hg hR
    go_enter Try.func22, Try.ntmps22
    go_wp2_with fail
    refine (areCalls_any f ao cap l n w Hn.out (by omega) HHc.out).mono ?_
    rintro e w1 ⟨rfl, hb⟩
    rw [Hg.out]
    go_wp2_with fail
    go_ret2
    exact ⟨rfl, hb⟩
  · have hff := gd_fr hg
    obtain ⟨F, rfl⟩ := Int.eq_ofNat_of_zero_le (show 0 ≤ f by omega)
    have hR : knowB F l = allB F (play F l) := by simp [knowB, hg]
    have HR := Lib.hid hR
    have Hg := Lib.hid hg
    clear hg hR
    go_enter Try.func22, Try.ntmps22
    go_wp2_with fail
    refine (areCalls_any F ao cap l n w Hn.out (by omega) HHc.out).mono ?_
    rintro e w1 ⟨rfl, hb1⟩
    rw [Hg.out]
    have Hc1 := Lib.hid (HHc.out.kept hb1)
    go_wp2_with fail
    refine (knowledgeBehind_any F ao cap l n w1 Hn Hg.out Hc1.out).mono ?_
    rintro e w2 ⟨rfl, hb2⟩
    have hb3 : Below w.heap.size w w2 := hb1.trans (hb2.mono hb1.size)
    clear hb2
    go_wp2_with fail
    refine (isWhole_any F (play F l) w2 (play_small F (by omega) l) (by omega) (by omega)).mono ?_
    rintro e w3 ⟨rfl, hb4⟩
    go_wp2_with fail
    go_ret2
    exact ⟨by rw [HR.out, ← whole_eq Hg.out]; rfl, hb3.trans (hb4.mono hb3.size)⟩

set_option maxRecDepth 20000 in
theorem specCountKnown_any (w : World) (f : Int) (ao : Option Addr) (cap : Nat) (l : List (Int × Int)) (n : Nat) (Hn : Hid (n = l.length)) (hs : n ≤ 1048576) (Hc : CallsAt w ao l) :
    Calls Try.prog 23 #[.int .i64 f, .slice ao n cap] w fun e w' => e = .returned (.tuple #[.int .i64 (cntI f l), .bool (gdB f l)]) ∧ Below w.heap.size w w' := by
  have HHc := Lib.hid Hc
  clear Hc
  cases hg : gdB f l
  · have hR : cntI f l = 0 := by simp [cntI, hg]
    rw [hR]
    have Hg := Lib.hid hg
    clear hg hR
    go_enter Try.func23, Try.ntmps23
    go_wp2_with fail
    refine (caGood_any f ao cap l n w Hn.out (by omega) HHc.out).mono ?_
    rintro e w1 ⟨rfl, hb⟩
    rw [Hg.out]
    go_wp2_with fail
    go_ret2
    exact ⟨rfl, hb⟩
  · have hff := gd_fr hg
    obtain ⟨F, rfl⟩ := Int.eq_ofNat_of_zero_le (show 0 ≤ f by omega)
    have hR : cntI F l = (cntTo (play F l) F : Int) := by simp [cntI, hg]
    have HR := Lib.hid hR
    have Hg := Lib.hid hg
    clear hg hR
    go_enter Try.func23, Try.ntmps23
    go_wp2_with fail
    refine (caGood_any F ao cap l n w Hn.out (by omega) HHc.out).mono ?_
    rintro e w1 ⟨rfl, hb1⟩
    rw [Hg.out]
    have Hc1 := Lib.hid (HHc.out.kept hb1)
    go_wp2_with fail
    refine (caPlay_any F ao cap l n w1 Hn Hg.out Hc1.out).mono ?_
    rintro e w2 ⟨v, rfl, own2, hb2⟩
    have Hown2 := Lib.hid own2
    have hb3 : Below w.heap.size w w2 := hb1.trans (hb2.mono hb1.size)
    clear own2 hb2
    go_wp2_with fail
    refine (caCount_any _ F v (play F l) w2 (play_small F (by omega) l) (by omega) (by omega) Hown2.out).mono ?_
    rintro e w3 ⟨rfl, hb4⟩
    go_wp2_with fail
    go_ret2
    exact ⟨by rw [HR.out]; rfl, hb3.trans (hb4.mono hb3.size)⟩

set_option maxRecDepth 20000 in
theorem implCountKnown_any (w : World) (f : Int) (ao : Option Addr) (cap : Nat) (l : List (Int × Int)) (n : Nat) (Hn : Hid (n = l.length)) (hs : n ≤ 1048576) (Hc : CallsAt w ao l) :
    Calls Try.prog 24 #[.int .i64 f, .slice ao n cap] w fun e w' => e = .returned (.tuple #[.int .i64 (cntI f l), .bool (gdB f l)]) ∧ Below w.heap.size w w' := by
  have HHc := Lib.hid Hc
  clear Hc
  cases hg : gdB f l
  · have hR : cntI f l = 0 := by simp [cntI, hg]
    rw [hR]
    have Hg := Lib.hid hg
    clear hg hR
    go_enter Try.func24, Try.ntmps24
    go_wp2_with fail
    refine (areCalls_any f ao cap l n w Hn.out (by omega) HHc.out).mono ?_
    rintro e w1 ⟨rfl, hb⟩
    rw [Hg.out]
    go_wp2_with fail
    go_ret2
    exact ⟨rfl, hb⟩
  · have hff := gd_fr hg
    obtain ⟨F, rfl⟩ := Int.eq_ofNat_of_zero_le (show 0 ≤ f by omega)
    have hR : cntI F l = (cntTo (play F l) F : Int) := by simp [cntI, hg]
    have HR := Lib.hid hR
    have Hg := Lib.hid hg
    clear hg hR
    go_enter Try.func24, Try.ntmps24
    go_wp2_with fail
    refine (areCalls_any F ao cap l n w Hn.out (by omega) HHc.out).mono ?_
    rintro e w1 ⟨rfl, hb1⟩
    rw [Hg.out]
    have Hc1 := Lib.hid (HHc.out.kept hb1)
    go_wp2_with fail
    refine (knowledgeBehind_any F ao cap l n w1 Hn Hg.out Hc1.out).mono ?_
    rintro e w2 ⟨rfl, hb2⟩
    have hb3 : Below w.heap.size w w2 := hb1.trans (hb2.mono hb1.size)
    clear hb2
    go_wp2_with fail
    refine (count_any F (play F l) w2 (play_small F (by omega) l)).mono ?_
    rintro e w3 ⟨rfl, hb4⟩
    go_wp2_with fail
    go_ret2
    exact ⟨by rw [HR.out, ← cnt_ten Hg.out]; rfl, hb3.trans (hb4.mono hb3.size)⟩
end Go.Proofs.Ytffnmpmgnaephaa
