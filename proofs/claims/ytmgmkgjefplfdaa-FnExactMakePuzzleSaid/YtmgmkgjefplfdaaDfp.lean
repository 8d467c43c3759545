/- Hidden lists handed in: by model and program. -/
import Derived.Test.YtmgmkgjefplfdaaSlc
namespace Go.Proofs.Ytmgmkgjefplfdaa
open Go.ChangeShapes Go.WideShapes Go.ChangeAt Go.RowKit
set_option linter.unusedVariables false


/-- What a hidden list is. -/
def hidB (f : Int) (l : List (Int × Int)) : Bool := szB f (l.length : Int) && gdB f l
def dfB (f : Int) (c : Clu) (l : List (Int × Int)) : Bool := hidB f l && mB f (l.length : Int) c
def dfR (f : Int) (c : Clu) (l : List (Int × Int)) : Bool := dfB f c l && pf f.toNat c l
theorem szCall_fit (ao : Option Addr) (n cap : Nat) (w : World) (h : n ≤ 1048576) :
    Calls Try.prog 28 #[.slice ao n cap, .int .i64 1048576] w fun e w' => e = .returned (.int .i64 (1048576 - n)) ∧ w = w' := by
  go_enter Try.func28, Try.ntmps28
  go_wp2
  go_ret
  exact ⟨rfl, rfl⟩
theorem szCall_over (ao : Option Addr) (n cap : Nat) (w : World) (h : 1048576 < n) (hm : n ≤ 9223372036854775807) :
    Calls Try.prog 28 #[.slice ao n cap, .int .i64 1048576] w fun e w' => e = .returned (.int .i64 (-1)) ∧ w = w' := by
  go_enter Try.func28, Try.ntmps28
  go_wp2
  go_ret
  exact ⟨rfl, rfl⟩
set_option maxRecDepth 20000 in
theorem pzHidden_any (f : Int) (ao : Option Addr) (cap : Nat) (l : List (Int × Int)) (n : Nat) (w : World) (Hn : Hid (n = l.length)) (hs : n ≤ 1048576) (Hc : Hid (CallsAt w ao l)) :
    Calls Try.prog 75 #[.int .i64 f, .slice ao n cap] w fun e w' => e = .returned (.bool (hidB f l)) ∧ Below w.heap.size w w' := by
  have hh : hidB f l = (szB f (n : Int) && gdB f l) := by unfold hidB; rw [← Hn.out]
  rw [hh]
  have HG := Lib.hid (caGood_any f ao cap l n w Hn.out (by omega) Hc.out)
  clear hh
  cases hz : szB f (n : Int)
  · have HZ := Lib.hid hz
    rw [Bool.false_and]
    clear hz
    go_enter Try.func75, Try.ntmps75
    go_wp2_with fail
    refine (pzSize_any f n _).mono ?_
    rintro e w' ⟨rfl, rfl⟩
    rw [HZ.out]
    go_wp2_with fail
    go_ret
    exact ⟨rfl, Below.refl _ _⟩
  · have HZ := Lib.hid hz
    rw [Bool.true_and]
    clear hz
    go_enter Try.func75, Try.ntmps75
    go_wp2_with fail
    refine (pzSize_any f n _).mono ?_
    rintro e w' ⟨rfl, rfl⟩
    rw [HZ.out]
    go_wp2_with fail
    refine HG.out.mono ?_
    rintro e w1 ⟨rfl, hb⟩
    have HB := Lib.hid hb
    clear hb
    go_wp2_with fail
    go_ret
    exact ⟨rfl, HB.out⟩
set_option maxRecDepth 20000 in
theorem isHidden_any (f : Int) (ao : Option Addr) (cap : Nat) (l : List (Int × Int)) (n : Nat) (w : World) (Hn : Hid (n = l.length)) (hs : n ≤ 1048576) (Hc : Hid (CallsAt w ao l)) :
    Calls Try.prog 78 #[.agg #[.int .i64 f, .slice ao n cap]] w fun e w' => e = .returned (.bool (hidB f l)) ∧ Below w.heap.size w w' := by
  have hh : hidB f l = (szB f (n : Int) && gdB f l) := by unfold hidB; rw [← Hn.out]
  rw [hh]
  obtain ⟨W0, hW, hbW, hsW, rX⟩ := box1 w #[.int .i64 f, .slice ao n cap] 87
  have HW := Lib.hid hW
  have HbW := Lib.hid hbW
  have HG := Lib.hid (areCalls_any f ao cap l n W0 Hn.out (by omega) (Hc.out.kept hbW))
  have c0 : W0.cell? ⟨w.heap.size, 0, none⟩ = some (.int .i64 f) := cell_of_row _ _ _ _ _ _ rX
  have c1 : W0.cell? ⟨w.heap.size, 1, none⟩ = some (.slice ao n cap) := cell_of_row _ _ _ _ _ _ rX
  clear hh hW rX hbW
  cases hz : szB f (n : Int)
  · have HZ := Lib.hid hz
    rw [Bool.false_and]
    clear hz
    go_enter Try.func78, Try.ntmps78
    go_wp2_with fail
    rw [HW.out]
    refine (canHide_any f n _).mono ?_
    rintro e w' ⟨rfl, rfl⟩
    rw [HZ.out]
    go_wp2_with fail
    go_ret
    exact ⟨rfl, HbW.out⟩
  · have HZ := Lib.hid hz
    rw [Bool.true_and]
    clear hz
    go_enter Try.func78, Try.ntmps78
    go_wp2_with fail
    rw [HW.out]
    refine (canHide_any f n _).mono ?_
    rintro e w' ⟨rfl, rfl⟩
    rw [HZ.out]
    go_wp2_with fail
    refine HG.out.mono ?_
    rintro e w1 ⟨rfl, hb⟩
    have HB := Lib.hid (HbW.out.trans (hb.mono HbW.out.size))
    clear hb
    go_wp2_with fail
    go_ret
    exact ⟨rfl, HB.out⟩

end Go.Proofs.Ytmgmkgjefplfdaa
