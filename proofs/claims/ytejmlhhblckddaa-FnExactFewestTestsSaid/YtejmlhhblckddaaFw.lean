/- How few tests tell one wire: the model and the program. -/
import Derived.Test.YtejmlhhblckddaaSg
namespace Go.Proofs.Ytejmlhhblckddaa
open Go.ChangeShapes Go.WideShapes Go.ChangeAt Go.RowKit
set_option linter.unusedVariables false


/-- How many binary digits a number of wires has. -/
def bl (f : Int) : Int := if f < 1 then 0 else if f < 2 then 1 else if f < 4 then 2 else if f < 8 then 3 else 4
def fwR (f : Int) : Int := if wfB f then bl f else 0

set_option maxRecDepth 20000 in
theorem specFew_any (w : World) (f : Int) :
    Calls Try.prog 26 #[.int .i64 f] w fun e w' => e = .returned (.tuple #[.int .i64 (fwR f), .bool (wfB f)]) ∧ Below w.heap.size w w' := by
  cases hw : wfB f
  · have hR : fwR f = 0 := by simp [fwR, hw]
    rw [hR]
    have Hw := Lib.hid hw
    go_enter Try.func26, Try.ntmps26
    go_wp2_with fail
    refine (wiWires_any f w).mono ?_
    rintro e w' ⟨rfl, rfl⟩
    rw [Hw.out]
    go_wp2_with fail
    go_ret2
    exact ⟨rfl, Below.refl _ _⟩
  · have hf := wf_parts hw
    obtain ⟨n, rfl⟩ := Int.eq_ofNat_of_zero_le (a := f) (by omega)
    have hR : fwR (n : Int) = bl n := by simp [fwR, hw]
    rw [hR]
    have Hw := Lib.hid hw
    have hn1 : 1 ≤ n := by omega
    have hn10 : n ≤ 10 := by omega
    clear hf hw hR
    have hcase : n = 1 ∨ n = 2 ∨ n = 3 ∨ n = 4 ∨ n = 5 ∨ n = 6 ∨ n = 7 ∨ n = 8 ∨ n = 9 ∨ n = 10 := by omega
    go_enter Try.func26, Try.ntmps26
    go_wp2_with fail
    refine (wiWires_any (n : Int) w).mono ?_
    rintro e w' ⟨rfl, rfl⟩
    rw [Hw.out]
    clear hn1 hn10
    rcases hcase with rfl | rfl | rfl | rfl | rfl | rfl | rfl | rfl | rfl | rfl
    all_goals (go_wp2_with fail; first | (go_rounds 2; go_ret2; exact ⟨rfl, Below.refl _ _⟩) | (go_rounds 3; go_ret2; exact ⟨rfl, Below.refl _ _⟩) | (go_rounds 4; go_ret2; exact ⟨rfl, Below.refl _ _⟩) | (go_rounds 5; go_ret2; exact ⟨rfl, Below.refl _ _⟩))

set_option maxRecDepth 20000 in
theorem len64_any (w : World) (n : Nat) (h1 : 1 ≤ n) (h : n ≤ 10) :
    Calls Try.prog 63 #[.int .u64 n] w fun e w' => e = .returned (.int .i64 (bl n)) ∧ w = w' := by
  have hcase : n = 1 ∨ n = 2 ∨ n = 3 ∨ n = 4 ∨ n = 5 ∨ n = 6 ∨ n = 7 ∨ n = 8 ∨ n = 9 ∨ n = 10 := by omega
  clear h h1
  rcases hcase with rfl | rfl | rfl | rfl | rfl | rfl | rfl | rfl | rfl | rfl
  all_goals (go_enter Try.func63, Try.ntmps63; go_wp2_with fail; go_ret; exact ⟨ret_int (by decide +kernel), rfl⟩)

theorem len_any (w : World) (n : Nat) (h1 : 1 ≤ n) (h : n ≤ 10) :
    Calls Try.prog 47 #[.int .u64 n] w fun e w' => e = .returned (.int .i64 (bl n)) ∧ w = w' := by
  go_enter Try.func47, Try.ntmps47
  go_wp2_with fail
  refine (len64_any w n h1 h).mono ?_
  rintro e w' ⟨rfl, rfl⟩
  go_wp2_with fail
  go_ret
  exact ⟨rfl, rfl⟩

theorem implFew_any (w : World) (f : Int) :
    Calls Try.prog 27 #[.int .i64 f] w fun e w' => e = .returned (.tuple #[.int .i64 (fwR f), .bool (wfB f)]) ∧ Below w.heap.size w w' := by
  cases hw : wfB f
  · have hR : fwR f = 0 := by simp [fwR, hw]
    rw [hR]
    have Hw := Lib.hid hw
    go_enter Try.func27, Try.ntmps27
    go_wp2_with fail
    refine (canBeTested_any f w).mono ?_
    rintro e w' ⟨rfl, rfl⟩
    rw [Hw.out]
    go_wp2_with fail
    go_ret2
    exact ⟨rfl, Below.refl _ _⟩
  · have hf := wf_parts hw
    obtain ⟨n, rfl⟩ := Int.eq_ofNat_of_zero_le (a := f) (by omega)
    have hR : fwR (n : Int) = bl n := by simp [fwR, hw]
    rw [hR]
    have Hw := Lib.hid hw
    have hn1 : 1 ≤ n := by omega
    have hn10 : n ≤ 10 := by omega
    have hwr : IntKind.u64.wrap (n : Int) = n := by rw [IntKind.wrap_u64]; omega
    clear hf hw hR
    go_enter Try.func27, Try.ntmps27
    go_wp2_with fail
    refine (canBeTested_any (n : Int) w).mono ?_
    rintro e w' ⟨rfl, rfl⟩
    rw [Hw.out]
    go_wp2_with fail
    refine (len_any w n hn1 hn10).mono ?_
    rintro e w' ⟨rfl, rfl⟩
    go_wp2_with fail
    go_ret2
    exact ⟨rfl, Below.refl _ _⟩

end Go.Proofs.Ytejmlhhblckddaa
