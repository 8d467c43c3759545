/- How numbers compare, in the library: cmp.Compare and cmp.Or. -/
import Derived.Test.YtibjapfaljeclaaDoorNetM
namespace Go.Proofs.YtibjapfaljeclaaDoor
open Go.ChangeShapes Go.WideShapes Go.ChangeAt Go.RowKit


/-- How two numbers compare. -/
def cmI (x y : Int) : Int := if x < y then -1 else if y < x then 1 else 0
/-- How two calls compare. -/
def cmC (x y : Int × Int) : Int := if cmI x.1 y.1 ≠ 0 then cmI x.1 y.1 else cmI x.2 y.2

theorem isNaN_any (x : Int) (w : World) : Calls Tryd.prog 67 #[.int .i64 x] w fun e w' => e = .returned (.bool false) ∧ w = w' := by
  have h : (x != x) = false := by simp
  go_enter Tryd.func67, Tryd.ntmps67
  go_wp2
  go_ret
  exact ⟨rfl, rfl⟩

theorem compare_any (x y : Int) (w : World) : Calls Tryd.prog 65 #[.int .i64 x, .int .i64 y] w fun e w' => e = .returned (.int .i64 (cmI x y)) ∧ w = w' := by
  by_cases h1 : x < y
  · have e : cmI x y = -1 := by simp [cmI, h1]
    rw [e]
    go_enter Tryd.func65, Tryd.ntmps65
    go_wp2_with fail
    refine (isNaN_any x w).mono ?_
    rintro e w' ⟨rfl, rfl⟩
    go_wp2_with fail
    refine (isNaN_any y w).mono ?_
    rintro e w' ⟨rfl, rfl⟩
    go_wp2_with fail
    go_ret
    exact ⟨rfl, rfl⟩
  · by_cases h2 : y < x
    · have e : cmI x y = 1 := by simp [cmI, h1, h2]
      rw [e]
      go_enter Tryd.func65, Tryd.ntmps65
      go_wp2_with fail
      refine (isNaN_any x w).mono ?_
      rintro e w' ⟨rfl, rfl⟩
      go_wp2_with fail
      refine (isNaN_any y w).mono ?_
      rintro e w' ⟨rfl, rfl⟩
      go_wp2_with fail
      go_ret
      exact ⟨rfl, rfl⟩
    · have e : cmI x y = 0 := by simp [cmI, h1, h2]
      rw [e]
      go_enter Tryd.func65, Tryd.ntmps65
      go_wp2_with fail
      refine (isNaN_any x w).mono ?_
      rintro e w' ⟨rfl, rfl⟩
      go_wp2_with fail
      refine (isNaN_any y w).mono ?_
      rintro e w' ⟨rfl, rfl⟩
      go_wp2_with fail
      go_ret
      exact ⟨rfl, rfl⟩

theorem or_any (b cap : Nat) (x y r : Int) (w : World) (hr : r = if x ≠ 0 then x else y) (h0 : w.cell? ⟨b, 0, none⟩ = some (.int .i64 x)) (h1 : w.cell? ⟨b, 1, none⟩ = some (.int .i64 y)) :
    Calls Tryd.prog 64 #[.slice (some ⟨b, 0, none⟩) 2 cap] w fun e w' => e = .returned (.int .i64 r) ∧ w = w' := by
  rw [hr]
  clear hr
  by_cases hx : x = 0
  · subst hx
    have e : (if (0 : Int) ≠ 0 then (0 : Int) else y) = y := by simp
    rw [e]
    by_cases hy : y = 0
    · subst hy
      go_enter Tryd.func64, Tryd.ntmps64
      go_wp2_with fail
      go_rounds 3
      go_ret
      exact ⟨rfl, rfl⟩
    · have ht : (y != 0) = true := by simpa using hy
      clear hy
      go_enter Tryd.func64, Tryd.ntmps64
      go_wp2_with fail
      go_rounds 2
      go_ret
      exact ⟨rfl, rfl⟩
  · have ht : (x != 0) = true := by simpa using hx
    have e : (if x ≠ 0 then x else y) = x := by simp [hx]
    rw [e]
    clear hx e
    go_enter Tryd.func64, Tryd.ntmps64
    go_wp2_with fail
    go_rounds 1
    go_ret
    exact ⟨rfl, rfl⟩

end Go.Proofs.YtibjapfaljeclaaDoor
