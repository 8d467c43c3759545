/- The checks of numbers. -/
import Derived.Test.YtghfkgbmmkcjhaaInts
namespace Go.Proofs.Ytghfkgbmmkcjhaa
open Go.ChangeShapes Go.WideShapes Go.ChangeAt Go.RowKit
set_option linter.unusedVariables false


def deB (x : Int) : Bool := decide (1 ≤ x ∧ x ≤ 10)
def miB (x : Int) : Bool := decide (0 ≤ x ∧ x ≤ 60)
def mnB (x : Int) : Bool := decide (1 ≤ x ∧ x ≤ 1000000)
def peB (x : Int) : Bool := decide (1 ≤ x ∧ x ≤ 40)
theorem de_in {x : Int} (h : deB x = true) : ∃ d : Nat, x = d ∧ 1 ≤ d ∧ d ≤ 10 := by
  simp only [deB, decide_eq_true_eq] at h; exact ⟨x.toNat, by omega, by omega, by omega⟩
theorem mi_in {x : Int} (h : miB x = true) : ∃ m : Nat, x = m ∧ m ≤ 60 := by
  simp only [miB, decide_eq_true_eq] at h; exact ⟨x.toNat, by omega, by omega⟩
theorem mn_in {x : Int} (h : mnB x = true) : ∃ m : Nat, x = m ∧ 1 ≤ m ∧ m ≤ 1000000 := by
  simp only [mnB, decide_eq_true_eq] at h; exact ⟨x.toNat, by omega, by omega, by omega⟩
theorem pe_in {x : Int} (h : peB x = true) : ∃ m : Nat, x = m ∧ 1 ≤ m ∧ m ≤ 40 := by
  simp only [peB, decide_eq_true_eq] at h; exact ⟨x.toNat, by omega, by omega, by omega⟩
theorem l1In_any (x lo hi : Int) (w : World) : Calls Try.prog 51 #[.int .i64 x, .int .i64 lo, .int .i64 hi] w fun e w' => e = .returned (.bool (decide (lo ≤ x ∧ x ≤ hi))) ∧ w = w' := by
  by_cases h1 : lo ≤ x
  · by_cases h2 : x ≤ hi
    · rw [show decide (lo ≤ x ∧ x ≤ hi) = true by simp [h1, h2]]
      go_enter Try.func51, Try.ntmps51
      go_wp2
      go_ret
      exact ⟨by first | rfl | (simp; done) | (simp; omega), rfl⟩
    · rw [show decide (lo ≤ x ∧ x ≤ hi) = false by simp [h2]]
      have hd : decide (x ≤ hi) = false := by simpa using h2
      go_enter Try.func51, Try.ntmps51
      go_wp2
      go_ret
      exact ⟨by first | rfl | (simp; done) | (simp; omega), rfl⟩
  · rw [show decide (lo ≤ x ∧ x ≤ hi) = false by simp [h1]]
    have hd : decide (lo ≤ x) = false := by simpa using h1
    go_enter Try.func51, Try.ntmps51
    go_wp2
    go_ret
    exact ⟨rfl, rfl⟩

theorem isDelay_any (x : Int) (w : World) : Calls Try.prog 53 #[.int .i64 x] w fun e w' => e = .returned (.bool (deB x)) ∧ w = w' := by
  unfold deB
  by_cases h1 : 1 ≤ x
  · by_cases h2 : x ≤ 10
    · rw [show decide (1 ≤ x ∧ x ≤ 10) = true by simp [h1, h2]]
      go_enter Try.func53, Try.ntmps53
      go_wp2
      go_ret
      exact ⟨by first | rfl | (simp; done) | (simp; omega), rfl⟩
    · rw [show decide (1 ≤ x ∧ x ≤ 10) = false by simp [h2]]
      have hd : decide (x ≤ 10) = false := by simpa using h2
      go_enter Try.func53, Try.ntmps53
      go_wp2
      go_ret
      exact ⟨by first | rfl | (simp; done) | (simp; omega), rfl⟩
  · rw [show decide (1 ≤ x ∧ x ≤ 10) = false by simp [h1]]
    have hd : decide (1 ≤ x) = false := by simpa using h1
    go_enter Try.func53, Try.ntmps53
    go_wp2
    go_ret
    exact ⟨by first | rfl | (simp; done) | (simp; omega), rfl⟩

theorem isMinute_any (x : Int) (w : World) : Calls Try.prog 54 #[.int .i64 x] w fun e w' => e = .returned (.bool (miB x)) ∧ w = w' := by
  unfold miB
  by_cases h1 : 0 ≤ x
  · by_cases h2 : x ≤ 60
    · rw [show decide (0 ≤ x ∧ x ≤ 60) = true by simp [h1, h2]]
      go_enter Try.func54, Try.ntmps54
      go_wp2
      go_ret
      exact ⟨by first | rfl | (simp; done) | (simp; omega), rfl⟩
    · rw [show decide (0 ≤ x ∧ x ≤ 60) = false by simp [h2]]
      have hd : decide (x ≤ 60) = false := by simpa using h2
      go_enter Try.func54, Try.ntmps54
      go_wp2
      go_ret
      exact ⟨by first | rfl | (simp; done) | (simp; omega), rfl⟩
  · rw [show decide (0 ≤ x ∧ x ≤ 60) = false by simp [h1]]
    have hd : decide (0 ≤ x) = false := by simpa using h1
    go_enter Try.func54, Try.ntmps54
    go_wp2
    go_ret
    exact ⟨by first | rfl | (simp; done) | (simp; omega), rfl⟩

theorem canBeInformed_any (x : Int) (w : World) : Calls Try.prog 58 #[.int .i64 x] w fun e w' => e = .returned (.bool (mnB x)) ∧ w = w' := by
  unfold mnB
  by_cases h1 : 1 ≤ x
  · by_cases h2 : x ≤ 1000000
    · rw [show decide (1 ≤ x ∧ x ≤ 1000000) = true by simp [h1, h2]]
      go_enter Try.func58, Try.ntmps58
      go_wp2
      go_ret
      exact ⟨by first | rfl | (simp; done) | (simp; omega), rfl⟩
    · rw [show decide (1 ≤ x ∧ x ≤ 1000000) = false by simp [h2]]
      have hd : decide (x ≤ 1000000) = false := by simpa using h2
      go_enter Try.func58, Try.ntmps58
      go_wp2
      go_ret
      exact ⟨by first | rfl | (simp; done) | (simp; omega), rfl⟩
  · rw [show decide (1 ≤ x ∧ x ≤ 1000000) = false by simp [h1]]
    have hd : decide (1 ≤ x) = false := by simpa using h1
    go_enter Try.func58, Try.ntmps58
    go_wp2
    go_ret
    exact ⟨by first | rfl | (simp; done) | (simp; omega), rfl⟩

theorem canBePeople_any (x : Int) (w : World) : Calls Try.prog 61 #[.int .i64 x] w fun e w' => e = .returned (.bool (peB x)) ∧ w = w' := by
  unfold peB
  by_cases h1 : 1 ≤ x
  · by_cases h2 : x ≤ 40
    · rw [show decide (1 ≤ x ∧ x ≤ 40) = true by simp [h1, h2]]
      go_enter Try.func61, Try.ntmps61
      go_wp2
      go_ret
      exact ⟨by first | rfl | (simp; done) | (simp; omega), rfl⟩
    · rw [show decide (1 ≤ x ∧ x ≤ 40) = false by simp [h2]]
      have hd : decide (x ≤ 40) = false := by simpa using h2
      go_enter Try.func61, Try.ntmps61
      go_wp2
      go_ret
      exact ⟨by first | rfl | (simp; done) | (simp; omega), rfl⟩
  · rw [show decide (1 ≤ x ∧ x ≤ 40) = false by simp [h1]]
    have hd : decide (1 ≤ x) = false := by simpa using h1
    go_enter Try.func61, Try.ntmps61
    go_wp2
    go_ret
    exact ⟨by first | rfl | (simp; done) | (simp; omega), rfl⟩

theorem deDelay_any (x : Int) (w : World) : Calls Try.prog 50 #[.int .i64 x] w fun e w' => e = .returned (.bool (deB x)) ∧ w = w' := by
  go_enter Try.func50, Try.ntmps50
  go_wp2_with fail
  refine (l1In_any x 1 10 w).mono ?_
  rintro e w' ⟨rfl, rfl⟩
  go_wp2_with fail
  go_ret
  exact ⟨ret_bool (by simp [deB]), rfl⟩

theorem deMany_any (x : Int) (w : World) : Calls Try.prog 56 #[.int .i64 x] w fun e w' => e = .returned (.bool (mnB x)) ∧ w = w' := by
  go_enter Try.func56, Try.ntmps56
  go_wp2_with fail
  refine (l1In_any x 1 1000000 w).mono ?_
  rintro e w' ⟨rfl, rfl⟩
  go_wp2_with fail
  go_ret
  exact ⟨ret_bool (by simp [mnB]), rfl⟩

end Go.Proofs.Ytghfkgbmmkcjhaa
