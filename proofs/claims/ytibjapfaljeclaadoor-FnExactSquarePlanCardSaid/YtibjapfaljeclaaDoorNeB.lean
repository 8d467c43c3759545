/- There are so many friends; one call before another one: the model. -/
import Derived.Test.YtibjapfaljeclaaDoorInc
namespace Go.Proofs.YtibjapfaljeclaaDoor
open Go.ChangeShapes Go.WideShapes Go.ChangeAt Go.RowKit
set_option linter.unusedVariables false

theorem neFriends_any (f : Int) (w : World) : Calls Tryd.prog 29 #[.int .i64 f] w fun e w' => e = .returned (.bool (frB f)) ∧ w = w' := by
  by_cases h1 : 1 ≤ f
  · by_cases h2 : f ≤ 10
    · have hf : frB f = true := by simp [frB, h1, h2]
      rw [hf]
      go_enter Tryd.func29, Tryd.ntmps29
      go_wp2
      go_ret
      exact ⟨rfl, rfl⟩
    · have hf : frB f = false := by simp [frB, h2]
      have hd : decide (f ≤ 10) = false := by simpa using h2
      rw [hf]
      go_enter Tryd.func29, Tryd.ntmps29
      go_wp2
      go_ret
      exact ⟨by simp, rfl⟩
  · have hf : frB f = false := by simp [frB, h1]
    have hd : decide (1 ≤ f) = false := by simpa using h1
    rw [hf]
    go_enter Tryd.func29, Tryd.ntmps29
    go_wp2
    go_ret
    exact ⟨rfl, rfl⟩

theorem canBeNetted_any (f : Int) (w : World) : Calls Tryd.prog 48 #[.int .i64 f] w fun e w' => e = .returned (.bool (frB f)) ∧ w = w' := by
  by_cases h1 : 1 ≤ f
  · by_cases h2 : f ≤ 10
    · have hf : frB f = true := by simp [frB, h1, h2]
      rw [hf]
      go_enter Tryd.func48, Tryd.ntmps48
      go_wp2
      go_ret
      exact ⟨rfl, rfl⟩
    · have hf : frB f = false := by simp [frB, h2]
      have hd : decide (f ≤ 10) = false := by simpa using h2
      rw [hf]
      go_enter Tryd.func48, Tryd.ntmps48
      go_wp2
      go_ret
      exact ⟨by simp, rfl⟩
  · have hf : frB f = false := by simp [frB, h1]
    have hd : decide (1 ≤ f) = false := by simpa using h1
    rw [hf]
    go_enter Tryd.func48, Tryd.ntmps48
    go_wp2
    go_ret
    exact ⟨rfl, rfl⟩

/-- This call comes before that one. -/
def ltC (a b c d : Int) : Bool := decide (a < c ∨ a = c ∧ b < d)

theorem neLess_any (a b c d : Int) (w : World) : Calls Tryd.prog 31 #[.agg #[.int .i64 a, .int .i64 b], .agg #[.int .i64 c, .int .i64 d]] w fun e w' => e = .returned (.bool (ltC a b c d)) ∧ Below w.heap.size w w' := by
  by_cases h1 : a < c
  · have e : ltC a b c d = true := by simp [ltC, h1]
    have hd : decide (a < c) = true := by simpa using h1
    rw [e]
    clear e
    go_enter Tryd.func31, Tryd.ntmps31
    go_wp2
    go_ret
    exact ⟨rfl, by go_grown⟩
  · have hd : decide (a < c) = false := by simpa using h1
    by_cases h2 : a = c
    · subst h2
      have e : ltC a b a d = decide (b < d) := by simp [ltC]
      have hq : (a == a) = true := by simp
      rw [e]
      clear e h1
      go_enter Tryd.func31, Tryd.ntmps31
      go_wp2
      go_ret
      exact ⟨rfl, by go_grown⟩
    · have e : ltC a b c d = false := by simp [ltC, h1, h2]
      have hq : (a == c) = false := by simpa using h2
      rw [e]
      clear e h1 h2
      go_enter Tryd.func31, Tryd.ntmps31
      go_wp2
      go_ret
      exact ⟨rfl, by go_grown⟩

theorem caCall_grown (f a b : Int) (w : World) (hf : 1 ≤ f) (hf2 : f ≤ 10) : Calls Tryd.prog 30 #[.int .i64 f, .agg #[.int .i64 a, .int .i64 b]] w fun e w' => e = .returned (.bool (calB f a b)) ∧ ∃ q os', w' = Sort.grow (w.drewN q) os' := by
  by_cases h1 : 0 ≤ a
  · by_cases h2 : a ≤ f - 1
    · by_cases h3 : a + 1 ≤ b
      · by_cases h4 : b ≤ f - 1
        · have hc : calB f a b = true := by simp [calB]; omega
          rw [hc]
          go_enter Tryd.func30, Tryd.ntmps30
          go_wp2
          go_ret
          exact ⟨rfl, 0, _, by rw [Sort.alloc_eq_grow]; rfl⟩
        · have hc : calB f a b = false := by simp [calB]; omega
          have hd : decide (b ≤ f - 1) = false := by simpa using h4
          rw [hc]
          go_enter Tryd.func30, Tryd.ntmps30
          go_wp2
          go_ret
          exact ⟨by simp, 0, _, by rw [Sort.alloc_eq_grow]; rfl⟩
      · have hc : calB f a b = false := by simp [calB]; omega
        have hd : decide (a + 1 ≤ b) = false := by simpa using h3
        rw [hc]
        go_enter Tryd.func30, Tryd.ntmps30
        go_wp2
        go_ret
        exact ⟨rfl, 0, _, by rw [Sort.alloc_eq_grow]; rfl⟩
    · have hc : calB f a b = false := by simp [calB]; omega
      have hd : decide (a ≤ f - 1) = false := by simpa using h2
      rw [hc]
      go_enter Tryd.func30, Tryd.ntmps30
      go_wp2
      go_ret
      exact ⟨by simp, 0, _, by rw [Sort.alloc_eq_grow]; rfl⟩
  · have hc : calB f a b = false := by simp [calB]; omega
    have hd : decide (0 ≤ a) = false := by simpa using h1
    rw [hc]
    go_enter Tryd.func30, Tryd.ntmps30
    go_wp2
    go_ret
    exact ⟨rfl, 0, _, by rw [Sort.alloc_eq_grow]; rfl⟩

theorem neLess_grown (a b c d : Int) (w : World) : Calls Tryd.prog 31 #[.agg #[.int .i64 a, .int .i64 b], .agg #[.int .i64 c, .int .i64 d]] w fun e w' => e = .returned (.bool (ltC a b c d)) ∧ ∃ q os', w' = Sort.grow (w.drewN q) os' := by
  by_cases h1 : a < c
  · have e : ltC a b c d = true := by simp [ltC, h1]
    have hd : decide (a < c) = true := by simpa using h1
    rw [e]
    clear e
    go_enter Tryd.func31, Tryd.ntmps31
    go_wp2
    go_ret
    exact ⟨rfl, 0, _, by rw [Sort.alloc_eq_grow, Sort.alloc_eq_grow, Sort.grow_grow]; rfl⟩
  · have hd : decide (a < c) = false := by simpa using h1
    by_cases h2 : a = c
    · subst h2
      have e : ltC a b a d = decide (b < d) := by simp [ltC]
      have hq : (a == a) = true := by simp
      rw [e]
      clear e h1
      go_enter Tryd.func31, Tryd.ntmps31
      go_wp2
      go_ret
      exact ⟨rfl, 0, _, by rw [Sort.alloc_eq_grow, Sort.alloc_eq_grow, Sort.grow_grow]; rfl⟩
    · have e : ltC a b c d = false := by simp [ltC, h1, h2]
      have hq : (a == c) = false := by simpa using h2
      rw [e]
      clear e h1 h2
      go_enter Tryd.func31, Tryd.ntmps31
      go_wp2
      go_ret
      exact ⟨rfl, 0, _, by rw [Sort.alloc_eq_grow, Sort.alloc_eq_grow, Sort.grow_grow]; rfl⟩

theorem mixedT : Tryd.prog.follows .mixedOrders = true := by kernel_rfl
end Go.Proofs.YtibjapfaljeclaaDoor
