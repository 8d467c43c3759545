/- How the model compares calls. -/
import Derived.Test.YtnngdoiempmkkaaRndI2
namespace Go.Proofs.Ytnngdoiempmkkaa
open Go.ChangeShapes Go.WideShapes Go.ChangeAt Go.RowKit
set_option linter.unusedVariables false


/-- This call comes before that one. -/
def ltC (a b c d : Int) : Bool := decide (a < c ∨ a = c ∧ b < d)

theorem roLess_any (a b c d : Int) (w : World) : Calls Try.prog 41 #[.agg #[.int .i64 a, .int .i64 b], .agg #[.int .i64 c, .int .i64 d]] w fun e w' => e = .returned (.bool (ltC a b c d)) ∧ Below w.heap.size w w' := by
  by_cases h1 : a < c
  · have e : ltC a b c d = true := by simp [ltC, h1]
    have hd : decide (a < c) = true := by simpa using h1
    rw [e]
    clear e
    go_enter Try.func41, Try.ntmps41
    go_wp2
    go_ret
    exact ⟨rfl, by go_grown⟩
  · have hd : decide (a < c) = false := by simpa using h1
    by_cases h2 : a = c
    · subst h2
      have e : ltC a b a d = decide (b < d) := by simp [ltC]
      have hq : (a == a) = true := by simp
      rw [e]
      clear e h1
      go_enter Try.func41, Try.ntmps41
      go_wp2
      go_ret
      exact ⟨rfl, by go_grown⟩
    · have e : ltC a b c d = false := by simp [ltC, h1, h2]
      have hq : (a == c) = false := by simpa using h2
      rw [e]
      clear e h1 h2
      go_enter Try.func41, Try.ntmps41
      go_wp2
      go_ret
      exact ⟨rfl, by go_grown⟩

theorem rnd_no {f : Int} {l : List (Int × Int)} {k : Nat} (hk : k < l.length) (h : rok f l k = false) : rndB f l = false := by
  unfold rndB
  rw [List.all_eq_false]
  exact ⟨k, List.mem_range.2 hk, by rw [h]; simp⟩
theorem rnd_yes {f : Int} {l : List (Int × Int)} (h : ∀ j, j < l.length → rok f l j = true) : rndB f l = true := by
  unfold rndB
  rw [List.all_eq_true]
  exact fun j hj => h j (List.mem_range.1 hj)

theorem caCall_grown (f a b : Int) (w : World) (hf : 1 ≤ f) (hf2 : f ≤ 10) : Calls Try.prog 40 #[.int .i64 f, .agg #[.int .i64 a, .int .i64 b]] w fun e w' => e = .returned (.bool (calB f a b)) ∧ ∃ q os', w' = Sort.grow (w.drewN q) os' := by
  by_cases h1 : 0 ≤ a
  · by_cases h2 : a ≤ f - 1
    · by_cases h3 : a + 1 ≤ b
      · by_cases h4 : b ≤ f - 1
        · have hc : calB f a b = true := by simp [calB]; omega
          rw [hc]
          go_enter Try.func40, Try.ntmps40
          go_wp2
          go_ret
          exact ⟨rfl, 0, _, by rw [Sort.alloc_eq_grow]; rfl⟩
        · have hc : calB f a b = false := by simp [calB]; omega
          have hd : decide (b ≤ f - 1) = false := by simpa using h4
          rw [hc]
          go_enter Try.func40, Try.ntmps40
          go_wp2
          go_ret
          exact ⟨by simp, 0, _, by rw [Sort.alloc_eq_grow]; rfl⟩
      · have hc : calB f a b = false := by simp [calB]; omega
        have hd : decide (a + 1 ≤ b) = false := by simpa using h3
        rw [hc]
        go_enter Try.func40, Try.ntmps40
        go_wp2
        go_ret
        exact ⟨rfl, 0, _, by rw [Sort.alloc_eq_grow]; rfl⟩
    · have hc : calB f a b = false := by simp [calB]; omega
      have hd : decide (a ≤ f - 1) = false := by simpa using h2
      rw [hc]
      go_enter Try.func40, Try.ntmps40
      go_wp2
      go_ret
      exact ⟨by simp, 0, _, by rw [Sort.alloc_eq_grow]; rfl⟩
  · have hc : calB f a b = false := by simp [calB]; omega
    have hd : decide (0 ≤ a) = false := by simpa using h1
    rw [hc]
    go_enter Try.func40, Try.ntmps40
    go_wp2
    go_ret
    exact ⟨rfl, 0, _, by rw [Sort.alloc_eq_grow]; rfl⟩

theorem roLess_grown (a b c d : Int) (w : World) : Calls Try.prog 41 #[.agg #[.int .i64 a, .int .i64 b], .agg #[.int .i64 c, .int .i64 d]] w fun e w' => e = .returned (.bool (ltC a b c d)) ∧ ∃ q os', w' = Sort.grow (w.drewN q) os' := by
  by_cases h1 : a < c
  · have e : ltC a b c d = true := by simp [ltC, h1]
    have hd : decide (a < c) = true := by simpa using h1
    rw [e]
    clear e
    go_enter Try.func41, Try.ntmps41
    go_wp2
    go_ret
    exact ⟨rfl, 0, _, by rw [Sort.alloc_eq_grow, Sort.alloc_eq_grow, Sort.grow_grow]; rfl⟩
  · have hd : decide (a < c) = false := by simpa using h1
    by_cases h2 : a = c
    · subst h2
      have e : ltC a b a d = decide (b < d) := by simp [ltC]
      have hq : (a == a) = true := by simp
      rw [e]
      clear e h1
      go_enter Try.func41, Try.ntmps41
      go_wp2
      go_ret
      exact ⟨rfl, 0, _, by rw [Sort.alloc_eq_grow, Sort.alloc_eq_grow, Sort.grow_grow]; rfl⟩
    · have e : ltC a b c d = false := by simp [ltC, h1, h2]
      have hq : (a == c) = false := by simpa using h2
      rw [e]
      clear e h1 h2
      go_enter Try.func41, Try.ntmps41
      go_wp2
      go_ret
      exact ⟨rfl, 0, _, by rw [Sort.alloc_eq_grow, Sort.alloc_eq_grow, Sort.grow_grow]; rfl⟩


theorem mixedT : Try.prog.follows .mixedOrders = true := by kernel_rfl

end Go.Proofs.Ytnngdoiempmkkaa
