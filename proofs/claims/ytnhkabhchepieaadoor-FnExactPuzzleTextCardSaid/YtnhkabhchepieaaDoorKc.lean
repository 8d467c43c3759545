/- What a clue is, by the model. -/
import Derived.Test.YtnhkabhchepieaaDoorClu
namespace Go.Proofs.YtnhkabhchepieaaDoor
open Go.ChangeShapes Go.WideShapes Go.ChangeAt Go.RowKit
set_option linter.unusedVariables false


def inB (x lo hi : Int) : Bool := decide (lo ≤ x) && decide (x ≤ hi)
/-- What numbers hidden lists have. -/
def szB (f n : Int) : Bool := inB f 2 4 && inB n 0 3
/-- What a clue is, by the model. -/
def mB (f n : Int) (c : Clu) : Bool :=
  if c.1 = 0 then inB c.2.1 0 (f - 1) && c.2.2.1 == 0 && inB c.2.2.2 0 n
  else if c.1 = 1 then inB c.2.1 0 (f - 1) && c.2.2.1 == 0 && inB c.2.2.2 1 f
  else if c.1 = 2 then inB c.2.1 0 (f - 1) && inB c.2.2.1 0 (f - 1) && inB c.2.2.2 0 1
  else if c.1 = 3 then c.2.1 == 0 && c.2.2.1 == 0 && inB c.2.2.2 0 n
  else if c.1 = 4 then inB c.2.1 0 (n - 1) && inB c.2.2.1 0 (f - 1) && inB c.2.2.2 0 1
  else if c.1 = 5 then c.2.1 == 0 && c.2.2.1 == 0 && inB c.2.2.2 1 16
  else false
/-- The numbers of a kind: how many of the first and of the second, the least and the greatest of the third. -/
def kA (f n : Int) (k : Nat) : Int := if k ≤ 2 then f else if k = 4 then n else 1
def kB (f n : Int) (k : Nat) : Int := if k = 2 then f else if k = 4 then f else 1
def kL (k : Nat) : Int := if k = 1 then 1 else if k = 5 then 1 else 0
def kM (f n : Int) (k : Nat) : Int := if k = 0 then n else if k = 1 then f else if k = 2 then 1 else if k = 3 then n else if k = 4 then 1 else 16
def hasB (A B L M : Int) (c : Clu) : Bool := decide (0 ≤ c.2.1) && decide (c.2.1 < A) && decide (0 ≤ c.2.2.1) && decide (c.2.2.1 < B) && decide (L ≤ c.2.2.2) && decide (c.2.2.2 ≤ M)
/-- What a clue is, by the program. -/
def pB (f n : Int) (c : Clu) : Bool := decide (0 ≤ c.1) && (decide (c.1 < 6) && hasB (kA f n c.1.toNat) (kB f n c.1.toNat) (kL c.1.toNat) (kM f n c.1.toNat) c)
theorem mB_pB (f n : Int) (c : Clu) : mB f n c = pB f n c := by
  obtain ⟨k, a, b, d⟩ := c
  by_cases h : 0 ≤ k ∧ k < 6
  · obtain ⟨j, rfl⟩ := Int.eq_ofNat_of_zero_le h.1
    have hj : j = 0 ∨ j = 1 ∨ j = 2 ∨ j = 3 ∨ j = 4 ∨ j = 5 := by omega
    rcases hj with rfl | rfl | rfl | rfl | rfl | rfl <;>
      (rw [Bool.eq_iff_iff]; simp [mB, pB, hasB, kA, kB, kL, kM, inB, Int.toNat] <;> omega)
  · have h1 : pB f n (k, a, b, d) = false := by
      rw [← Bool.not_eq_true]
      intro hh
      simp [pB] at hh
      omega
    rw [h1]
    unfold mB
    simp only
    rw [if_neg (by omega), if_neg (by omega), if_neg (by omega), if_neg (by omega), if_neg (by omega), if_neg (by omega)]

theorem l1In_yes (x lo hi : Int) (w : World) (h : lo ≤ x ∧ x ≤ hi) : Calls Tryd.prog 66 #[.int .i64 x, .int .i64 lo, .int .i64 hi] w fun e w' => e = .returned (.bool true) ∧ w = w' := by
  obtain ⟨h1, h2⟩ := h
  have d1 : decide (lo ≤ x) = true := by simpa using h1
  have d2 : decide (x ≤ hi) = true := by simpa using h2
  have d3 : decide (x ≥ lo) = true := by simpa using h1
  go_enter Tryd.func66, Tryd.ntmps66
  go_wp2_with fail
  go_ret
  exact ⟨rfl, rfl⟩
theorem l1In_no (x lo hi : Int) (w : World) (h : ¬ (lo ≤ x ∧ x ≤ hi)) : Calls Tryd.prog 66 #[.int .i64 x, .int .i64 lo, .int .i64 hi] w fun e w' => e = .returned (.bool false) ∧ w = w' := by
  by_cases h1 : lo ≤ x
  · have h2 : ¬ x ≤ hi := fun h2 => h ⟨h1, h2⟩
    have d1 : decide (lo ≤ x) = true := by simpa using h1
    have d2 : decide (x ≤ hi) = false := by simpa using h2
    go_enter Tryd.func66, Tryd.ntmps66
    go_wp2_with fail
    go_ret
    exact ⟨rfl, rfl⟩
  · have d1 : decide (lo ≤ x) = false := by simpa using h1
    go_enter Tryd.func66, Tryd.ntmps66
    go_wp2_with fail
    go_ret
    exact ⟨rfl, rfl⟩
theorem l1In_any (x lo hi : Int) (w : World) : Calls Tryd.prog 66 #[.int .i64 x, .int .i64 lo, .int .i64 hi] w fun e w' => e = .returned (.bool (inB x lo hi)) ∧ w = w' := by
  by_cases h : lo ≤ x ∧ x ≤ hi
  · rw [show inB x lo hi = true by simp [inB]; exact h]; exact l1In_yes x lo hi w h
  · rw [show inB x lo hi = false by rw [← Bool.not_eq_true]; simpa [inB] using h]; exact l1In_no x lo hi w h
theorem pzSize_any (f n : Int) (w : World) : Calls Tryd.prog 71 #[.int .i64 f, .int .i64 n] w fun e w' => e = .returned (.bool (szB f n)) ∧ w = w' := by
  by_cases h : 2 ≤ f ∧ f ≤ 4
  · rw [show szB f n = inB n 0 3 by simp [szB, inB, h.1, h.2]]
    go_enter Tryd.func71, Tryd.ntmps71
    go_wp2_with fail
    refine (l1In_yes f 2 4 _ h).mono ?_
    rintro e w' ⟨rfl, rfl⟩
    go_wp2_with fail
    refine (l1In_any n 0 3 _).mono ?_
    rintro e w' ⟨rfl, rfl⟩
    go_wp2_with fail
    go_ret
    exact ⟨rfl, rfl⟩
  · rw [show szB f n = false by rw [← Bool.not_eq_true]; simp [szB, inB]; omega]
    go_enter Tryd.func71, Tryd.ntmps71
    go_wp2_with fail
    refine (l1In_no f 2 4 _ h).mono ?_
    rintro e w' ⟨rfl, rfl⟩
    go_wp2_with fail
    go_ret
    exact ⟨rfl, rfl⟩
theorem canHide_any (f n : Int) (w : World) : Calls Tryd.prog 92 #[.int .i64 f, .int .i64 n] w fun e w' => e = .returned (.bool (szB f n)) ∧ w = w' := by
  by_cases h1 : 2 ≤ f
  · by_cases h2 : f ≤ 4
    · by_cases h3 : 0 ≤ n
      · by_cases h4 : n ≤ 3
        · rw [show szB f n = true by simp [szB, inB]; omega]
          go_enter Tryd.func92, Tryd.ntmps92
          go_wp2_with fail
          go_ret
          exact ⟨rfl, rfl⟩
        · rw [show szB f n = false by rw [← Bool.not_eq_true]; simp [szB, inB]; omega]
          have d : decide (n ≤ 3) = false := by simpa using h4
          go_enter Tryd.func92, Tryd.ntmps92
          go_wp2_with fail
          go_ret
          exact ⟨rfl, rfl⟩
      · rw [show szB f n = false by rw [← Bool.not_eq_true]; simp [szB, inB]; omega]
        have d : decide (0 ≤ n) = false := by simpa using h3
        go_enter Tryd.func92, Tryd.ntmps92
        go_wp2_with fail
        go_ret
        exact ⟨rfl, rfl⟩
    · rw [show szB f n = false by rw [← Bool.not_eq_true]; simp [szB, inB]; omega]
      have d : decide (f ≤ 4) = false := by simpa using h2
      go_enter Tryd.func92, Tryd.ntmps92
      go_wp2_with fail
      go_ret
      exact ⟨rfl, rfl⟩
  · rw [show szB f n = false by rw [← Bool.not_eq_true]; simp [szB, inB]; omega]
    have d : decide (2 ≤ f) = false := by simpa using h1
    go_enter Tryd.func92, Tryd.ntmps92
    go_wp2_with fail
    go_ret
    exact ⟨rfl, rfl⟩
theorem sz_of {f n : Int} (h : szB f n = true) : (2 ≤ f ∧ f ≤ 4) ∧ (0 ≤ n ∧ n ≤ 3) := by simpa [szB, inB] using h

theorem pzClue_0 (f n a b d : Int) (w : World) (hf : 2 ≤ f ∧ f ≤ 4) (hn : 0 ≤ n ∧ n ≤ 3) :
    Calls Tryd.prog 72 #[.int .i64 f, .int .i64 n, .agg #[.int .i64 0, .int .i64 a, .int .i64 b, .int .i64 d]] w fun e w' => e = .returned (.bool (mB f n (0, a, b, d))) ∧ Below w.heap.size w w' := by
  have hw1 : IntKind.i64.wrap (f - 1) = f - 1 := IntWalk.i64_in _ (by omega)
  have hw2 : IntKind.i64.wrap (n - 1) = n - 1 := IntWalk.i64_in _ (by omega)
  by_cases h0 : 0 ≤ a ∧ a ≤ (f - 1)
  · by_cases h1 : b = 0
    · have g1 : (b == 0) = true := by simpa using h1
      by_cases h2 : 0 ≤ d ∧ d ≤ n
      · have hm : mB f n (0, a, b, d) = true := by simp [mB, inB]; try omega
        rw [hm]
        clear hm
        go_enter Tryd.func72, Tryd.ntmps72
        go_wp2_with fail
        refine (l1In_yes a 0 (f - 1) _ h0).mono ?_
        rintro e w' ⟨rfl, rfl⟩
        go_wp2_with fail
        refine (l1In_yes d 0 n _ h2).mono ?_
        rintro e w' ⟨rfl, rfl⟩
        go_wp2_with fail
        go_ret
        exact ⟨rfl, by go_grown⟩
      · have hm : mB f n (0, a, b, d) = false := by simp [mB, inB]; try omega
        rw [hm]
        clear hm
        go_enter Tryd.func72, Tryd.ntmps72
        go_wp2_with fail
        refine (l1In_yes a 0 (f - 1) _ h0).mono ?_
        rintro e w' ⟨rfl, rfl⟩
        go_wp2_with fail
        refine (l1In_no d 0 n _ h2).mono ?_
        rintro e w' ⟨rfl, rfl⟩
        go_wp2_with fail
        go_ret
        exact ⟨rfl, by go_grown⟩
    · have g1 : (b == 0) = false := by simpa using h1
      have hm : mB f n (0, a, b, d) = false := by simp [mB, inB]; try omega
      rw [hm]
      clear hm
      go_enter Tryd.func72, Tryd.ntmps72
      go_wp2_with fail
      refine (l1In_yes a 0 (f - 1) _ h0).mono ?_
      rintro e w' ⟨rfl, rfl⟩
      go_wp2_with fail
      go_ret
      exact ⟨rfl, by go_grown⟩
  · have hm : mB f n (0, a, b, d) = false := by simp [mB, inB]; try omega
    rw [hm]
    clear hm
    go_enter Tryd.func72, Tryd.ntmps72
    go_wp2_with fail
    refine (l1In_no a 0 (f - 1) _ h0).mono ?_
    rintro e w' ⟨rfl, rfl⟩
    go_wp2_with fail
    go_ret
    exact ⟨rfl, by go_grown⟩

theorem pzClue_1 (f n a b d : Int) (w : World) (hf : 2 ≤ f ∧ f ≤ 4) (hn : 0 ≤ n ∧ n ≤ 3) :
    Calls Tryd.prog 72 #[.int .i64 f, .int .i64 n, .agg #[.int .i64 1, .int .i64 a, .int .i64 b, .int .i64 d]] w fun e w' => e = .returned (.bool (mB f n (1, a, b, d))) ∧ Below w.heap.size w w' := by
  have hw1 : IntKind.i64.wrap (f - 1) = f - 1 := IntWalk.i64_in _ (by omega)
  have hw2 : IntKind.i64.wrap (n - 1) = n - 1 := IntWalk.i64_in _ (by omega)
  by_cases h0 : 0 ≤ a ∧ a ≤ (f - 1)
  · by_cases h1 : b = 0
    · have g1 : (b == 0) = true := by simpa using h1
      by_cases h2 : 1 ≤ d ∧ d ≤ f
      · have hm : mB f n (1, a, b, d) = true := by simp [mB, inB]; try omega
        rw [hm]
        clear hm
        go_enter Tryd.func72, Tryd.ntmps72
        go_wp2_with fail
        refine (l1In_yes a 0 (f - 1) _ h0).mono ?_
        rintro e w' ⟨rfl, rfl⟩
        go_wp2_with fail
        refine (l1In_yes d 1 f _ h2).mono ?_
        rintro e w' ⟨rfl, rfl⟩
        go_wp2_with fail
        go_ret
        exact ⟨rfl, by go_grown⟩
      · have hm : mB f n (1, a, b, d) = false := by simp [mB, inB]; try omega
        rw [hm]
        clear hm
        go_enter Tryd.func72, Tryd.ntmps72
        go_wp2_with fail
        refine (l1In_yes a 0 (f - 1) _ h0).mono ?_
        rintro e w' ⟨rfl, rfl⟩
        go_wp2_with fail
        refine (l1In_no d 1 f _ h2).mono ?_
        rintro e w' ⟨rfl, rfl⟩
        go_wp2_with fail
        go_ret
        exact ⟨rfl, by go_grown⟩
    · have g1 : (b == 0) = false := by simpa using h1
      have hm : mB f n (1, a, b, d) = false := by simp [mB, inB]; try omega
      rw [hm]
      clear hm
      go_enter Tryd.func72, Tryd.ntmps72
      go_wp2_with fail
      refine (l1In_yes a 0 (f - 1) _ h0).mono ?_
      rintro e w' ⟨rfl, rfl⟩
      go_wp2_with fail
      go_ret
      exact ⟨rfl, by go_grown⟩
  · have hm : mB f n (1, a, b, d) = false := by simp [mB, inB]; try omega
    rw [hm]
    clear hm
    go_enter Tryd.func72, Tryd.ntmps72
    go_wp2_with fail
    refine (l1In_no a 0 (f - 1) _ h0).mono ?_
    rintro e w' ⟨rfl, rfl⟩
    go_wp2_with fail
    go_ret
    exact ⟨rfl, by go_grown⟩

theorem pzClue_2 (f n a b d : Int) (w : World) (hf : 2 ≤ f ∧ f ≤ 4) (hn : 0 ≤ n ∧ n ≤ 3) :
    Calls Tryd.prog 72 #[.int .i64 f, .int .i64 n, .agg #[.int .i64 2, .int .i64 a, .int .i64 b, .int .i64 d]] w fun e w' => e = .returned (.bool (mB f n (2, a, b, d))) ∧ Below w.heap.size w w' := by
  have hw1 : IntKind.i64.wrap (f - 1) = f - 1 := IntWalk.i64_in _ (by omega)
  have hw2 : IntKind.i64.wrap (n - 1) = n - 1 := IntWalk.i64_in _ (by omega)
  by_cases h0 : 0 ≤ a ∧ a ≤ (f - 1)
  · by_cases h1 : 0 ≤ b ∧ b ≤ (f - 1)
    · by_cases h2 : 0 ≤ d ∧ d ≤ 1
      · have hm : mB f n (2, a, b, d) = true := by simp [mB, inB]; try omega
        rw [hm]
        clear hm
        go_enter Tryd.func72, Tryd.ntmps72
        go_wp2_with fail
        refine (l1In_yes a 0 (f - 1) _ h0).mono ?_
        rintro e w' ⟨rfl, rfl⟩
        go_wp2_with fail
        refine (l1In_yes b 0 (f - 1) _ h1).mono ?_
        rintro e w' ⟨rfl, rfl⟩
        go_wp2_with fail
        refine (l1In_yes d 0 1 _ h2).mono ?_
        rintro e w' ⟨rfl, rfl⟩
        go_wp2_with fail
        go_ret
        exact ⟨rfl, by go_grown⟩
      · have hm : mB f n (2, a, b, d) = false := by simp [mB, inB]; try omega
        rw [hm]
        clear hm
        go_enter Tryd.func72, Tryd.ntmps72
        go_wp2_with fail
        refine (l1In_yes a 0 (f - 1) _ h0).mono ?_
        rintro e w' ⟨rfl, rfl⟩
        go_wp2_with fail
        refine (l1In_yes b 0 (f - 1) _ h1).mono ?_
        rintro e w' ⟨rfl, rfl⟩
        go_wp2_with fail
        refine (l1In_no d 0 1 _ h2).mono ?_
        rintro e w' ⟨rfl, rfl⟩
        go_wp2_with fail
        go_ret
        exact ⟨rfl, by go_grown⟩
    · have hm : mB f n (2, a, b, d) = false := by simp [mB, inB]; try omega
      rw [hm]
      clear hm
      go_enter Tryd.func72, Tryd.ntmps72
      go_wp2_with fail
      refine (l1In_yes a 0 (f - 1) _ h0).mono ?_
      rintro e w' ⟨rfl, rfl⟩
      go_wp2_with fail
      refine (l1In_no b 0 (f - 1) _ h1).mono ?_
      rintro e w' ⟨rfl, rfl⟩
      go_wp2_with fail
      go_ret
      exact ⟨rfl, by go_grown⟩
  · have hm : mB f n (2, a, b, d) = false := by simp [mB, inB]; try omega
    rw [hm]
    clear hm
    go_enter Tryd.func72, Tryd.ntmps72
    go_wp2_with fail
    refine (l1In_no a 0 (f - 1) _ h0).mono ?_
    rintro e w' ⟨rfl, rfl⟩
    go_wp2_with fail
    go_ret
    exact ⟨rfl, by go_grown⟩

theorem pzClue_3 (f n a b d : Int) (w : World) (hf : 2 ≤ f ∧ f ≤ 4) (hn : 0 ≤ n ∧ n ≤ 3) :
    Calls Tryd.prog 72 #[.int .i64 f, .int .i64 n, .agg #[.int .i64 3, .int .i64 a, .int .i64 b, .int .i64 d]] w fun e w' => e = .returned (.bool (mB f n (3, a, b, d))) ∧ Below w.heap.size w w' := by
  have hw1 : IntKind.i64.wrap (f - 1) = f - 1 := IntWalk.i64_in _ (by omega)
  have hw2 : IntKind.i64.wrap (n - 1) = n - 1 := IntWalk.i64_in _ (by omega)
  by_cases h0 : a = 0
  · have g0 : (a == 0) = true := by simpa using h0
    by_cases h1 : b = 0
    · have g1 : (b == 0) = true := by simpa using h1
      by_cases h2 : 0 ≤ d ∧ d ≤ n
      · have hm : mB f n (3, a, b, d) = true := by simp [mB, inB]; try omega
        rw [hm]
        clear hm
        go_enter Tryd.func72, Tryd.ntmps72
        go_wp2_with fail
        refine (l1In_yes d 0 n _ h2).mono ?_
        rintro e w' ⟨rfl, rfl⟩
        go_wp2_with fail
        go_ret
        exact ⟨rfl, by go_grown⟩
      · have hm : mB f n (3, a, b, d) = false := by simp [mB, inB]; try omega
        rw [hm]
        clear hm
        go_enter Tryd.func72, Tryd.ntmps72
        go_wp2_with fail
        refine (l1In_no d 0 n _ h2).mono ?_
        rintro e w' ⟨rfl, rfl⟩
        go_wp2_with fail
        go_ret
        exact ⟨rfl, by go_grown⟩
    · have g1 : (b == 0) = false := by simpa using h1
      have hm : mB f n (3, a, b, d) = false := by simp [mB, inB]; try omega
      rw [hm]
      clear hm
      go_enter Tryd.func72, Tryd.ntmps72
      go_wp2_with fail
      go_ret
      exact ⟨rfl, by go_grown⟩
  · have g0 : (a == 0) = false := by simpa using h0
    have hm : mB f n (3, a, b, d) = false := by simp [mB, inB]; try omega
    rw [hm]
    clear hm
    go_enter Tryd.func72, Tryd.ntmps72
    go_wp2_with fail
    go_ret
    exact ⟨rfl, by go_grown⟩

theorem pzClue_4 (f n a b d : Int) (w : World) (hf : 2 ≤ f ∧ f ≤ 4) (hn : 0 ≤ n ∧ n ≤ 3) :
    Calls Tryd.prog 72 #[.int .i64 f, .int .i64 n, .agg #[.int .i64 4, .int .i64 a, .int .i64 b, .int .i64 d]] w fun e w' => e = .returned (.bool (mB f n (4, a, b, d))) ∧ Below w.heap.size w w' := by
  have hw1 : IntKind.i64.wrap (f - 1) = f - 1 := IntWalk.i64_in _ (by omega)
  have hw2 : IntKind.i64.wrap (n - 1) = n - 1 := IntWalk.i64_in _ (by omega)
  by_cases h0 : 0 ≤ a ∧ a ≤ (n - 1)
  · by_cases h1 : 0 ≤ b ∧ b ≤ (f - 1)
    · by_cases h2 : 0 ≤ d ∧ d ≤ 1
      · have hm : mB f n (4, a, b, d) = true := by simp [mB, inB]; try omega
        rw [hm]
        clear hm
        go_enter Tryd.func72, Tryd.ntmps72
        go_wp2_with fail
        refine (l1In_yes a 0 (n - 1) _ h0).mono ?_
        rintro e w' ⟨rfl, rfl⟩
        go_wp2_with fail
        refine (l1In_yes b 0 (f - 1) _ h1).mono ?_
        rintro e w' ⟨rfl, rfl⟩
        go_wp2_with fail
        refine (l1In_yes d 0 1 _ h2).mono ?_
        rintro e w' ⟨rfl, rfl⟩
        go_wp2_with fail
        go_ret
        exact ⟨rfl, by go_grown⟩
      · have hm : mB f n (4, a, b, d) = false := by simp [mB, inB]; try omega
        rw [hm]
        clear hm
        go_enter Tryd.func72, Tryd.ntmps72
        go_wp2_with fail
        refine (l1In_yes a 0 (n - 1) _ h0).mono ?_
        rintro e w' ⟨rfl, rfl⟩
        go_wp2_with fail
        refine (l1In_yes b 0 (f - 1) _ h1).mono ?_
        rintro e w' ⟨rfl, rfl⟩
        go_wp2_with fail
        refine (l1In_no d 0 1 _ h2).mono ?_
        rintro e w' ⟨rfl, rfl⟩
        go_wp2_with fail
        go_ret
        exact ⟨rfl, by go_grown⟩
    · have hm : mB f n (4, a, b, d) = false := by simp [mB, inB]; try omega
      rw [hm]
      clear hm
      go_enter Tryd.func72, Tryd.ntmps72
      go_wp2_with fail
      refine (l1In_yes a 0 (n - 1) _ h0).mono ?_
      rintro e w' ⟨rfl, rfl⟩
      go_wp2_with fail
      refine (l1In_no b 0 (f - 1) _ h1).mono ?_
      rintro e w' ⟨rfl, rfl⟩
      go_wp2_with fail
      go_ret
      exact ⟨rfl, by go_grown⟩
  · have hm : mB f n (4, a, b, d) = false := by simp [mB, inB]; try omega
    rw [hm]
    clear hm
    go_enter Tryd.func72, Tryd.ntmps72
    go_wp2_with fail
    refine (l1In_no a 0 (n - 1) _ h0).mono ?_
    rintro e w' ⟨rfl, rfl⟩
    go_wp2_with fail
    go_ret
    exact ⟨rfl, by go_grown⟩

theorem pzClue_5 (f n a b d : Int) (w : World) (hf : 2 ≤ f ∧ f ≤ 4) (hn : 0 ≤ n ∧ n ≤ 3) :
    Calls Tryd.prog 72 #[.int .i64 f, .int .i64 n, .agg #[.int .i64 5, .int .i64 a, .int .i64 b, .int .i64 d]] w fun e w' => e = .returned (.bool (mB f n (5, a, b, d))) ∧ Below w.heap.size w w' := by
  have hw1 : IntKind.i64.wrap (f - 1) = f - 1 := IntWalk.i64_in _ (by omega)
  have hw2 : IntKind.i64.wrap (n - 1) = n - 1 := IntWalk.i64_in _ (by omega)
  by_cases h0 : a = 0
  · have g0 : (a == 0) = true := by simpa using h0
    by_cases h1 : b = 0
    · have g1 : (b == 0) = true := by simpa using h1
      by_cases h2 : 1 ≤ d ∧ d ≤ 16
      · have hm : mB f n (5, a, b, d) = true := by simp [mB, inB]; try omega
        rw [hm]
        clear hm
        go_enter Tryd.func72, Tryd.ntmps72
        go_wp2_with fail
        refine (l1In_yes d 1 16 _ h2).mono ?_
        rintro e w' ⟨rfl, rfl⟩
        go_wp2_with fail
        go_ret
        exact ⟨rfl, by go_grown⟩
      · have hm : mB f n (5, a, b, d) = false := by simp [mB, inB]; try omega
        rw [hm]
        clear hm
        go_enter Tryd.func72, Tryd.ntmps72
        go_wp2_with fail
        refine (l1In_no d 1 16 _ h2).mono ?_
        rintro e w' ⟨rfl, rfl⟩
        go_wp2_with fail
        go_ret
        exact ⟨rfl, by go_grown⟩
    · have g1 : (b == 0) = false := by simpa using h1
      have hm : mB f n (5, a, b, d) = false := by simp [mB, inB]; try omega
      rw [hm]
      clear hm
      go_enter Tryd.func72, Tryd.ntmps72
      go_wp2_with fail
      go_ret
      exact ⟨rfl, by go_grown⟩
  · have g0 : (a == 0) = false := by simpa using h0
    have hm : mB f n (5, a, b, d) = false := by simp [mB, inB]; try omega
    rw [hm]
    clear hm
    go_enter Tryd.func72, Tryd.ntmps72
    go_wp2_with fail
    go_ret
    exact ⟨rfl, by go_grown⟩

theorem pzClue_x (f n k a b d : Int) (w : World) (hf : 2 ≤ f ∧ f ≤ 4) (hk : ¬ (0 ≤ k ∧ k < 6)) :
    Calls Tryd.prog 72 #[.int .i64 f, .int .i64 n, .agg #[.int .i64 k, .int .i64 a, .int .i64 b, .int .i64 d]] w fun e w' => e = .returned (.bool (mB f n (k, a, b, d))) ∧ Below w.heap.size w w' := by
  have hw1 : IntKind.i64.wrap (f - 1) = f - 1 := IntWalk.i64_in _ (by omega)
  have hm : mB f n (k, a, b, d) = false := by
    unfold mB
    simp only
    rw [if_neg (by omega), if_neg (by omega), if_neg (by omega), if_neg (by omega), if_neg (by omega), if_neg (by omega)]
  have k0 : (k == 0) = false := by simp; omega
  have k1 : (k == 1) = false := by simp; omega
  have k2 : (k == 2) = false := by simp; omega
  have k3 : (k == 3) = false := by simp; omega
  have k4 : (k == 4) = false := by simp; omega
  have k5 : (k == 5) = false := by simp; omega
  rw [hm]
  clear hm
  go_enter Tryd.func72, Tryd.ntmps72
  go_wp2_with fail
  go_ret
  exact ⟨rfl, by go_grown⟩
theorem pzClue_any (f n : Int) (c : Clu) (w : World) (hz : szB f n = true) :
    Calls Tryd.prog 72 #[.int .i64 f, .int .i64 n, .agg #[.int .i64 c.1, .int .i64 c.2.1, .int .i64 c.2.2.1, .int .i64 c.2.2.2]] w fun e w' => e = .returned (.bool (mB f n c)) ∧ Below w.heap.size w w' := by
  obtain ⟨k, a, b, d⟩ := c
  obtain ⟨hf, hn⟩ := sz_of hz
  by_cases h : 0 ≤ k ∧ k < 6
  · have hj : k = 0 ∨ k = 1 ∨ k = 2 ∨ k = 3 ∨ k = 4 ∨ k = 5 := by omega
    rcases hj with rfl | rfl | rfl | rfl | rfl | rfl
    · exact pzClue_0 f n a b d w hf hn
    · exact pzClue_1 f n a b d w hf hn
    · exact pzClue_2 f n a b d w hf hn
    · exact pzClue_3 f n a b d w hf hn
    · exact pzClue_4 f n a b d w hf hn
    · exact pzClue_5 f n a b d w hf hn
  · exact pzClue_x f n k a b d w hf h

end Go.Proofs.YtnhkabhchepieaaDoor
