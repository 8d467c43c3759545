/- One send looked at. -/
import Derived.Test.YtghfkgbmmkcjhaaArr
import Derived.Test.YtghfkgbmmkcjhaaChk
import Derived.Test.YtghfkgbmmkcjhaaSndH
import Derived.Shelf.Abstract
namespace Go.Proofs.Ytghfkgbmmkcjhaa
open Go.ChangeShapes Go.WideShapes Go.ChangeAt Go.RowKit
set_option linter.unusedVariables false


theorem isPerson_any (P x : Int) (w : World) : Calls Try.prog 71 #[.int .i64 P, .int .i64 x] w fun e w' => e = .returned (.bool (decide (0 ≤ x ∧ x < P))) ∧ w = w' := by
  by_cases h1 : 0 ≤ x
  · by_cases h2 : x < P
    · rw [show decide (0 ≤ x ∧ x < P) = true by simp [h1, h2]]
      go_enter Try.func71, Try.ntmps71
      go_wp2
      go_ret
      exact ⟨by first | rfl | (simp; done) | (simp; omega), rfl⟩
    · rw [show decide (0 ≤ x ∧ x < P) = false by simp [h2]]
      have hd : decide (x < P) = false := by simpa using h2
      go_enter Try.func71, Try.ntmps71
      go_wp2
      go_ret
      exact ⟨by first | rfl | (simp; done) | (simp; omega), rfl⟩
  · rw [show decide (0 ≤ x ∧ x < P) = false by simp [h1]]
    have hd : decide (0 ≤ x) = false := by simpa using h1
    go_enter Try.func71, Try.ntmps71
    go_wp2
    go_ret
    exact ⟨by first | rfl | (simp; done) | (simp; omega), rfl⟩

abbrev sv (s : Snd) : Value := .agg #[.int .i64 s.1, .int .i64 s.2.1, .int .i64 s.2.2]

set_option maxRecDepth 20000 in
theorem isSend_any (P a b c : Int) (w : World) : Calls Try.prog 75 #[.int .i64 P, .agg #[.int .i64 a, .int .i64 b, .int .i64 c]] w fun e w' => e = .returned (.bool (sdB P (a, b, c))) ∧ Below w.heap.size w w' := by
  have hbel : Below w.heap.size w (w.alloc (.cells #[.int .i64 a, .int .i64 b, .int .i64 c] 52)) := (Below.refl _ _).alloc (Nat.le_refl _) _
  cases h1 : decide (0 ≤ a ∧ a < P)
  · have hR : sdB P (a, b, c) = false := by simp only [sdB, h1, Bool.false_and]
    have H1 := Lib.hid h1
    rw [hR]
    clear h1 hR
    go_enter Try.func75, Try.ntmps75
    go_wp2_with fail
    refine (isPerson_any P a _).mono ?_
    rintro e w' ⟨rfl, rfl⟩
    rw [H1.out]
    go_wp2_with fail
    go_ret
    exact ⟨rfl, hbel⟩
  · cases h2 : decide (0 ≤ b ∧ b < P)
    · have hR : sdB P (a, b, c) = false := by simp only [sdB, h1, h2, Bool.false_and, Bool.and_false]
      have H1 := Lib.hid h1
      have H2 := Lib.hid h2
      rw [hR]
      clear h1 h2 hR
      go_enter Try.func75, Try.ntmps75
      go_wp2_with fail
      refine (isPerson_any P a _).mono ?_
      rintro e w' ⟨rfl, rfl⟩
      rw [H1.out]
      go_wp2_with fail
      refine (isPerson_any P b _).mono ?_
      rintro e w' ⟨rfl, rfl⟩
      rw [H2.out]
      go_wp2_with fail
      go_ret
      exact ⟨rfl, hbel⟩
    · cases h3 : miB c
      · have hR : sdB P (a, b, c) = false := by
          have : decide (0 ≤ c ∧ c ≤ 60) = false := h3
          simp only [sdB, this, Bool.false_and, Bool.and_false]
        have H1 := Lib.hid h1
        have H2 := Lib.hid h2
        have H3 := Lib.hid h3
        rw [hR]
        clear h1 h2 h3 hR
        go_enter Try.func75, Try.ntmps75
        go_wp2_with fail
        refine (isPerson_any P a _).mono ?_
        rintro e w' ⟨rfl, rfl⟩
        rw [H1.out]
        go_wp2_with fail
        refine (isPerson_any P b _).mono ?_
        rintro e w' ⟨rfl, rfl⟩
        rw [H2.out]
        go_wp2_with fail
        refine (isMinute_any c _).mono ?_
        rintro e w' ⟨rfl, rfl⟩
        rw [H3.out]
        go_wp2_with fail
        go_ret
        exact ⟨rfl, hbel⟩
      · have hR : sdB P (a, b, c) = (b != a && b != 0) := by
          have : decide (0 ≤ c ∧ c ≤ 60) = true := h3
          simp only [sdB, h1, h2, this, Bool.true_and]
        have H1 := Lib.hid h1
        have H2 := Lib.hid h2
        have H3 := Lib.hid h3
        rw [hR]
        clear h1 h2 h3 hR
        cases h4 : b != a
        · go_enter Try.func75, Try.ntmps75
          go_wp2_with fail
          refine (isPerson_any P a _).mono ?_
          rintro e w' ⟨rfl, rfl⟩
          rw [H1.out]
          go_wp2_with fail
          refine (isPerson_any P b _).mono ?_
          rintro e w' ⟨rfl, rfl⟩
          rw [H2.out]
          go_wp2_with fail
          refine (isMinute_any c _).mono ?_
          rintro e w' ⟨rfl, rfl⟩
          rw [H3.out]
          go_wp2_with fail
          go_ret
          exact ⟨rfl, hbel⟩
        · cases h5 : b != 0
          all_goals
            go_enter Try.func75, Try.ntmps75
            go_wp2_with fail
            refine (isPerson_any P a _).mono ?_
            rintro e w' ⟨rfl, rfl⟩
            rw [H1.out]
            go_wp2_with fail
            refine (isPerson_any P b _).mono ?_
            rintro e w' ⟨rfl, rfl⟩
            rw [H2.out]
            go_wp2_with fail
            refine (isMinute_any c _).mono ?_
            rintro e w' ⟨rfl, rfl⟩
            rw [H3.out]
            go_wp2_with fail
            go_ret
            exact ⟨rfl, hbel⟩

/-- The three cells of the send that is looked at. -/
def At3 (w : World) (q : Nat) (s : Snd) : Prop := w.cell? ⟨q, 0, none⟩ = some (.int .i64 s.1) ∧ w.cell? ⟨q, 1, none⟩ = some (.int .i64 s.2.1) ∧ w.cell? ⟨q, 2, none⟩ = some (.int .i64 s.2.2)
theorem At3.kept {w w' : World} {q : Nat} {s : Snd} (h : At3 w q s) (hb : Below w.heap.size w w') : At3 w' q s := by
  have hbk := World.block_lt_of_cell? w _ h.1
  exact ⟨(hb.cell (p := ⟨q, 0, none⟩) hbk).trans h.1, (hb.cell (p := ⟨q, 1, none⟩) hbk).trans h.2.1, (hb.cell (p := ⟨q, 2, none⟩) hbk).trans h.2.2⟩

set_option maxRecDepth 20000 in
theorem clos_any (a b c : Int) (s : Snd) (q : Nat) (w : World) (hq : At3 w q s) :
    Calls Try.prog 87 #[.agg #[.int .i64 a, .int .i64 b, .int .i64 c], .pointer (some ⟨q, 0, none⟩)] w fun e w' => e = .returned (.bool (meetB s (a, b, c))) ∧ Below w.heap.size w w' := by
  obtain ⟨x, y, z⟩ := s
  have hbel : Below w.heap.size w (w.alloc (.cells #[.int .i64 a, .int .i64 b, .int .i64 c] 52)) := (Below.refl _ _).alloc (Nat.le_refl _) _
  obtain ⟨c0, c1, c2⟩ := hq.kept hbel
  simp only at c0 c1 c2
  have hm : meetB (x, y, z) (a, b, c) = (b == y || (a == x && c == z)) := rfl
  rw [hm]
  cases h1 : b == y
  · cases h2 : a == x
    · go_enter Try.func87, Try.ntmps87
      go_wp2_with fail
      go_ret
      exact ⟨rfl, hbel⟩
    · cases h3 : c == z
      all_goals
        go_enter Try.func87, Try.ntmps87
        go_wp2_with fail
        go_ret
        exact ⟨rfl, hbel⟩
  · go_enter Try.func87, Try.ntmps87
    go_wp2_with fail
    go_ret
    exact ⟨rfl, hbel⟩

end Go.Proofs.Ytghfkgbmmkcjhaa
