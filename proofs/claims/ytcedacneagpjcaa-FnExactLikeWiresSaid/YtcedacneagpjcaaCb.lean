/- Groupings: what they are; the model and the program. -/
import Derived.Test.YtcedacneagpjcaaInts
namespace Go.Proofs.Ytcedacneagpjcaa
open Go.ChangeShapes Go.WideShapes Go.ChangeAt Go.RowKit
set_option linter.unusedVariables false


/-- How many groups the first k wires are in. -/
def nx (l : List Int) : Nat → Int | 0 => 0 | k + 1 => if na l k = nx l k then nx l k + 1 else nx l k

/-- The first k wires are in groups told in the order in which they come. -/
def grTo (l : List Int) (k : Nat) : Bool := (List.range k).all fun i => decide (0 ≤ na l i ∧ na l i ≤ nx l i)

/-- These are groups of a cable's wires. -/
def grB (l : List Int) : Bool := decide (1 ≤ l.length ∧ l.length ≤ 12) && grTo l l.length

theorem nx_nonneg (l : List Int) : ∀ k, 0 ≤ nx l k
  | 0 => by simp [nx]
  | k + 1 => by
    have h := nx_nonneg l k
    simp only [nx]
    split <;> omega

theorem nx_le (l : List Int) : ∀ k, nx l k ≤ k
  | 0 => by simp [nx]
  | k + 1 => by
    have h := nx_le l k
    simp only [nx]
    split <;> omega

theorem nx_step (l : List Int) (k : Nat) : nx l k ≤ nx l (k + 1) := by
  simp only [nx]
  split <;> omega

theorem nx_mono (l : List Int) {i j : Nat} (h : i ≤ j) : nx l i ≤ nx l j := by
  induction j with
  | zero => obtain rfl : i = 0 := by omega
            exact Int.le_refl _
  | succ j ih =>
    by_cases hij : i = j + 1
    · subst hij; exact Int.le_refl _
    · exact Int.le_trans (ih (by omega)) (nx_step l j)

theorem grTo_yes {l : List Int} {n : Nat} (h : ∀ j, j < n → decide (0 ≤ na l j ∧ na l j ≤ nx l j) = true) : grTo l n = true := by
  unfold grTo
  rw [List.all_eq_true]
  exact fun j hj => h j (List.mem_range.1 hj)

theorem grTo_no {l : List Int} {n j : Nat} (hj : j < n) (h : ¬ (0 ≤ na l j ∧ na l j ≤ nx l j)) : grTo l n = false := by
  unfold grTo
  rw [List.all_eq_false]
  exact ⟨j, List.mem_range.2 hj, by simp only [decide_eq_true_eq]; exact h⟩

theorem grB_len {l : List Int} (h : grB l = true) : 1 ≤ l.length ∧ l.length ≤ 12 := by
  simp only [grB, Bool.and_eq_true, decide_eq_true_eq] at h
  exact h.1

theorem grB_at {l : List Int} (h : grB l = true) {i : Nat} (hi : i < l.length) : 0 ≤ na l i ∧ na l i ≤ nx l i ∧ na l i < nx l (i + 1) ∧ na l i < 12 := by
  have hl := grB_len h
  simp only [grB, grTo, Bool.and_eq_true, List.all_eq_true, List.mem_range, decide_eq_true_eq] at h
  have h1 := h.2 i hi
  have h2 := nx_le l i
  refine ⟨h1.1, h1.2, ?_, by omega⟩
  simp only [nx]
  split <;> omega

theorem l1In_any (x lo hi : Int) (w : World) : Calls Try.prog 57 #[.int .i64 x, .int .i64 lo, .int .i64 hi] w fun e w' => e = .returned (.bool (decide (lo ≤ x ∧ x ≤ hi))) ∧ w = w' := by
  by_cases h1 : lo ≤ x
  · by_cases h2 : x ≤ hi
    · rw [show decide (lo ≤ x ∧ x ≤ hi) = true by simp [h1, h2]]
      go_enter Try.func57, Try.ntmps57
      go_wp2
      go_ret
      exact ⟨by first | rfl | (simp; done) | (simp; omega), rfl⟩
    · rw [show decide (lo ≤ x ∧ x ≤ hi) = false by simp [h2]]
      have hd : decide (x ≤ hi) = false := by simpa using h2
      go_enter Try.func57, Try.ntmps57
      go_wp2
      go_ret
      exact ⟨by first | rfl | (simp; done) | (simp; omega), rfl⟩
  · rw [show decide (lo ≤ x ∧ x ≤ hi) = false by simp [h1]]
    have hd : decide (lo ≤ x) = false := by simpa using h1
    go_enter Try.func57, Try.ntmps57
    go_wp2
    go_ret
    exact ⟨rfl, rfl⟩

theorem canBeWires_any (f : Int) (w : World) : Calls Try.prog 68 #[.int .i64 f] w fun e w' => e = .returned (.bool (decide (1 ≤ f ∧ f ≤ 12))) ∧ w = w' := by
  by_cases h1 : 1 ≤ f
  · by_cases h2 : f ≤ 12
    · have hf : decide (1 ≤ f ∧ f ≤ 12) = true := by simp [h1, h2]
      rw [hf]
      go_enter Try.func68, Try.ntmps68
      go_wp2
      go_ret
      exact ⟨rfl, rfl⟩
    · have hf : decide (1 ≤ f ∧ f ≤ 12) = false := by simp [h2]
      have hd : decide (f ≤ 12) = false := by simpa using h2
      rw [hf]
      go_enter Try.func68, Try.ntmps68
      go_wp2
      go_ret
      exact ⟨by simp, rfl⟩
  · have hf : decide (1 ≤ f ∧ f ≤ 12) = false := by simp [h1]
    have hd : decide (1 ≤ f) = false := by simpa using h1
    rw [hf]
    go_enter Try.func68, Try.ntmps68
    go_wp2
    go_ret
    exact ⟨rfl, rfl⟩

set_option maxRecDepth 20000 in
theorem cbGood_pos (b off cap : Nat) (l : List Int) (n : Nat) (w : World) (Hn : Hid (n = l.length)) (hn : n ≤ 1048576)
    (Hc : Hid (∀ i, i < n → w.cell? ⟨b, off + i, none⟩ = some (.int .i64 (na l i)))) :
    Calls Try.prog 51 #[.slice (some ⟨b, off, none⟩) n cap] w fun e w' => e = .returned (.bool (grB l)) ∧ w = w' := by
  cases hl : decide (1 ≤ (n : Int) ∧ (n : Int) ≤ 12)
  · have hR : grB l = false := by
      simp only [decide_eq_false_iff_not] at hl
      simp only [grB, ← Hn.out, Bool.and_eq_false_iff, decide_eq_false_iff_not]
      left; omega
    rw [hR]
    have Hl := Lib.hid hl
    clear hR hl
    go_enter Try.func51, Try.ntmps51
    go_wp2_with fail
    refine (l1In_any (n : Int) 1 12 w).mono ?_
    rintro e w' ⟨rfl, rfl⟩
    rw [Hl.out]
    go_wp2_with fail
    go_ret
    exact ⟨rfl, rfl⟩
  · have hR : grB l = grTo l n := by
      simp only [decide_eq_true_eq] at hl
      have h2 : 1 ≤ l.length ∧ l.length ≤ 12 := by rw [← Hn.out]; omega
      simp only [grB, h2, and_self, decide_true, Bool.true_and, Hn.out]
    rw [hR]
    have Hl := Lib.hid hl
    have hn12 : n ≤ 12 := by simp only [decide_eq_true_eq] at hl; omega
    clear hR hl
    go_enter Try.func51, Try.ntmps51
    go_wp2_with fail
    refine (l1In_any (n : Int) 1 12 w).mono ?_
    rintro e w' ⟨rfl, rfl⟩
    rw [Hl.out]
    go_wp2_with fail
    go_loop [3, 12] (fun v i => ∃ k : Nat, k ≤ n ∧ i = .int .i64 k ∧ v = .int .i64 (nx l k) ∧ Hid (∀ j, j < k → decide (0 ≤ na l j ∧ na l j ≤ nx l j) = true)) (fun _ i => n - (intOf i).toNat)
    case atStart => exact ⟨0, Nat.zero_le _, rfl, rfl, fun j hj => absurd hj (by omega)⟩
    case round =>
      obtain ⟨k, hk, rfl, rfl, hall⟩ := hrel
      have hb0 := nx_nonneg l k
      have hb1 := nx_le l k
      by_cases hlt : k < n
      · have h0 := Hc.out k hlt
        have hbd : True := trivial
        by_cases hg : 0 ≤ na l k ∧ na l k ≤ nx l k
        · have hall2 : Hid (∀ j, j < k + 1 → decide (0 ≤ na l j ∧ na l j ≤ nx l j) = true) := by
            intro j hj
            by_cases hjk : j = k
            · subst hjk; simp only [decide_eq_true_eq]; exact hg
            · exact hall.out j (by omega)
          have hgt : decide (0 ≤ na l k ∧ na l k ≤ nx l k) = true := by simpa only [decide_eq_true_eq] using hg
          by_cases he : na l k = nx l k
          · have hs : Hid (nx l (k + 1) = nx l k + 1) := by show nx l (k + 1) = _; simp only [nx, he, if_true]
            have hz : (na l k == nx l k) = true := by simpa using he
            clear hg he
            go_wp2_with fail
            refine (l1In_any (na l k) 0 (nx l k) w).mono ?_
            rintro e w' ⟨rfl, rfl⟩
            rw [hgt]
            go_wp2_with fail
            go_round
            case rel => exact ⟨k + 1, by omega, by go_num, by rw [hs.out], hall2⟩
            case measure => simp [intOf]; omega
          · have hs : Hid (nx l (k + 1) = nx l k) := by show nx l (k + 1) = _; simp only [nx, he, if_false]
            have hz : (na l k == nx l k) = false := by simpa using he
            clear hg he
            go_wp2_with fail
            refine (l1In_any (na l k) 0 (nx l k) w).mono ?_
            rintro e w' ⟨rfl, rfl⟩
            rw [hgt]
            go_wp2_with fail
            go_round
            case rel => exact ⟨k + 1, by omega, by go_num, by rw [hs.out], hall2⟩
            case measure => simp [intOf]; omega
        · have hno := grTo_no hlt hg
          have Hno := Lib.hid hno
          clear hno hbd
          have hgf : decide (0 ≤ na l k ∧ na l k ≤ nx l k) = false := by simpa only [decide_eq_false_iff_not] using hg
          go_wp2_with fail
          refine (l1In_any (na l k) 0 (nx l k) w).mono ?_
          rintro e w' ⟨rfl, rfl⟩
          rw [hgf]
          go_wp2_with fail
          go_ret
          exact ⟨ret_bool Hno.out.symm, rfl⟩
      · obtain rfl : k = n := by omega
        have Hyes := Lib.hid (grTo_yes hall.out)
        go_wp2_with fail
        go_ret
        exact ⟨ret_bool Hyes.out.symm, rfl⟩

set_option maxRecDepth 20000 in
theorem cbGood_zero (ao : Option Addr) (cap : Nat) (w : World) :
    Calls Try.prog 51 #[.slice ao 0 cap] w fun e w' => e = .returned (.bool false) ∧ w = w' := by
  have hz : decide (1 ≤ (0 : Int) ∧ (0 : Int) ≤ 12) = false := by decide
  go_enter Try.func51, Try.ntmps51
  go_wp2_with fail
  refine (l1In_any 0 1 12 w).mono ?_
  rintro e w' ⟨rfl, rfl⟩
  rw [hz]
  go_wp2_with fail
  go_ret
  exact ⟨rfl, rfl⟩

theorem cbGood_any (ao : Option Addr) (cap : Nat) (l : List Int) (n : Nat) (w : World) (Hn : Hid (n = l.length)) (hn : n ≤ 1048576) (hc : NumsAt w ao l) :
    Calls Try.prog 51 #[.slice ao n cap] w fun e w' => e = .returned (.bool (grB l)) ∧ w = w' := by
  by_cases h0 : n = 0
  · subst h0
    have hl : l = [] := List.eq_nil_of_length_eq_zero Hn.out.symm
    have hR : grB l = false := by simp [grB, hl]
    rw [hR]
    exact cbGood_zero ao cap w
  · rcases hc with h | ⟨b, off, rfl, hc⟩
    · subst h; exact absurd Hn.out h0
    · exact cbGood_pos b off cap l n w Hn hn (by rw [Hn.out]; exact hc)

set_option maxRecDepth 20000 in
theorem isGr_pos (b off cap : Nat) (l : List Int) (n : Nat) (w : World) (Hn : Hid (n = l.length)) (hn : n ≤ 1048576)
    (Hc : Hid (∀ i, i < n → w.cell? ⟨b, off + i, none⟩ = some (.int .i64 (na l i)))) :
    Calls Try.prog 52 #[.slice (some ⟨b, off, none⟩) n cap] w fun e w' => e = .returned (.bool (grB l)) ∧ w = w' := by
  cases hl : decide (1 ≤ (n : Int) ∧ (n : Int) ≤ 12)
  · have hR : grB l = false := by
      simp only [decide_eq_false_iff_not] at hl
      simp only [grB, ← Hn.out, Bool.and_eq_false_iff, decide_eq_false_iff_not]
      left; omega
    rw [hR]
    have Hl := Lib.hid hl
    clear hR hl
    go_enter Try.func52, Try.ntmps52
    go_wp2_with fail
    refine (canBeWires_any (n : Int) w).mono ?_
    rintro e w' ⟨rfl, rfl⟩
    rw [Hl.out]
    go_wp2_with fail
    go_ret
    exact ⟨rfl, rfl⟩
  · have hR : grB l = grTo l n := by
      simp only [decide_eq_true_eq] at hl
      have h2 : 1 ≤ l.length ∧ l.length ≤ 12 := by rw [← Hn.out]; omega
      simp only [grB, h2, and_self, decide_true, Bool.true_and, Hn.out]
    rw [hR]
    have Hl := Lib.hid hl
    have hn12 : n ≤ 12 := by simp only [decide_eq_true_eq] at hl; omega
    clear hR hl
    go_enter Try.func52, Try.ntmps52
    go_wp2_with fail
    refine (canBeWires_any (n : Int) w).mono ?_
    rintro e w' ⟨rfl, rfl⟩
    rw [Hl.out]
    go_wp2_with fail
    go_loop [3, 12] (fun v i => ∃ k : Nat, k ≤ n ∧ i = .int .i64 k ∧ v = .int .i64 (nx l k) ∧ Hid (∀ j, j < k → decide (0 ≤ na l j ∧ na l j ≤ nx l j) = true)) (fun _ i => n - (intOf i).toNat)
    case atStart => exact ⟨0, Nat.zero_le _, rfl, rfl, fun j hj => absurd hj (by omega)⟩
    case round =>
      obtain ⟨k, hk, rfl, rfl, hall⟩ := hrel
      have hb0 := nx_nonneg l k
      have hb1 := nx_le l k
      by_cases hlt : k < n
      · have h0 := Hc.out k hlt
        have hbd : True := trivial
        by_cases hg : 0 ≤ na l k ∧ na l k ≤ nx l k
        · have hall2 : Hid (∀ j, j < k + 1 → decide (0 ≤ na l j ∧ na l j ≤ nx l j) = true) := by
            intro j hj
            by_cases hjk : j = k
            · subst hjk; simp only [decide_eq_true_eq]; exact hg
            · exact hall.out j (by omega)
          have hg0 : ¬ na l k < 0 := by omega
          have hg1 : ¬ na l k > nx l k := by omega
          by_cases he : na l k = nx l k
          · have hs : Hid (nx l (k + 1) = nx l k + 1) := by show nx l (k + 1) = _; simp only [nx, he, if_true]
            have hm : max (nx l k) (na l k + 1) = nx l k + 1 := by omega
            have he2 := Lib.hid he
            clear hg hbd
            go_wp2_with fail
            go_round
            case rel => exact ⟨k + 1, by omega, by go_num, by rw [hs.out], hall2⟩
            case measure => simp [intOf]; omega
          · have hs : Hid (nx l (k + 1) = nx l k) := by show nx l (k + 1) = _; simp only [nx, he, if_false]
            have hm : max (nx l k) (na l k + 1) = nx l k := by omega
            clear hg hbd
            go_wp2_with fail
            go_round
            case rel => exact ⟨k + 1, by omega, by go_num, by rw [hs.out], hall2⟩
            case measure => simp [intOf]; omega
        · have hno := grTo_no hlt hg
          have Hno := Lib.hid hno
          clear hno hbd
          by_cases hg0 : na l k < 0
          · go_wp2_with fail
            go_ret
            exact ⟨ret_bool Hno.out.symm, rfl⟩
          · have hg1 : na l k > nx l k := by omega
            go_wp2_with fail
            go_ret
            exact ⟨ret_bool Hno.out.symm, rfl⟩
      · obtain rfl : k = n := by omega
        have Hyes := Lib.hid (grTo_yes hall.out)
        go_wp2_with fail
        go_ret
        exact ⟨ret_bool Hyes.out.symm, rfl⟩

set_option maxRecDepth 20000 in
theorem isGr_zero (ao : Option Addr) (cap : Nat) (w : World) :
    Calls Try.prog 52 #[.slice ao 0 cap] w fun e w' => e = .returned (.bool false) ∧ w = w' := by
  have hz : decide (1 ≤ (0 : Int) ∧ (0 : Int) ≤ 12) = false := by decide
  go_enter Try.func52, Try.ntmps52
  go_wp2_with fail
  refine (canBeWires_any 0 w).mono ?_
  rintro e w' ⟨rfl, rfl⟩
  rw [hz]
  go_wp2_with fail
  go_ret
  exact ⟨rfl, rfl⟩

theorem isGr_any (ao : Option Addr) (cap : Nat) (l : List Int) (n : Nat) (w : World) (Hn : Hid (n = l.length)) (hn : n ≤ 1048576) (hc : NumsAt w ao l) :
    Calls Try.prog 52 #[.slice ao n cap] w fun e w' => e = .returned (.bool (grB l)) ∧ w = w' := by
  by_cases h0 : n = 0
  · subst h0
    have hl : l = [] := List.eq_nil_of_length_eq_zero Hn.out.symm
    have hR : grB l = false := by simp [grB, hl]
    rw [hR]
    exact isGr_zero ao cap w
  · rcases hc with h | ⟨b, off, rfl, hc⟩
    · subst h; exact absurd Hn.out h0
    · exact isGr_pos b off cap l n w Hn hn (by rw [Hn.out]; exact hc)

end Go.Proofs.Ytcedacneagpjcaa
