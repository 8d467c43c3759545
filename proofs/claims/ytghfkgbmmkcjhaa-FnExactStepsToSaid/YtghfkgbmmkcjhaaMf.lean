/- MinutesFor, both sides. -/
import Derived.Test.YtghfkgbmmkcjhaaMfS
namespace Go.Proofs.Ytghfkgbmmkcjhaa
open Go.ChangeShapes Go.WideShapes Go.ChangeAt Go.RowKit
set_option linter.unusedVariables false

set_option maxRecDepth 20000 in
theorem implMF_any (w : World) (d m : Int) : Calls Try.prog 21 #[.int .i64 d, .int .i64 m] w fun e w' => e = .returned (.tuple #[.int .i64 (mfR d m), .bool (mfB d m)]) ∧ Below w.heap.size w w' := by
  cases hA : deB d
  · have hR : mfR d m = 0 := by simp [mfR, mfB, hA]
    have hB1 : mfB d m = false := by simp [mfB, hA]
    rw [hR, hB1]
    clear hR hB1
    have HA := Lib.hid hA
    clear hA
    go_enter Try.func21, Try.ntmps21
    go_wp2_with fail
    refine (isDelay_any _ w).mono ?_
    rintro e w' ⟨rfl, rfl⟩
    rw [HA.out]
    go_wp2_with fail
    go_ret2
    exact ⟨rfl, Below.refl _ _⟩
  · cases hB : mnB m
    · have hR : mfR d m = 0 := by simp [mfR, mfB, hB]
      have hB1 : mfB d m = false := by simp [mfB, hB]
      rw [hR, hB1]
      clear hR hB1
      have HA := Lib.hid hA
      have HB := Lib.hid hB
      clear hA hB
      go_enter Try.func21, Try.ntmps21
      go_wp2_with fail
      refine (isDelay_any _ w).mono ?_
      rintro e w' ⟨rfl, rfl⟩
      rw [HA.out]
      go_wp2_with fail
      refine (canBeInformed_any _ w).mono ?_
      rintro e w' ⟨rfl, rfl⟩
      rw [HB.out]
      go_wp2_with fail
      go_ret2
      exact ⟨rfl, Below.refl _ _⟩
    · obtain ⟨D, rfl, hD1, hD10⟩ := de_in hA
      obtain ⟨p, rfl, hp1, hp2⟩ := mn_in hB
      have hR : mfR D p = (mf D p : Int) := by simp [mfR, mfB, hA, hB]
      have hB1 : mfB D p = true := by simp [mfB, hA, hB]
      rw [hR, hB1]
      clear hR hB1
      have HA := Lib.hid hA
      have HB := Lib.hid hB
      clear hA hB
      go_enter Try.func21, Try.ntmps21
      go_wp2_with fail
      refine (isDelay_any _ w).mono ?_
      rintro e w' ⟨rfl, rfl⟩
      rw [HA.out]
      go_wp2_with fail
      refine (canBeInformed_any _ w).mono ?_
      rintro e w' ⟨rfl, rfl⟩
      rw [HB.out]
      go_wp2_with fail
      go_loopw [6] (fun i wr => ∃ t : Nat, i = .int .i64 t ∧ Hid (∀ j, j < t → ¬ p ≤ inf D j) ∧ Below w.heap.size w wr) (fun i _ => 1000020 - (intOf i).toNat)
      case atStart => exact ⟨0, rfl, fun j hj => absurd hj (by omega), Below.refl _ _⟩
      case round =>
        obtain ⟨t, rfl, hall, hbel⟩ := hrel
        have hfar := mf_far hD1 hD10 hp2 hall.out
        have hbd := mf_bd hD1 hp2 hall.out
        have hbt := hbd t (Nat.le_refl _)
        have I1 := Lib.hid (informed_any wr D t hD1 hD10 (by omega) (fun j hj => Nat.le_trans (hbd j hj) (by omega)))
        have hs := hbel.size
        clear hbd
        by_cases hlt : p ≤ inf D t
        · have hres := Lib.hid (mf_eq hD1 hlt hall.out)
          have hd : decide ((inf D t : Int) < (p : Int)) = false := by simp only [decide_eq_false_iff_not]; omega
          go_wp2_with fail
          refine I1.out.mono ?_
          rintro e w1 ⟨rfl, hb1⟩
          go_wp2_with fail
          go_ret2
          exact ⟨by rw [hres.out]; rfl, hbel.trans (hb1.mono hs)⟩
        · have Hall : Hid (∀ j, j < t + 1 → ¬ p ≤ inf D j) := fun j hj => by
            by_cases hjt : j = t
            · subst hjt; exact hlt
            · exact hall.out j (by omega)
          have hd : decide ((inf D t : Int) < (p : Int)) = true := by simp only [decide_eq_true_eq]; omega
          go_wp2_with fail
          refine I1.out.mono ?_
          rintro e w1 ⟨rfl, hb1⟩
          go_wp2_with fail
          go_roundw
          case rel => exact ⟨t + 1, by go_num, Hall, hbel.trans (hb1.mono hs)⟩
          case measure => simp [intOf]; omega

theorem specMF_any (w : World) (d m : Int) : Calls Try.prog 20 #[.int .i64 d, .int .i64 m] w fun e w' => e = .returned (.tuple #[.int .i64 (mfR d m), .bool (mfB d m)]) ∧ Below w.heap.size w w' := by
  cases hA : deB d
  · have hR : mfR d m = 0 := by simp [mfR, mfB, hA]
    have hB1 : mfB d m = false := by simp [mfB, hA]
    rw [hR, hB1]
    clear hR hB1
    have HA := Lib.hid hA
    clear hA
    go_enter Try.func20, Try.ntmps20
    go_wp2_with fail
    refine (deDelay_any _ w).mono ?_
    rintro e w' ⟨rfl, rfl⟩
    rw [HA.out]
    go_wp2_with fail
    go_ret2
    exact ⟨rfl, Below.refl _ _⟩
  · cases hB : mnB m
    · have hR : mfR d m = 0 := by simp [mfR, mfB, hB]
      have hB1 : mfB d m = false := by simp [mfB, hB]
      rw [hR, hB1]
      clear hR hB1
      have HA := Lib.hid hA
      have HB := Lib.hid hB
      clear hA hB
      go_enter Try.func20, Try.ntmps20
      go_wp2_with fail
      refine (deDelay_any _ w).mono ?_
      rintro e w' ⟨rfl, rfl⟩
      rw [HA.out]
      go_wp2_with fail
      refine (deMany_any _ w).mono ?_
      rintro e w' ⟨rfl, rfl⟩
      rw [HB.out]
      go_wp2_with fail
      go_ret2
      exact ⟨rfl, Below.refl _ _⟩
    · obtain ⟨D, rfl, hD1, hD10⟩ := de_in hA
      obtain ⟨p, rfl, hp1, hp2⟩ := mn_in hB
      have hR : mfR D p = (mf D p : Int) := by simp [mfR, mfB, hA, hB]
      have hB1 : mfB D p = true := by simp [mfB, hA, hB]
      rw [hR, hB1]
      clear hR hB1
      have HA := Lib.hid hA
      have HB := Lib.hid hB
      clear hA hB
      go_enter Try.func20, Try.ntmps20
      go_wp2_with fail
      refine (deDelay_any _ w).mono ?_
      rintro e w' ⟨rfl, rfl⟩
      rw [HA.out]
      go_wp2_with fail
      refine (deMany_any _ w).mono ?_
      rintro e w' ⟨rfl, rfl⟩
      rw [HB.out]
      go_wp2_with fail
      refine (deMinutes_any w D p hD1 hD10 hp1 hp2).mono ?_
      rintro e w' ⟨rfl, hb⟩
      go_wp2_with fail
      go_ret2
      exact ⟨rfl, hb⟩

end Go.Proofs.Ytghfkgbmmkcjhaa
