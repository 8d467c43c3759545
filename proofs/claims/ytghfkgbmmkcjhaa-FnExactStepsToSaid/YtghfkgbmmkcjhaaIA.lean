/- InformedAt and NewAt, both sides. -/
import Derived.Test.YtghfkgbmmkcjhaaChk
import Derived.Test.YtghfkgbmmkcjhaaInfI
import Derived.Test.YtghfkgbmmkcjhaaInfS
namespace Go.Proofs.Ytghfkgbmmkcjhaa
open Go.ChangeShapes Go.WideShapes Go.ChangeAt Go.RowKit
set_option linter.unusedVariables false


def iaB (d m : Int) : Bool := deB d && miB m
def iaR (d m : Int) : Int := if iaB d m then (inf d.toNat m.toNat : Int) else 0
def nwR (d m : Int) : Int := if iaB d m then (if m = 0 then 1 else (inf d.toNat m.toNat : Int) - (inf d.toNat (m - 1).toNat : Int)) else 0
theorem ia_bd (d m : Nat) (h1 : 1 ≤ d) (hm : m ≤ 60) : inf d m ≤ 2305843009213693952 := Nat.le_trans (inf_pow h1 m) (pow61 (by omega))

theorem implIA_any (w : World) (d m : Int) : Calls Try.prog 17 #[.int .i64 d, .int .i64 m] w fun e w' => e = .returned (.tuple #[.int .i64 (iaR d m), .bool (iaB d m)]) ∧ Below w.heap.size w w' := by
  cases hA : deB d
  · have hR : iaR d m = 0 := by simp [iaR, iaB, hA]
    have hB1 : iaB d m = false := by simp [iaB, hA]
    rw [hR, hB1]
    clear hR hB1
    have HA := Lib.hid hA
    clear hA
    go_enter Try.func17, Try.ntmps17
    go_wp2_with fail
    refine (isDelay_any _ w).mono ?_
    rintro e w' ⟨rfl, rfl⟩
    rw [HA.out]
    go_wp2_with fail
    go_ret2
    exact ⟨rfl, Below.refl _ _⟩
  · cases hB : miB m
    · have hR : iaR d m = 0 := by simp [iaR, iaB, hB]
      have hB1 : iaB d m = false := by simp [iaB, hB]
      rw [hR, hB1]
      clear hR hB1
      have HA := Lib.hid hA
      have HB := Lib.hid hB
      clear hA hB
      go_enter Try.func17, Try.ntmps17
      go_wp2_with fail
      refine (isDelay_any _ w).mono ?_
      rintro e w' ⟨rfl, rfl⟩
      rw [HA.out]
      go_wp2_with fail
      refine (isMinute_any _ w).mono ?_
      rintro e w' ⟨rfl, rfl⟩
      rw [HB.out]
      go_wp2_with fail
      go_ret2
      exact ⟨rfl, Below.refl _ _⟩
    · obtain ⟨D, rfl, hD1, hD10⟩ := de_in hA
      obtain ⟨M, rfl, hM⟩ := mi_in hB
      have hR : iaR D M = (inf D M : Int) := by simp [iaR, iaB, hA, hB]
      have hB1 : iaB D M = true := by simp [iaB, hA, hB]
      rw [hR, hB1]
      clear hR hB1
      have HA := Lib.hid hA
      have HB := Lib.hid hB
      clear hA hB
      go_enter Try.func17, Try.ntmps17
      go_wp2_with fail
      refine (isDelay_any _ w).mono ?_
      rintro e w' ⟨rfl, rfl⟩
      rw [HA.out]
      go_wp2_with fail
      refine (isMinute_any _ w).mono ?_
      rintro e w' ⟨rfl, rfl⟩
      rw [HB.out]
      go_wp2_with fail
      refine (informed_any w D M hD1 hD10 (by omega) (fun j hj => ia_bd D j hD1 (by omega))).mono ?_
      rintro e w' ⟨rfl, hb⟩
      go_wp2_with fail
      go_ret2
      exact ⟨rfl, hb⟩

theorem specIA_any (w : World) (d m : Int) : Calls Try.prog 16 #[.int .i64 d, .int .i64 m] w fun e w' => e = .returned (.tuple #[.int .i64 (iaR d m), .bool (iaB d m)]) ∧ Below w.heap.size w w' := by
  cases hA : deB d
  · have hR : iaR d m = 0 := by simp [iaR, iaB, hA]
    have hB1 : iaB d m = false := by simp [iaB, hA]
    rw [hR, hB1]
    clear hR hB1
    have HA := Lib.hid hA
    clear hA
    go_enter Try.func16, Try.ntmps16
    go_wp2_with fail
    refine (deDelay_any _ w).mono ?_
    rintro e w' ⟨rfl, rfl⟩
    rw [HA.out]
    go_wp2_with fail
    go_ret2
    exact ⟨rfl, Below.refl _ _⟩
  · cases hB : miB m
    · have hR : iaR d m = 0 := by simp [iaR, iaB, hB]
      have hB1 : iaB d m = false := by simp [iaB, hB]
      rw [hR, hB1]
      clear hR hB1
      have HA := Lib.hid hA
      have HB := Lib.hid hB
      clear hA hB
      go_enter Try.func16, Try.ntmps16
      go_wp2_with fail
      refine (deDelay_any _ w).mono ?_
      rintro e w' ⟨rfl, rfl⟩
      rw [HA.out]
      go_wp2_with fail
      refine (l1In_any _ 0 60 w).mono ?_
      rintro e w' ⟨rfl, rfl⟩
      rw [show decide ((0 : Int) ≤ _ ∧ _ ≤ (60 : Int)) = _ from HB.out]
      go_wp2_with fail
      go_ret2
      exact ⟨rfl, Below.refl _ _⟩
    · obtain ⟨D, rfl, hD1, hD10⟩ := de_in hA
      obtain ⟨M, rfl, hM⟩ := mi_in hB
      have hR : iaR D M = (inf D M : Int) := by simp [iaR, iaB, hA, hB]
      have hB1 : iaB D M = true := by simp [iaB, hA, hB]
      rw [hR, hB1]
      clear hR hB1
      have HA := Lib.hid hA
      have HB := Lib.hid hB
      clear hA hB
      go_enter Try.func16, Try.ntmps16
      go_wp2_with fail
      refine (deDelay_any _ w).mono ?_
      rintro e w' ⟨rfl, rfl⟩
      rw [HA.out]
      go_wp2_with fail
      refine (l1In_any _ 0 60 w).mono ?_
      rintro e w' ⟨rfl, rfl⟩
      rw [show decide ((0 : Int) ≤ _ ∧ _ ≤ (60 : Int)) = _ from HB.out]
      go_wp2_with fail
      refine (deInformed_any w D M hD1 hD10 hM).mono ?_
      rintro e w' ⟨g, cap, rfl, own, hb⟩
      have c0 := own.cellAt M (by omega)
      rw [ns_get _ M (by rw [iL_length]; omega), iL_get D (M + 1) M (by omega)] at c0
      have hp0 : (0 : Int) ≤ (M : Int) := by omega
      have hp1 : (M : Int) < ((M + 1 : Nat) : Int) := by omega
      clear own
      go_wp2_with fail
      go_ret2
      exact ⟨rfl, hb⟩

theorem implNW_any (w : World) (d m : Int) : Calls Try.prog 19 #[.int .i64 d, .int .i64 m] w fun e w' => e = .returned (.tuple #[.int .i64 (nwR d m), .bool (iaB d m)]) ∧ Below w.heap.size w w' := by
  cases hA : deB d
  · have hR : nwR d m = 0 := by simp [nwR, iaB, hA]
    have hB1 : iaB d m = false := by simp [iaB, hA]
    rw [hR, hB1]
    clear hR hB1
    have HA := Lib.hid hA
    clear hA
    go_enter Try.func19, Try.ntmps19
    go_wp2_with fail
    refine (isDelay_any _ w).mono ?_
    rintro e w' ⟨rfl, rfl⟩
    rw [HA.out]
    go_wp2_with fail
    go_ret2
    exact ⟨rfl, Below.refl _ _⟩
  · cases hB : miB m
    · have hR : nwR d m = 0 := by simp [nwR, iaB, hB]
      have hB1 : iaB d m = false := by simp [iaB, hB]
      rw [hR, hB1]
      clear hR hB1
      have HA := Lib.hid hA
      have HB := Lib.hid hB
      clear hA hB
      go_enter Try.func19, Try.ntmps19
      go_wp2_with fail
      refine (isDelay_any _ w).mono ?_
      rintro e w' ⟨rfl, rfl⟩
      rw [HA.out]
      go_wp2_with fail
      refine (isMinute_any _ w).mono ?_
      rintro e w' ⟨rfl, rfl⟩
      rw [HB.out]
      go_wp2_with fail
      go_ret2
      exact ⟨rfl, Below.refl _ _⟩
    · obtain ⟨D, rfl, hD1, hD10⟩ := de_in hA
      obtain ⟨M, rfl, hM⟩ := mi_in hB
      have hR : nwR D M = (if (M : Int) = 0 then 1 else (inf D M : Int) - (inf D ((M : Int) - 1).toNat : Int)) := by simp [nwR, iaB, hA, hB]
      have hB1 : iaB D M = true := by simp [iaB, hA, hB]
      rw [hR, hB1]
      clear hR hB1
      obtain ⟨r, Hr⟩ : ∃ r, Hid (r = (if (M : Int) = 0 then 1 else (inf D M : Int) - (inf D ((M : Int) - 1).toNat : Int))) := ⟨_, Lib.hid rfl⟩
      rw [← Hr.out]
      have HA := Lib.hid hA
      have HB := Lib.hid hB
      clear hA hB
      go_enter Try.func19, Try.ntmps19
      go_wp2_with fail
      refine (isDelay_any _ w).mono ?_
      rintro e w' ⟨rfl, rfl⟩
      rw [HA.out]
      go_wp2_with fail
      refine (isMinute_any _ w).mono ?_
      rintro e w' ⟨rfl, rfl⟩
      rw [HB.out]
      by_cases hM0 : M = 0
      · subst hM0
        have HR : Hid (r = 1) := by show r = 1; rw [Hr.out]; rfl
        go_wp2_with fail
        go_ret2
        exact ⟨by rw [HR.out]; rfl, Below.refl _ _⟩
      · obtain ⟨q, rfl⟩ : ∃ q, M = q + 1 := ⟨M - 1, by omega⟩
        have hq1 : ((q + 1 : Nat) : Int) - 1 = (q : Int) := by omega
        have hr : r = (inf D (q + 1) : Int) - (inf D q : Int) := by rw [Hr.out, if_neg (by omega), hq1]; rfl
        have b0 := ia_bd D (q + 1) hD1 (by omega)
        have b1 := ia_bd D q hD1 (by omega)
        have hne : (((q + 1 : Nat) : Int) == 0) = false := by rw [beq_eq_false_iff_ne]; omega
        have hw1 : IntKind.i64.wrap ((q + 1 : Nat) : Int) = ((q + 1 : Nat) : Int) := IntWalk.i64_in _ (by omega)
        have I1 := Lib.hid (fun w0 => informed_any w0 D (q + 1) hD1 hD10 (by omega) (fun j hj => ia_bd D j hD1 (by omega)))
        have I0 := Lib.hid (fun w0 => informed_any w0 D q hD1 hD10 (by omega) (fun j hj => ia_bd D j hD1 (by omega)))
        obtain ⟨A, hA⟩ : ∃ A, inf D (q + 1) = A := ⟨_, rfl⟩
        obtain ⟨B, hB⟩ : ∃ B, inf D q = B := ⟨_, rfl⟩
        rw [hA] at I1 b0 hr
        rw [hB] at I0 b1 hr
        have HR := Lib.hid hr
        clear hr hA hB
        go_wp2_with fail
        refine (I1.out w).mono ?_
        rintro e w1 ⟨rfl, hb1⟩
        go_wp2_with fail
        refine (I0.out w1).mono ?_
        rintro e w2 ⟨rfl, hb2⟩
        go_wp2_with fail
        go_ret2
        exact ⟨by rw [HR.out]; rfl, hb1.trans (hb2.mono hb1.size)⟩

theorem specNW_any (w : World) (d m : Int) : Calls Try.prog 18 #[.int .i64 d, .int .i64 m] w fun e w' => e = .returned (.tuple #[.int .i64 (nwR d m), .bool (iaB d m)]) ∧ Below w.heap.size w w' := by
  cases hA : deB d
  · have hR : nwR d m = 0 := by simp [nwR, iaB, hA]
    have hB1 : iaB d m = false := by simp [iaB, hA]
    rw [hR, hB1]
    clear hR hB1
    have HA := Lib.hid hA
    clear hA
    go_enter Try.func18, Try.ntmps18
    go_wp2_with fail
    refine (deDelay_any _ w).mono ?_
    rintro e w' ⟨rfl, rfl⟩
    rw [HA.out]
    go_wp2_with fail
    go_ret2
    exact ⟨rfl, Below.refl _ _⟩
  · cases hB : miB m
    · have hR : nwR d m = 0 := by simp [nwR, iaB, hB]
      have hB1 : iaB d m = false := by simp [iaB, hB]
      rw [hR, hB1]
      clear hR hB1
      have HA := Lib.hid hA
      have HB := Lib.hid hB
      clear hA hB
      go_enter Try.func18, Try.ntmps18
      go_wp2_with fail
      refine (deDelay_any _ w).mono ?_
      rintro e w' ⟨rfl, rfl⟩
      rw [HA.out]
      go_wp2_with fail
      refine (l1In_any _ 0 60 w).mono ?_
      rintro e w' ⟨rfl, rfl⟩
      rw [show decide ((0 : Int) ≤ _ ∧ _ ≤ (60 : Int)) = _ from HB.out]
      go_wp2_with fail
      go_ret2
      exact ⟨rfl, Below.refl _ _⟩
    · obtain ⟨D, rfl, hD1, hD10⟩ := de_in hA
      obtain ⟨M, rfl, hM⟩ := mi_in hB
      have hR : nwR D M = (if (M : Int) = 0 then 1 else (inf D M : Int) - (inf D ((M : Int) - 1).toNat : Int)) := by simp [nwR, iaB, hA, hB]
      have hB1 : iaB D M = true := by simp [iaB, hA, hB]
      rw [hR, hB1]
      clear hR hB1
      obtain ⟨r, Hr⟩ : ∃ r, Hid (r = (if (M : Int) = 0 then 1 else (inf D M : Int) - (inf D ((M : Int) - 1).toNat : Int))) := ⟨_, Lib.hid rfl⟩
      rw [← Hr.out]
      have HA := Lib.hid hA
      have HB := Lib.hid hB
      clear hA hB
      go_enter Try.func18, Try.ntmps18
      go_wp2_with fail
      refine (deDelay_any _ w).mono ?_
      rintro e w' ⟨rfl, rfl⟩
      rw [HA.out]
      go_wp2_with fail
      refine (l1In_any _ 0 60 w).mono ?_
      rintro e w' ⟨rfl, rfl⟩
      rw [show decide ((0 : Int) ≤ _ ∧ _ ≤ (60 : Int)) = _ from HB.out]
      go_wp2_with fail
      refine (deInformed_any w D M hD1 hD10 hM).mono ?_
      rintro e w' ⟨g, cap, rfl, own, hb⟩
      by_cases hM0 : M = 0
      · subst hM0
        have HR : Hid (r = 1) := by show r = 1; rw [Hr.out]; rfl
        clear own
        go_wp2_with fail
        go_ret2
        exact ⟨by rw [HR.out]; rfl, hb⟩
      · obtain ⟨q, rfl⟩ : ∃ q, M = q + 1 := ⟨M - 1, by omega⟩
        have hq1 : ((q + 1 : Nat) : Int) - 1 = (q : Int) := by omega
        have hr : r = (inf D (q + 1) : Int) - (inf D q : Int) := by rw [Hr.out, if_neg (by omega), hq1]; rfl
        have b0 := ia_bd D (q + 1) hD1 (by omega)
        have b1 := ia_bd D q hD1 (by omega)
        have hne : (((q + 1 : Nat) : Int) == 0) = false := by rw [beq_eq_false_iff_ne]; omega
        have c0 := own.cellAt (q + 1) (by omega)
        rw [ns_get _ (q + 1) (by rw [iL_length]; omega), iL_get D (q + 1 + 1) (q + 1) (by omega)] at c0
        have c1 := own.cellAt q (by omega)
        rw [ns_get _ q (by rw [iL_length]; omega), iL_get D (q + 1 + 1) q (by omega)] at c1
        have hp0 : (0 : Int) ≤ (q : Int) := by omega
        have hp1 : (q : Int) < ((q + 1 + 1 : Nat) : Int) := by omega
        have hp2 : (0 : Int) ≤ ((q + 1 : Nat) : Int) := by omega
        have hp3 : ((q + 1 : Nat) : Int) < ((q + 1 + 1 : Nat) : Int) := by omega
        obtain ⟨A, hA⟩ : ∃ A, inf D (q + 1) = A := ⟨_, rfl⟩
        obtain ⟨B, hB⟩ : ∃ B, inf D q = B := ⟨_, rfl⟩
        rw [hA] at c0 b0 hr
        rw [hB] at c1 b1 hr
        have HR := Lib.hid hr
        have hsw : IntKind.i64.wrap ((A : Int) - (B : Int)) = (A : Int) - (B : Int) := IntWalk.i64_in _ (by omega)
        clear hr hA hB own
        go_wp2_with fail
        go_region
        all_goals
          go_wp2_with fail
          go_ret2
          exact ⟨by rw [HR.out]; rfl, hb.drew⟩

end Go.Proofs.Ytghfkgbmmkcjhaa
