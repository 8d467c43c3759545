/- GreatestDelay, both sides. -/
import Derived.Test.YtghfkgbmmkcjhaaIA
namespace Go.Proofs.Ytghfkgbmmkcjhaa
open Go.ChangeShapes Go.WideShapes Go.ChangeAt Go.RowKit
set_option linter.unusedVariables false


/-- The greatest delay up to k, 0 if there is none. -/
def gdv (p m : Nat) : Nat → Nat | 0 => 0 | k + 1 => if p ≤ inf (k + 1) m then k + 1 else gdv p m k
def gdB (d m : Int) : Bool := mnB d && (miB m && decide (gdv d.toNat m.toNat 10 ≠ 0))
def gdR (d m : Int) : Int := if mnB d && miB m then (gdv d.toNat m.toNat 10 : Int) else 0
set_option maxRecDepth 20000 in
theorem implGD_any (w : World) (d m : Int) : Calls Try.prog 23 #[.int .i64 d, .int .i64 m] w fun e w' => e = .returned (.tuple #[.int .i64 (gdR d m), .bool (gdB d m)]) ∧ Below w.heap.size w w' := by
  cases hA : mnB d
  · have hR : gdR d m = 0 := by simp [gdR, hA]
    have hB1 : gdB d m = false := by simp [gdB, hA]
    rw [hR, hB1]
    clear hR hB1
    have HA := Lib.hid hA
    clear hA
    go_enter Try.func23, Try.ntmps23
    go_wp2_with fail
    refine (canBeInformed_any _ w).mono ?_
    rintro e w' ⟨rfl, rfl⟩
    rw [HA.out]
    go_wp2_with fail
    go_ret2
    exact ⟨rfl, Below.refl _ _⟩
  · cases hB : miB m
    · have hR : gdR d m = 0 := by simp [gdR, hB]
      have hB1 : gdB d m = false := by simp [gdB, hB]
      rw [hR, hB1]
      clear hR hB1
      have HA := Lib.hid hA
      have HB := Lib.hid hB
      clear hA hB
      go_enter Try.func23, Try.ntmps23
      go_wp2_with fail
      refine (canBeInformed_any _ w).mono ?_
      rintro e w' ⟨rfl, rfl⟩
      rw [HA.out]
      go_wp2_with fail
      refine (isMinute_any _ w).mono ?_
      rintro e w' ⟨rfl, rfl⟩
      rw [HB.out]
      go_wp2_with fail
      go_ret2
      exact ⟨rfl, Below.refl _ _⟩
    · obtain ⟨p, rfl, hp1, hp2⟩ := mn_in hA
      obtain ⟨M, rfl, hM⟩ := mi_in hB
      have hR : gdR p M = (gdv p M 10 : Int) := by simp [gdR, hA, hB]
      have hB1 : gdB p M = decide (gdv p M 10 ≠ 0) := by simp [gdB, hA, hB]
      rw [hR, hB1]
      clear hR hB1
      obtain ⟨r, Hr⟩ : ∃ r, Hid (r = gdv p M 10) := ⟨_, Lib.hid rfl⟩
      rw [← Hr.out]
      have HA := Lib.hid hA
      have HB := Lib.hid hB
      clear hA hB
      go_enter Try.func23, Try.ntmps23
      go_wp2_with fail
      refine (canBeInformed_any _ w).mono ?_
      rintro e w' ⟨rfl, rfl⟩
      rw [HA.out]
      go_wp2_with fail
      refine (isMinute_any _ w).mono ?_
      rintro e w' ⟨rfl, rfl⟩
      rw [HB.out]
      go_wp2_with fail
      go_loopw [6] (fun i wr => ∃ k : Nat, k ≤ 10 ∧ i = .int .i64 k ∧ Hid (r = gdv p M k) ∧ Below w.heap.size w wr) (fun i _ => (intOf i).toNat)
      case atStart => exact ⟨10, by omega, rfl, Hr, Below.refl _ _⟩
      case round =>
        obtain ⟨k, hk, rfl, HK, hbel⟩ := hrel
        have hs := hbel.size
        cases k with
        | zero =>
          have hr0 : Hid (r = 0) := HK
          have hpos : decide (((0 : Nat) : Int) ≥ 1) = false := by simp
          clear HK Hr
          go_wp2_with fail
          go_ret2
          exact ⟨by rw [hr0.out]; rfl, hbel⟩
        | succ q =>
          have hpos : decide (((q + 1 : Nat) : Int) ≥ 1) = true := by simp only [decide_eq_true_eq]; omega
          have hw1 : IntKind.i64.wrap ((q + 1 : Nat) : Int) = ((q + 1 : Nat) : Int) := IntWalk.i64_in _ (by omega)
          by_cases hle : p ≤ inf (q + 1) M
          · have hr0 : Hid (r = q + 1) := by show _ = _; rw [HK.out]; simp only [gdv]; rw [if_pos hle]
            have hge : decide ((inf (q + 1) M : Int) ≥ (p : Int)) = true := by simp only [decide_eq_true_eq]; omega
            clear HK Hr
            go_wp2_with fail
            refine (informed_any wr (q + 1) M (by omega) (by omega) (by omega) (fun j hj => ia_bd (q + 1) j (by omega) (by omega))).mono ?_
            rintro e w1 ⟨rfl, hb1⟩
            go_wp2_with fail
            go_ret2
            exact ⟨by rw [hr0.out]; rfl, hbel.trans (hb1.mono hs)⟩
          · have hr0 : Hid (r = gdv p M q) := by show _ = _; rw [HK.out]; simp only [gdv]; rw [if_neg hle]
            have hge : decide ((inf (q + 1) M : Int) ≥ (p : Int)) = false := by simp only [decide_eq_false_iff_not]; omega
            have hq1 : ((q + 1 : Nat) : Int) - 1 = (q : Int) := by omega
            clear HK Hr
            go_wp2_with fail
            refine (informed_any wr (q + 1) M (by omega) (by omega) (by omega) (fun j hj => ia_bd (q + 1) j (by omega) (by omega))).mono ?_
            rintro e w1 ⟨rfl, hb1⟩
            go_wp2_with fail
            go_roundw
            case rel => exact ⟨q, by omega, by go_num, hr0, hbel.trans (hb1.mono hs)⟩
            case measure => simp [intOf] <;> omega
set_option maxRecDepth 20000 in
theorem specGD_any (w : World) (d m : Int) : Calls Try.prog 22 #[.int .i64 d, .int .i64 m] w fun e w' => e = .returned (.tuple #[.int .i64 (gdR d m), .bool (gdB d m)]) ∧ Below w.heap.size w w' := by
  cases hA : mnB d
  · have hR : gdR d m = 0 := by simp [gdR, hA]
    have hB1 : gdB d m = false := by simp [gdB, hA]
    rw [hR, hB1]
    clear hR hB1
    have HA := Lib.hid hA
    clear hA
    go_enter Try.func22, Try.ntmps22
    go_wp2_with fail
    refine (deMany_any _ w).mono ?_
    rintro e w' ⟨rfl, rfl⟩
    rw [HA.out]
    go_wp2_with fail
    go_ret2
    exact ⟨rfl, Below.refl _ _⟩
  · cases hB : miB m
    · have hR : gdR d m = 0 := by simp [gdR, hB]
      have hB1 : gdB d m = false := by simp [gdB, hB]
      rw [hR, hB1]
      clear hR hB1
      have HA := Lib.hid hA
      have HB := Lib.hid hB
      clear hA hB
      go_enter Try.func22, Try.ntmps22
      go_wp2_with fail
      refine (deMany_any _ w).mono ?_
      rintro e w' ⟨rfl, rfl⟩
      rw [HA.out]
      go_wp2_with fail
      refine (l1In_any _ 0 60 w).mono ?_
      rintro e w' ⟨rfl, rfl⟩
      rw [show decide ((0 : Int) ≤ _ ∧ _ ≤ (60 : Int)) = _ from HB.out]
      go_wp2_with fail
      go_ret2
      exact ⟨rfl, Below.refl _ _⟩
    · obtain ⟨p, rfl, hp1, hp2⟩ := mn_in hA
      obtain ⟨M, rfl, hM⟩ := mi_in hB
      have hR : gdR p M = (gdv p M 10 : Int) := by simp [gdR, hA, hB]
      have hB1 : gdB p M = decide (gdv p M 10 ≠ 0) := by simp [gdB, hA, hB]
      rw [hR, hB1]
      clear hR hB1
      obtain ⟨r, Hr⟩ : ∃ r, Hid (r = gdv p M 10) := ⟨_, Lib.hid rfl⟩
      rw [← Hr.out]
      have HA := Lib.hid hA
      have HB := Lib.hid hB
      clear hA hB
      go_enter Try.func22, Try.ntmps22
      go_wp2_with fail
      refine (deMany_any _ w).mono ?_
      rintro e w' ⟨rfl, rfl⟩
      rw [HA.out]
      go_wp2_with fail
      refine (l1In_any _ 0 60 w).mono ?_
      rintro e w' ⟨rfl, rfl⟩
      rw [show decide ((0 : Int) ≤ _ ∧ _ ≤ (60 : Int)) = _ from HB.out]
      go_wp2_with fail
      go_loopw [6] (fun i wr => ∃ k : Nat, k ≤ 10 ∧ i = .int .i64 k ∧ Hid (r = gdv p M k) ∧ Below w.heap.size w wr) (fun i _ => (intOf i).toNat)
      case atStart => exact ⟨10, by omega, rfl, Hr, Below.refl _ _⟩
      case round =>
        obtain ⟨k, hk, rfl, HK, hbel⟩ := hrel
        have hs := hbel.size
        cases k with
        | zero =>
          have hr0 : Hid (r = 0) := HK
          have hpos : decide (((0 : Nat) : Int) > 0) = false := by simp
          clear HK Hr
          go_wp2_with fail
          go_ret2
          exact ⟨by rw [hr0.out]; rfl, hbel⟩
        | succ q =>
          have hpos : decide (((q + 1 : Nat) : Int) > 0) = true := by simp only [decide_eq_true_eq]; omega
          have hw1 : IntKind.i64.wrap ((q + 1 : Nat) : Int) = ((q + 1 : Nat) : Int) := IntWalk.i64_in _ (by omega)
          by_cases hle : p ≤ inf (q + 1) M
          · have hr0 : Hid (r = q + 1) := by show _ = _; rw [HK.out]; simp only [gdv]; rw [if_pos hle]
            have hge : decide ((inf (q + 1) M : Int) ≥ (p : Int)) = true := by simp only [decide_eq_true_eq]; omega
            clear HK Hr
            go_wp2_with fail
            refine (deInformed_any wr (q + 1) M (by omega) (by omega) hM).mono ?_
            rintro e w1 ⟨g, cap, rfl, own, hb1⟩
            have c0 := own.cellAt M (by omega)
            rw [ns_get _ M (by rw [iL_length]; omega), iL_get (q + 1) (M + 1) M (by omega)] at c0
            have hx0 : (0 : Int) ≤ (M : Int) := by omega
            have hx1 : (M : Int) < ((M + 1 : Nat) : Int) := by omega
            clear own
            go_wp2_with fail
            go_ret2
            exact ⟨by rw [hr0.out]; rfl, hbel.trans (hb1.mono hs)⟩
          · have hr0 : Hid (r = gdv p M q) := by show _ = _; rw [HK.out]; simp only [gdv]; rw [if_neg hle]
            have hge : decide ((inf (q + 1) M : Int) ≥ (p : Int)) = false := by simp only [decide_eq_false_iff_not]; omega
            have hq1 : ((q + 1 : Nat) : Int) - 1 = (q : Int) := by omega
            clear HK Hr
            go_wp2_with fail
            refine (deInformed_any wr (q + 1) M (by omega) (by omega) hM).mono ?_
            rintro e w1 ⟨g, cap, rfl, own, hb1⟩
            have c0 := own.cellAt M (by omega)
            rw [ns_get _ M (by rw [iL_length]; omega), iL_get (q + 1) (M + 1) M (by omega)] at c0
            have hx0 : (0 : Int) ≤ (M : Int) := by omega
            have hx1 : (M : Int) < ((M + 1 : Nat) : Int) := by omega
            clear own
            go_wp2_with fail
            go_roundw
            case rel => exact ⟨q, by omega, by go_num, hr0, hbel.trans (hb1.mono hs)⟩
            case measure => simp [intOf] <;> omega

end Go.Proofs.Ytghfkgbmmkcjhaa
