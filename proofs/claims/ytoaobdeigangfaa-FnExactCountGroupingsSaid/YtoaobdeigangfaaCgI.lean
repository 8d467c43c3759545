/- How many groupings there are: the program. -/
import Derived.Test.YtoaobdeigangfaaCg
namespace Go.Proofs.Ytoaobdeigangfaa
open Go.ChangeShapes Go.WideShapes Go.ChangeAt Go.RowKit
set_option linter.unusedVariables false


theorem implCg_no (w : World) (n : Int) (h : ¬ (1 ≤ n ∧ n ≤ 12)) : Calls Try.prog 27 #[.int .i64 n] w fun e w' => e = .returned (.tuple #[.int .i64 0, .bool false]) ∧ w = w' := by
  have Hd : Hid (decide (1 ≤ n ∧ n ≤ 12) = false) := by show _ = _; simpa only [decide_eq_false_iff_not] using h
  go_enter Try.func27, Try.ntmps27
  go_wp2_with fail
  refine (canBeWires_any n w).mono ?_
  rintro e w' ⟨rfl, rfl⟩
  rw [Hd.out]
  go_wp2_with fail
  go_ret2
  exact ⟨rfl, rfl⟩

set_option maxHeartbeats 1600000 in
set_option maxRecDepth 20000 in
theorem implCg_yes (w : World) (n : Nat) (h1 : 1 ≤ n) (h12 : n ≤ 12) : Calls Try.prog 27 #[.int .i64 (n : Int)] w fun e w' => e = .returned (.tuple #[.int .i64 ((sumTo (st n) 13 : Nat) : Int), .bool true]) ∧ Below w.heap.size w w' := by
  have Hd : Hid (decide (1 ≤ (n : Int) ∧ (n : Int) ≤ 12) = true) := by show _ = _; simp only [decide_eq_true_eq]; omega
  go_enter Try.func27, Try.ntmps27
  go_wp2_with fail
  refine (canBeWires_any n w).mono ?_
  rintro e w' ⟨rfl, rfl⟩
  rw [Hd.out]
  go_upto_region 4 with (fail)
  have HA0 : Hid ((w.alloc (.cells (BB fun _ => 0) 46)).heap[w.heap.size]? = some (.cells (BB fun _ => 0) 46 (0, 0))) := heap_alloc_new w _
  have HB0 : Hid (Below w.heap.size w (w.alloc (.cells (BB fun _ => 0) 46))) := (Below.refl _ _).alloc (Nat.le_refl _) _
  rw [BB_zero] at HA0 HB0
  obtain ⟨g, hge⟩ : ∃ g, g = w.heap.size := ⟨_, rfl⟩
  have hgw : w.heap.size ≤ g := by omega
  rw [← hge] at HA0 ⊢
  generalize w.alloc (.cells #[.int .i64 0, .int .i64 0, .int .i64 0, .int .i64 0, .int .i64 0, .int .i64 0, .int .i64 0, .int .i64 0, .int .i64 0, .int .i64 0, .int .i64 0, .int .i64 0, .int .i64 0] 46) = w2 at HA0 HB0 ⊢
  rw [← BB_zero] at HA0
  have f0 := cell_of_row _ _ 0 _ _ _ HA0.out
  rw [BB_get _ 0 (by omega)] at f0
  have z0 := frozen_of_row _ _ 0 _ _ HA0.out
  have hs0 := heap_setCell_same w2 g 0 (BB fun _ => 0) 46 (.int .i64 ((1 : Nat) : Int)) HA0.out
  rw [BB_set, BB_ext (r := st 0) (fun i hi => by unfold updN; cases i with
    | zero => rfl
    | succ i => rfl)] at hs0
  have HA1 : Hid ((w2.setCell ⟨g, 0, none⟩ (.int .i64 1)).heap[g]? = some (.cells (BB (st 0)) 46 (0, 0))) := hs0
  have HB1 : Hid (Below w.heap.size w (w2.setCell ⟨g, 0, none⟩ (.int .i64 1))) := HB0.out.setCell (p := ⟨g, 0, none⟩) hgw _
  clear hge hs0 HA0 HB0
  go_wp2_with fail
  go_loopw [14] (fun i wr => ∃ k : Nat, k ≤ n ∧ i = .int .i64 k ∧ Hid (wr.heap[g]? = some (.cells (BB (st k)) 46 (0, 0))) ∧ Below w.heap.size w wr) (fun i _ => n - (intOf i).toNat)
  case atStart => exact ⟨0, Nat.zero_le _, rfl, HA1, HB1.out⟩
  case round =>
    obtain ⟨k, hk, rfl, HK, hbel⟩ := hrel
    by_cases hlt : k < n
    · have HM0 : Hid (wr.heap[g]? = some (.cells (BB (md k 12)) 46 (0, 0))) := by show _ = _; rw [BB_ext (md_start k)]; exact HK.out
      have Hbel := Lib.hid hbel
      clear HK hbel
      go_wp2_with fail
      go_loopw [5] (fun i wr => ∃ j : Nat, j ≤ 12 ∧ i = .int .i64 j ∧ Hid (wr.heap[g]? = some (.cells (BB (md k j)) 46 (0, 0))) ∧ Below w.heap.size w wr) (fun i _ => (intOf i).toNat)
      case atStart => exact ⟨12, Nat.le_refl _, rfl, HM0, Hbel.out⟩
      case round =>
        obtain ⟨j, hj, rfl, HM, hbel⟩ := hrel
        by_cases hj0 : 0 < j
        · obtain ⟨q, rfl⟩ : ∃ q, j = q + 1 := ⟨j - 1, by omega⟩
          have hpos : ((q + 1 : Nat) : Int) > 0 := by omega
          have e1 : md k (q + 1) (q + 1) = st k (q + 1) := by unfold md; rw [if_neg (by omega)]
          have e2 : md k (q + 1) q = st k q := by unfold md; rw [if_neg (by omega)]
          have f1 := cell_of_row _ _ (q + 1) _ _ _ HM.out
          rw [BB_get _ (q + 1) (by omega), e1] at f1
          have f2 := cell_of_row _ _ q _ _ _ HM.out
          rw [BB_get _ q (by omega), e2] at f2
          have z1 := frozen_of_row _ _ (q + 1) _ _ HM.out
          have hst := heap_setCell_same wr g (q + 1) (BB (md k (q + 1))) 46 (.int .i64 (((q + 1) * st k (q + 1) + st k q : Nat) : Int)) HM.out
          rw [BB_set, BB_ext (r := md k q) (fun i _ => md_step k q i)] at hst
          have hb1 := st_le ⟨k, by omega⟩ ⟨q + 1, by omega⟩
          have hb2 := st_le ⟨k, by omega⟩ ⟨q, by omega⟩
          simp only at hb1 hb2
          obtain ⟨X, hX⟩ : ∃ X, st k (q + 1) = X := ⟨_, rfl⟩
          obtain ⟨Y, hY⟩ : ∃ Y, st k q = Y := ⟨_, rfl⟩
          rw [hX] at f1 hst hb1
          rw [hY] at f2 hst hb2
          have hmul : (q + 1) * X ≤ 12 * 5000000 := Nat.mul_le_mul (by omega) hb1
          have hq1 : ((q + 1 : Nat) : Int) = (q : Int) + 1 := by omega
          obtain ⟨Z, hZ⟩ : ∃ Z, (q + 1) * X = Z := ⟨_, rfl⟩
          have hzi : ((q : Int) + 1) * (X : Int) = (Z : Int) := by rw [← hZ]; push_cast; first | done | rfl
          rw [hZ] at hst hmul
          have hst' : (wr.setCell ⟨g, q + 1, none⟩ (.int .i64 ((Z : Int) + (Y : Int)))).heap[g]? = some (.cells (BB (md k q)) 46 (0, 0)) := hst
          have Hst := Lib.hid hst'
          have Hbs : Hid (Below w.heap.size w (wr.setCell ⟨g, q + 1, none⟩ (.int .i64 ((Z : Int) + (Y : Int))))) := hbel.setCell (p := ⟨g, q + 1, none⟩) hgw _
          have hw1 : IntKind.i64.wrap (Z : Int) = (Z : Int) := IntWalk.i64_in _ (by omega)
          have hw2 : IntKind.i64.wrap ((Z : Int) + (Y : Int)) = (Z : Int) + (Y : Int) := IntWalk.i64_in _ (by omega)
          have hp0 : (0 : Int) ≤ (q : Int) + 1 := by omega
          have hp1 : (q : Int) + 1 < 13 := by omega
          have hp2 : (0 : Int) ≤ (q : Int) := by omega
          have hp3 : (q : Int) < 13 := by omega
          have ht1 : ((q : Int) + 1).toNat = q + 1 := by omega
          have ht2 : ((q : Int) + 1 - 1) = (q : Int) := by omega
          rw [hq1] at hpos ⊢
          clear HM e1 e2 hX hY hb1 hb2 hZ hst hst' hbel hmul
          go_wp2_with fail
          go_region
          all_goals
            go_wp2_with fail
            go_roundw
            case rel => exact ⟨q, by omega, by go_num, Hst, Hbs.out.drew⟩
            case measure => simp [intOf] <;> omega
        · obtain rfl : j = 0 := by omega
          have f1 := cell_of_row _ _ 0 _ _ _ HM.out
          rw [BB_get _ 0 (by omega)] at f1
          have z1 := frozen_of_row _ _ 0 _ _ HM.out
          have hst := heap_setCell_same wr g 0 (BB (md k 0)) 46 (.int .i64 ((0 : Nat) : Int)) HM.out
          rw [BB_set, BB_ext (r := st (k + 1)) (fun i _ => md_end k i)] at hst
          have Hst : Hid ((wr.setCell ⟨g, 0, none⟩ (.int .i64 0)).heap[g]? = some (.cells (BB (st (k + 1))) 46 (0, 0))) := hst
          have Hbs : Hid (Below w.heap.size w (wr.setCell ⟨g, 0, none⟩ (.int .i64 0))) := hbel.setCell (p := ⟨g, 0, none⟩) hgw _
          clear HM hst hbel
          go_wp2_with fail
          go_roundw
          case rel => exact ⟨k + 1, by omega, by go_num, Hst, Hbs.out⟩
          case measure => simp [intOf]; omega
    · obtain rfl : k = n := by omega
      have hsl := sumTo_le (st k) 5000000
      have hb := fun i (hi : i < 13) => st_le ⟨k, by omega⟩ ⟨i, by omega⟩
      have Hsl : Hid (∀ j, j ≤ 13 → sumTo (st k) j ≤ 5000000 * j) := fun j hj => hsl j (fun i hi => by have := hb i (by omega); simpa using this)
      have Hb : Hid (∀ i, i < 13 → st k i ≤ 5000000) := fun i hi => by have := hb i hi; simpa using this
      have hinfo : (Try.prog.info? 46).map (·.size) = some (BB (st k)).size := by rw [BB_size]; kernel_rfl
      have HK2 := HK
      clear hsl hb HK
      go_wp2_with (with_reducible refine wpList_load_row rfl 46 (.tmp 4) rfl g ?q1 46 _ (0, 0) _ HK2.out Try.underlying46 rfl ?q3 ?_)
      case q1 => rfl
      case q3 => exact hinfo
      go_wp2_with fail
      go_loopw [6, 35] (fun v i wq => ∃ j : Nat, j ≤ 13 ∧ i = .int .i64 j ∧ v = .int .i64 ((sumTo (st k) j : Nat) : Int) ∧ Below w.heap.size w wq) (fun _ i _ => 13 - (intOf i).toNat)
      case atStart => exact ⟨0, Nat.zero_le _, rfl, rfl, hbel⟩
      case round =>
        obtain ⟨j, hj, rfl, rfl, hbq⟩ := hrel
        by_cases hjl : j < 13
        · have hix := idx_BB (st k) j hjl
          have h1 := Hsl.out j hj
          have h2 := Hb.out j hjl
          have Hsu : Hid (sumTo (st k) (j + 1) = sumTo (st k) j + st k j) := rfl
          obtain ⟨A, hA⟩ : ∃ A, sumTo (st k) j = A := ⟨_, rfl⟩
          obtain ⟨B, hB⟩ : ∃ B, st k j = B := ⟨_, rfl⟩
          rw [hA] at h1 Hsu ⊢
          rw [hB] at h2 Hsu hix
          have hw2 : IntKind.i64.wrap ((A : Int) + (B : Int)) = (A : Int) + (B : Int) := IntWalk.i64_in _ (by omega)
          clear hA hB
          go_wp2_with fail
          go_roundw
          case rel => exact ⟨j + 1, by omega, by go_num, by rw [Hsu.out]; push_cast; rfl, hbq⟩
          case measure => simp [intOf]; omega
        · obtain rfl : j = 13 := by omega
          go_wp2_with fail
          go_ret2
          exact ⟨rfl, hbq⟩

theorem implCg_any (w : World) (n : Int) : Calls Try.prog 27 #[.int .i64 n] w fun e w' => e = .returned (.tuple #[.int .i64 (bell n), .bool (wiB n)]) ∧ Below w.heap.size w w' := by
  by_cases h : 1 ≤ n ∧ n ≤ 12
  · obtain ⟨q, rfl⟩ := Int.eq_ofNat_of_zero_le (show 0 ≤ n by omega)
    rw [show bell (q : Int) = ((sumTo (st q) 13 : Nat) : Int) by unfold bell; rw [if_pos h]; rfl, show wiB (q : Int) = true by unfold wiB; simpa only [decide_eq_true_eq] using h]
    exact implCg_yes w q (by omega) (by omega)
  · rw [show bell n = 0 by unfold bell; rw [if_neg h], show wiB n = false by unfold wiB; simpa only [decide_eq_false_iff_not] using h]
    exact (implCg_no w n h).mono (by rintro e w' ⟨he, rfl⟩; exact ⟨he, Below.refl _ _⟩)

end Go.Proofs.Ytoaobdeigangfaa
