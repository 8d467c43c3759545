/- Before all sends. -/
import Derived.Test.YtghfkgbmmkcjhaaAa
namespace Go.Proofs.Ytghfkgbmmkcjhaa
open Go.ChangeShapes Go.WideShapes Go.ChangeAt Go.RowKit
set_option linter.unusedVariables false


set_option maxHeartbeats 1600000 in
set_option maxRecDepth 20000 in
theorem before_any (w : World) : Calls Try.prog 89 #[] w fun e w' => e = .returned (.agg (AA befA)) ∧ Below w.heap.size w w' := by
  go_enter Try.func89, Try.ntmps89
  go_wp2_with fail
  rw [← ZA_eq]
  obtain ⟨B, hB⟩ : ∃ B, B = w.heap.size := ⟨_, rfl⟩
  have HB := Lib.hid hB
  have hK0 : ((w.alloc (.cells ZA 57)).alloc (.cells ZA 57)).heap[B + 1]? = some (.cells ZA 57 (0, 0)) := by
    rw [hB]
    have := heap_alloc_new (w.alloc (.cells ZA 57)) (.cells ZA 57)
    simpa using this
  have hR0 : ((w.alloc (.cells ZA 57)).alloc (.cells ZA 57)).heap[B]? = some (.cells ZA 57 (0, 0)) := by rw [hB, Below.heap_alloc _ _ _ (by simp), heap_alloc_new]
  have hb0 : Below B w ((w.alloc (.cells ZA 57)).alloc (.cells ZA 57)) := by rw [hB]; exact ((Below.refl _ _).alloc (Nat.le_refl _) _).alloc (by simp) _
  have HK0 := Lib.hid hK0
  have HR0 := Lib.hid hR0
  have Hb0 := Lib.hid hb0
  rw [← hB]
  clear hK0 hR0 hb0 hB
  go_loopw [3] (fun i wr => ∃ k : Nat, k ≤ 40 ∧ i = .int .i64 k ∧ Hid (wr.heap[B + 1]? = some (.cells (AA (fun v => if v < k then 71 else 0)) 57 (0, 0))) ∧ Hid (wr.heap[B]? = some (.cells ZA 57 (0, 0))) ∧ Below B w wr) (fun i _ => 40 - (intOf i).toNat)
  case atStart => exact ⟨0, Nat.zero_le _, rfl, Lib.hid (by
    have h := HK0.out
    have e : AA (fun v => if v < ((0 : Nat) : Int) then 71 else 0) = ZA := AA_congr fun i _ => if_neg (by omega)
    rw [e]; exact h), HR0, Hb0.out⟩
  case round =>
    clear HK0 HR0 Hb0
    obtain ⟨k, hk, rfl, HK, HR, hbel⟩ := hrel
    by_cases hlt : k < 40
    · have hc := cell_of_row wr (B + 1) k _ _ _ HK.out
      have hfz := frozen_of_row wr (B + 1) k _ _ HK.out
      rw [AA_get _ k hlt] at hc
      have HK1 : Hid ((wr.setCell ⟨B + 1, k, none⟩ (.int .i64 71)).heap[B + 1]? = some (.cells (AA (fun v => if v < ((k + 1 : Nat) : Int) then 71 else 0)) 57 (0, 0))) := Lib.hid (by
        have h := heap_setCell_same _ _ k _ _ (.int .i64 71) HK.out
        rw [AA_set, AA_congr (g := fun v => if v < ((k + 1 : Nat) : Int) then 71 else 0) (fun v _ => by
          unfold updA
          by_cases e : (v : Int) = (k : Int)
          · rw [if_pos e, if_pos (by omega)]
          · rw [if_neg e]
            show (if (v : Int) < (k : Int) then (71 : Int) else 0) = if (v : Int) < ((k + 1 : Nat) : Int) then 71 else 0
            by_cases e2 : (v : Int) < (k : Int)
            · rw [if_pos e2, if_pos (by omega)]
            · rw [if_neg e2, if_neg (by omega)])] at h
        exact h)
      have HR1 : Hid ((wr.setCell ⟨B + 1, k, none⟩ (.int .i64 71)).heap[B]? = some (.cells ZA 57 (0, 0))) := Lib.hid ((heap_setCell_other _ _ _ _ (by show _ ≠ B + 1; omega)).trans HR.out)
      have Hb1 : Hid (Below B w (wr.setCell ⟨B + 1, k, none⟩ (.int .i64 71))) := Lib.hid (hbel.setCell (by show B ≤ B + 1; omega) _)
      have hk2 : (k : Int) < 40 := by omega
      clear HK HR hbel
      go_wp2_with fail
      go_roundw
      case rel => exact ⟨k + 1, by omega, by go_num, HK1, HR1, Hb1.out⟩
      case measure => simp [intOf]; omega
    · obtain rfl : k = 40 := by omega
      have hc := cell_of_row wr (B + 1) 0 _ _ _ HK.out
      have hfz := frozen_of_row wr (B + 1) 0 _ _ HK.out
      rw [AA_get _ 0 (by omega)] at hc
      obtain ⟨w4, hw4⟩ : ∃ w4, wr.setCell ⟨B + 1, 0, none⟩ (.int .i64 0) = w4 := ⟨_, rfl⟩
      have HK4 : Hid (w4.heap[B + 1]? = some (.cells (AA befA) 57 (0, 0))) := Lib.hid (by
        have h := heap_setCell_same _ _ 0 _ _ (.int .i64 0) HK.out
        rw [AA_set, AA_congr (g := befA) (fun v hv => by
          unfold updA befA
          by_cases e : (v : Int) = 0
          · rw [if_pos (by omega), if_pos e]
          · rw [if_neg (by omega), if_neg e]
            show (if (v : Int) < ((40 : Nat) : Int) then (71 : Int) else 0) = 71
            rw [if_pos (by omega)])] at h
        rw [← hw4]; exact h)
      have HR4 : Hid (w4.heap[B]? = some (.cells ZA 57 (0, 0))) := Lib.hid (by rw [← hw4]; exact (heap_setCell_other _ _ _ _ (by show _ ≠ B + 1; omega)).trans HR.out)
      have Hb4 : Hid (Below B w w4) := Lib.hid (by rw [← hw4]; exact hbel.setCell (by show B ≤ B + 1; omega) _)
      clear HK HR hbel
      go_wp2_with (first
        | (with_reducible refine wpList_load_row rfl 57 (.tmp 1) rfl (B + 1) ?u1 57 _ (0, 0) _ HK4.out Try.underlying57 rfl ?u3 ?_)
        | (with_reducible refine wpList_store_row rfl 57 (.tmp 0) (.tmp 10) rfl B (AA befA) ?v1 ?v2 57 _ HR4.out ?v3 ?v4 ?v5 ?_))
      any_goals first | rfl | (rw [infoA, AA_size]; done) | (rw [AA_size]; rfl) | exact AA_one _
      refine bodyPost_ret (results_cell_row rfl _ _ B 57 _ (0, 0) _ rfl (setRow_heap _ _ _ _ _ _ HR4.out) Try.underlying57 rfl ?_) rfl ⟨rfl, by rw [← HB.out]; exact below_setRow Hb4.out (Nat.le_refl _) _⟩
      rw [infoA, AA_size]

end Go.Proofs.Ytghfkgbmmkcjhaa
