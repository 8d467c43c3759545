/- Distances led on: the program. -/
import Derived.Test.YtibjapfaljeclaaDoorFarM
namespace Go.Proofs.YtibjapfaljeclaaDoor
open Go.ChangeShapes Go.WideShapes Go.ChangeAt Go.RowKit
set_option linter.unusedVariables false

theorem below_setRow {B : Nat} {a w : World} (h : Below B a w) {g : Nat} (hg : B ≤ g) (cs : Array Value) : Below B a (w.setRow g cs) :=
  h.trans ⟨rfl, rfl, rfl, by simp, fun k hk => setRow_other w g k cs (by omega)⟩


/-- Ten distances, in cells. -/
def DA (d : Nat → Nat) : Array Value := ((List.range 10).map fun i => Value.int .i64 (d i)).toArray
theorem DA_size (d : Nat → Nat) : (DA d).size = 10 := by simp [DA]
theorem DA_get (d : Nat → Nat) (i : Nat) (h : i < 10) : (DA d)[i]? = some (.int .i64 (d i)) := by unfold DA; simp [h]
theorem DA_one (d : Nat → Nat) : (DA d).all (·.oneCell') = true := by
  rw [Array.all_eq_true']
  intro x hx
  simp only [DA, List.mem_toArray, List.mem_map] at hx
  obtain ⟨i, _, rfl⟩ := hx
  rfl
theorem DA_set (d : Nat → Nat) (i v : Nat) : (DA d).setIfInBounds i (.int .i64 (v : Int)) = DA (updD d i v) := by
  unfold DA
  rw [List.setIfInBounds_toArray]
  congr 1
  apply List.ext_getElem?
  intro j
  by_cases hj : j < 10
  · by_cases hij : i = j
    · subst hij; rw [List.getElem?_set_self (by simpa using hj)]; simp [updD, hj]
    · rw [List.getElem?_set_ne hij]; simp [updD, hj, Ne.symm hij]
  · rw [List.getElem?_eq_none (by rw [List.length_set]; simp; omega), List.getElem?_eq_none (by simp; omega)]
theorem DA_congr {d e : Nat → Nat} (h : ∀ v, v < 10 → d v = e v) : DA d = DA e := by
  unfold DA
  congr 1
  exact List.map_congr_left fun v hv => by rw [h v (List.mem_range.1 hv)]
def ZD : Array Value := DA fun _ => 0
theorem ZD_eq : ZD = #[.int .i64 0, .int .i64 0, .int .i64 0, .int .i64 0, .int .i64 0, .int .i64 0, .int .i64 0, .int .i64 0, .int .i64 0, .int .i64 0] := rfl
theorem infoD : (Tryd.prog.info? 63).map (fun i => i.size) = some 10 := by kernel_rfl

set_option maxHeartbeats 2000000 in
set_option maxRecDepth 20000 in
theorem led_any (F f : Nat) (d : Nat → Nat) (ao : Option Addr) (cap : Nat) (l : List (Int × Int)) (n : Nat) (w : World) (Hn : Hid (n = l.length)) (hs : n ≤ 1048576) (Hg : Hid (gdB (F : Int) l = true)) (Hm : Hid (∀ v, d v ≤ 10)) (HA : Hid (CallsAt w ao l)) :
    Calls Tryd.prog 51 #[.agg (DA d), .slice ao n cap] w fun e w' => e = .returned (.agg (DA (ledN l d))) ∧ Below w.heap.size w w' := by
  have hFr := gd_fr Hg.out
  go_enter Tryd.func51, Tryd.ntmps51
  go_wp2_with fail
  rw [← ZD_eq]
  obtain ⟨B, hB⟩ : ∃ B, B = w.heap.size := ⟨_, rfl⟩
  have HB := Lib.hid hB
  have hD0 : ((w.alloc (.cells (DA d) 63)).alloc (.cells ZD 63)).heap[B]? = some (.cells (DA d) 63 (0, 0)) := by rw [hB, Below.heap_alloc _ _ _ (by simp), heap_alloc_new]
  have hZ0 : ((w.alloc (.cells (DA d) 63)).alloc (.cells ZD 63)).heap[B + 1]? = some (.cells ZD 63 (0, 0)) := by
    rw [hB]
    have := heap_alloc_new (w.alloc (.cells (DA d) 63)) (.cells ZD 63)
    simpa using this
  have hb0 : Below B w ((w.alloc (.cells (DA d) 63)).alloc (.cells ZD 63)) := by rw [hB]; exact ((Below.refl _ _).alloc (Nat.le_refl _) _).alloc (by simp) _
  have HD0 := Lib.hid hD0
  have HZ0 := Lib.hid hZ0
  have Hb0 := Lib.hid hb0
  rw [← hB]
  clear hD0 hZ0 hb0 hB
  go_loopw [9] (fun i wr => ∃ k : Nat, k ≤ n ∧ i = .int .i64 k ∧ Hid (wr.heap[B]? = some (.cells (DA (ledT l d k)) 63 (0, 0))) ∧ Hid (wr.heap[B + 1]? = some (.cells ZD 63 (0, 0))) ∧ Below B w wr) (fun i _ => n - (intOf i).toNat)
  case atStart => exact ⟨0, Nat.zero_le _, rfl, HD0, HZ0, Hb0.out⟩
  case round =>
    clear HD0 HZ0 Hb0
    obtain ⟨k, hk, rfl, HD, HZ, hbel⟩ := hrel
    by_cases hlt : k < n
    · rcases HA.out with h | ⟨b, off, rfl, hc⟩
      · exact absurd hlt (by rw [Hn.out, h]; simp)
      have hkl : k < l.length := by rw [← Hn.out]; exact hlt
      have hbw : Below w.heap.size w wr := by rw [← HB.out]; exact hbel
      have h0 := cell_old hbw (hc k hkl).1
      have h1 := cell_old hbw (hc k hkl).2
      have hpa := pair_adj Hg.out hkl
      have hgc := gd_call Hg.out hkl
      obtain ⟨a, ha⟩ := Int.eq_ofNat_of_zero_le hgc.1
      obtain ⟨bb, hbb⟩ := Int.eq_ofNat_of_zero_le (show 0 ≤ cb l k by omega)
      rw [ha] at hgc h0 hpa
      rw [hbb] at hgc h1 hpa
      have Hsucc : Hid (ledT l d (k + 1) = rel1 (rel1 (ledT l d k) a bb) bb a) := Lib.hid (by rw [ledT, ha, hbb, Int.toNat_natCast, Int.toNat_natCast])
      have HDm : Hid (∀ v, ledT l d k v ≤ 10) := Lib.hid (fun v => Nat.le_trans (ledT_le l d v k) (Hm.out v))
      obtain ⟨D, hD⟩ : ∃ D, ledT l d k = D := ⟨_, rfl⟩
      rw [hD] at HD Hsucc HDm
      have ha10 : a < 10 := by omega
      have hb10 : bb < 10 := by omega
      have hab : a ≠ bb := by omega
      have ha2 : (0 : Int) ≤ a := by omega
      have ha3 : (a : Int) < 10 := by omega
      have hb2 : (0 : Int) ≤ bb := by omega
      have hb3 : (bb : Int) < 10 := by omega
      have hDa := HDm.out a
      have hDb := HDm.out bb
      have hk2 : (k : Int) < n := by omega
      obtain ⟨m1, hm1⟩ : ∃ m1, min (D a) (D bb + 1) = m1 := ⟨_, rfl⟩
      have hmi1 : min ((D a : Nat) : Int) (((D bb : Nat) : Int) + 1) = (m1 : Int) := by omega
      have hm10 : m1 ≤ 10 := by omega
      have HD1 : Hid (updD D a m1 = rel1 D a bb) := Lib.hid (by rw [rel1, hm1])
      obtain ⟨m2, hm2⟩ : ∃ m2, min (D bb) (m1 + 1) = m2 := ⟨_, rfl⟩
      have hmi2 : min ((D bb : Nat) : Int) ((m1 : Int) + 1) = (m2 : Int) := by omega
      have HD2 : Hid (updD (updD D a m1) bb m2 = rel1 (rel1 D a bb) bb a) := Lib.hid (by
        rw [← HD1.out]
        have e1 : updD D a m1 bb = D bb := by simp [updD, Ne.symm hab]
        have e2 : updD D a m1 a = m1 := by simp [updD]
        rw [rel1, e1, e2, hm2])
      have hsB : B < wr.heap.size := (Array.getElem?_eq_some_iff.1 HD.out).1
      have hsB1 : B + 1 < wr.heap.size := (Array.getElem?_eq_some_iff.1 HZ.out).1
      clear hpa hgc ha hbb hc hD hm1 hm2
      obtain ⟨w3, hw3⟩ : ∃ w3, wr.alloc (.cells #[.int .i64 a, .int .i64 bb] 35) = w3 := ⟨_, rfl⟩
      have hP3 : w3.heap[wr.heap.size]? = some (.cells #[.int .i64 a, .int .i64 bb] 35 (0, 0)) := by rw [← hw3]; exact heap_alloc_new _ _
      have hD3 : w3.heap[B]? = some (.cells (DA D) 63 (0, 0)) := by rw [← hw3, Below.heap_alloc _ _ _ hsB]; exact HD.out
      have HZ3 : Hid (w3.heap[B + 1]? = some (.cells ZD 63 (0, 0))) := Lib.hid (by rw [← hw3, Below.heap_alloc _ _ _ hsB1]; exact HZ.out)
      have Hb3 : Hid (Below B w w3) := Lib.hid (by rw [← hw3]; exact hbel.alloc (by omega) _)
      have c0 : w3.cell? ⟨wr.heap.size, 0, none⟩ = some (.int .i64 a) := by rw [cell_of_row _ _ _ _ _ _ hP3]; rfl
      have c1 : w3.cell? ⟨wr.heap.size, 1, none⟩ = some (.int .i64 bb) := by rw [cell_of_row _ _ _ _ _ _ hP3]; rfl
      have fa := cell_of_row w3 B a _ _ _ hD3
      have fb := cell_of_row w3 B bb _ _ _ hD3
      rw [DA_get _ a ha10] at fa
      rw [DA_get _ bb hb10] at fb
      have hfz := frozen_of_row w3 B a _ _ hD3
      have HD3 := Lib.hid hD3
      have HP3 := Lib.hid hP3
      have hwr1 : IntKind.i64.wrap (((D bb : Nat) : Int) + 1) = ((D bb : Nat) : Int) + 1 := IntWalk.i64_in _ (by omega)
      have hwr2 : IntKind.i64.wrap ((m1 : Int) + 1) = (m1 : Int) + 1 := IntWalk.i64_in _ (by omega)
      have hPB : wr.heap.size ≠ B := by omega
      clear hD3 hP3 hbel hbw HD HZ
      go_wp2_with fail
      clear hw3 h0 h1
      go_still_tail 13, (by kernel_rfl)
      change wpList _ _ _ _ _ w3.drew
      by_cases hl1 : D a ≤ D bb + 1
      · have hle1 : ((D a : Nat) : Int) ≤ ((D bb : Nat) : Int) + 1 := by omega
        have HW1 : Hid (((D a : Nat) : Int) = (m1 : Int)) := Lib.hid (by omega)
        obtain ⟨w4, hw4⟩ : ∃ w4, (w3.setCell ⟨B, a, none⟩ (.int .i64 ((D a : Nat) : Int))).drew = w4 := ⟨_, rfl⟩
        have hD4 : w4.heap[B]? = some (.cells (DA (updD D a m1)) 63 (0, 0)) := by rw [← hw4, ← DA_set, ← HW1.out]; exact heap_setCell_same _ _ _ _ _ _ HD3.out
        have hP4 : w4.heap[wr.heap.size]? = some (.cells #[.int .i64 a, .int .i64 bb] 35 (0, 0)) := by rw [← hw4]; exact (heap_setCell_other _ _ _ _ (by show _ ≠ B; omega)).trans HP3.out
        have HZ4 : Hid (w4.heap[B + 1]? = some (.cells ZD 63 (0, 0))) := Lib.hid (by rw [← hw4]; exact (heap_setCell_other _ _ _ _ (by show _ ≠ B; omega)).trans HZ3.out)
        have Hb4 : Hid (Below B w w4) := Lib.hid (by rw [← hw4]; exact (Hb3.out.setCell (Nat.le_refl _) _).drew)
        have c04 : w4.cell? ⟨wr.heap.size, 0, none⟩ = some (.int .i64 a) := by rw [cell_of_row _ _ _ _ _ _ hP4]; rfl
        have c14 : w4.cell? ⟨wr.heap.size, 1, none⟩ = some (.int .i64 bb) := by rw [cell_of_row _ _ _ _ _ _ hP4]; rfl
        have fa4 := cell_of_row w4 B a _ _ _ hD4
        have fb4 := cell_of_row w4 B bb _ _ _ hD4
        rw [DA_get _ a ha10, show updD D a m1 a = m1 by simp [updD]] at fa4
        rw [DA_get _ bb hb10, show updD D a m1 bb = D bb by simp [updD, Ne.symm hab]] at fb4
        have hfz4 := frozen_of_row w4 B bb _ _ hD4
        have HD4 := Lib.hid hD4
        clear hD4 hP4
        go_wp2_with fail
        clear hw4 c0 c1 fa fb hfz HD3 HP3 HZ3 Hb3
        go_still_tail 13, (by kernel_rfl)
        change wpList _ _ _ _ _ w4.drew
        by_cases hl2 : D bb ≤ m1 + 1
        · have hle2 : ((D bb : Nat) : Int) ≤ (m1 : Int) + 1 := by omega
          have HW2 : Hid (((D bb : Nat) : Int) = (m2 : Int)) := Lib.hid (by omega)
          have HD5 : Hid ((w4.setCell ⟨B, bb, none⟩ (.int .i64 ((D bb : Nat) : Int))).heap[B]? = some (.cells (DA (ledT l d (k + 1))) 63 (0, 0))) := Lib.hid (by rw [Hsucc.out, ← HD2.out, ← DA_set, ← HW2.out]; exact heap_setCell_same _ _ _ _ _ _ HD4.out)
          have HZ5 : Hid ((w4.setCell ⟨B, bb, none⟩ (.int .i64 ((D bb : Nat) : Int))).heap[B + 1]? = some (.cells ZD 63 (0, 0))) := Lib.hid ((heap_setCell_other _ _ _ _ (by show _ ≠ B; omega)).trans HZ4.out)
          have Hb5 : Hid (Below B w (w4.setCell ⟨B, bb, none⟩ (.int .i64 ((D bb : Nat) : Int))).drew) := Lib.hid (Hb4.out.setCell (Nat.le_refl _) _).drew
          go_wp2_with fail
          go_roundw
          case rel => exact ⟨k + 1, by omega, by go_num, HD5, HZ5, Hb5.out⟩
          case measure => simp [intOf]; omega
        · have hlt2 : (m1 : Int) + 1 < ((D bb : Nat) : Int) := by omega
          have HW2 : Hid (((m1 : Int) + 1) = (m2 : Int)) := Lib.hid (by omega)
          have HD5 : Hid ((w4.setCell ⟨B, bb, none⟩ (.int .i64 ((m1 : Int) + 1))).heap[B]? = some (.cells (DA (ledT l d (k + 1))) 63 (0, 0))) := Lib.hid (by rw [Hsucc.out, ← HD2.out, ← DA_set, ← HW2.out]; exact heap_setCell_same _ _ _ _ _ _ HD4.out)
          have HZ5 : Hid ((w4.setCell ⟨B, bb, none⟩ (.int .i64 ((m1 : Int) + 1))).heap[B + 1]? = some (.cells ZD 63 (0, 0))) := Lib.hid ((heap_setCell_other _ _ _ _ (by show _ ≠ B; omega)).trans HZ4.out)
          have Hb5 : Hid (Below B w (w4.setCell ⟨B, bb, none⟩ (.int .i64 ((m1 : Int) + 1))).drew) := Lib.hid (Hb4.out.setCell (Nat.le_refl _) _).drew
          go_wp2_with fail
          go_roundw
          case rel => exact ⟨k + 1, by omega, by go_num, HD5, HZ5, Hb5.out⟩
          case measure => simp [intOf]; omega
      · have hlt1 : ((D bb : Nat) : Int) + 1 < ((D a : Nat) : Int) := by omega
        have HW1 : Hid ((((D bb : Nat) : Int) + 1) = (m1 : Int)) := Lib.hid (by omega)
        obtain ⟨w4, hw4⟩ : ∃ w4, (w3.setCell ⟨B, a, none⟩ (.int .i64 (((D bb : Nat) : Int) + 1))).drew = w4 := ⟨_, rfl⟩
        have hD4 : w4.heap[B]? = some (.cells (DA (updD D a m1)) 63 (0, 0)) := by rw [← hw4, ← DA_set, ← HW1.out]; exact heap_setCell_same _ _ _ _ _ _ HD3.out
        have hP4 : w4.heap[wr.heap.size]? = some (.cells #[.int .i64 a, .int .i64 bb] 35 (0, 0)) := by rw [← hw4]; exact (heap_setCell_other _ _ _ _ (by show _ ≠ B; omega)).trans HP3.out
        have HZ4 : Hid (w4.heap[B + 1]? = some (.cells ZD 63 (0, 0))) := Lib.hid (by rw [← hw4]; exact (heap_setCell_other _ _ _ _ (by show _ ≠ B; omega)).trans HZ3.out)
        have Hb4 : Hid (Below B w w4) := Lib.hid (by rw [← hw4]; exact (Hb3.out.setCell (Nat.le_refl _) _).drew)
        have c04 : w4.cell? ⟨wr.heap.size, 0, none⟩ = some (.int .i64 a) := by rw [cell_of_row _ _ _ _ _ _ hP4]; rfl
        have c14 : w4.cell? ⟨wr.heap.size, 1, none⟩ = some (.int .i64 bb) := by rw [cell_of_row _ _ _ _ _ _ hP4]; rfl
        have fa4 := cell_of_row w4 B a _ _ _ hD4
        have fb4 := cell_of_row w4 B bb _ _ _ hD4
        rw [DA_get _ a ha10, show updD D a m1 a = m1 by simp [updD]] at fa4
        rw [DA_get _ bb hb10, show updD D a m1 bb = D bb by simp [updD, Ne.symm hab]] at fb4
        have hfz4 := frozen_of_row w4 B bb _ _ hD4
        have HD4 := Lib.hid hD4
        clear hD4 hP4
        go_wp2_with fail
        clear hw4 c0 c1 fa fb hfz HD3 HP3 HZ3 Hb3
        go_still_tail 13, (by kernel_rfl)
        change wpList _ _ _ _ _ w4.drew
        by_cases hl2 : D bb ≤ m1 + 1
        · have hle2 : ((D bb : Nat) : Int) ≤ (m1 : Int) + 1 := by omega
          have HW2 : Hid (((D bb : Nat) : Int) = (m2 : Int)) := Lib.hid (by omega)
          have HD5 : Hid ((w4.setCell ⟨B, bb, none⟩ (.int .i64 ((D bb : Nat) : Int))).heap[B]? = some (.cells (DA (ledT l d (k + 1))) 63 (0, 0))) := Lib.hid (by rw [Hsucc.out, ← HD2.out, ← DA_set, ← HW2.out]; exact heap_setCell_same _ _ _ _ _ _ HD4.out)
          have HZ5 : Hid ((w4.setCell ⟨B, bb, none⟩ (.int .i64 ((D bb : Nat) : Int))).heap[B + 1]? = some (.cells ZD 63 (0, 0))) := Lib.hid ((heap_setCell_other _ _ _ _ (by show _ ≠ B; omega)).trans HZ4.out)
          have Hb5 : Hid (Below B w (w4.setCell ⟨B, bb, none⟩ (.int .i64 ((D bb : Nat) : Int))).drew) := Lib.hid (Hb4.out.setCell (Nat.le_refl _) _).drew
          go_wp2_with fail
          go_roundw
          case rel => exact ⟨k + 1, by omega, by go_num, HD5, HZ5, Hb5.out⟩
          case measure => simp [intOf]; omega
        · exfalso; omega
    · obtain rfl : k = n := by omega
      have Hend : Hid (ledT l d k = ledN l d) := Lib.hid (by rw [ledN, ← Hn.out])
      have HD' : Hid (wr.heap[B]? = some (.cells (DA (ledN l d)) 63 (0, 0))) := Lib.hid (by rw [← Hend.out]; exact HD.out)
      have Hbw : Hid (Below w.heap.size w wr) := Lib.hid (by rw [← HB.out]; exact hbel)
      have HBw := HB.out
      clear hbel HD
      go_upto_region 7 with (fail)
      go_wp2_with (first
        | (with_reducible refine wpList_load_row rfl 63 (.tmp 2) rfl B ?q1 63 _ (0, 0) _ HD'.out Tryd.underlying63 rfl ?q3 ?_)
        | (with_reducible refine wpList_store_row rfl 63 (.tmp 4) (.tmp 40) rfl (B + 1) (DA (ledN l d)) ?r1 ?r2 63 _ HZ.out ?r3 ?r4 ?r5 ?_))
      case q1 => rfl
      case q3 => rw [infoD, DA_size]
      case r3 => rw [infoD, DA_size]
      case r4 => rw [ZD, DA_size, DA_size]
      case r5 => exact DA_one _
      refine bodyPost_ret (results_cell_row rfl _ _ (B + 1) 63 _ (0, 0) _ rfl (setRow_heap _ _ _ _ _ _ HZ.out) Tryd.underlying63 rfl ?_) rfl ⟨rfl, below_setRow Hbw.out (by omega) _⟩
      rw [infoD, DA_size]

end Go.Proofs.YtibjapfaljeclaaDoor
