/- Labels: the program. -/
import Derived.Test.YtcedacneagpjcaaLb
namespace Go.Proofs.Ytcedacneagpjcaa
open Go.ChangeShapes Go.WideShapes Go.ChangeAt Go.RowKit
set_option linter.unusedVariables false


set_option maxHeartbeats 1600000 in
set_option maxRecDepth 20000 in
theorem labelsOf_pos (w : World) (b off ka b' off' kb : Nat) (l m : List Int) (n : Nat) (Hn : Hid (n = l.length)) (Hm : Hid (n = m.length)) (Hg : Hid (grB l = true)) (Hg2 : Hid (grB m = true))
    (Hc : Hid (∀ i, i < n → w.cell? ⟨b, off + i, none⟩ = some (.int .i64 (na l i)))) (Hd : Hid (∀ i, i < n → w.cell? ⟨b', off' + i, none⟩ = some (.int .i64 (na m i)))) :
    Calls Try.prog 56 #[.slice (some ⟨b, off, none⟩) n ka, .slice (some ⟨b', off', none⟩) n kb] w fun e w' => ∃ g c, e = .returned (.slice (some ⟨g, 0, none⟩) n c) ∧ w'.ownsRow w.heap.size 60 2 (.slice (some ⟨g, 0, none⟩) n c) n (cs (LB l m)) ∧ Below w.heap.size w w' := by
  obtain ⟨i0, hi0, hz0, hz1, hz2⟩ := info_parts info60
  have Hz := Lib.hid (And.intro hz0 (And.intro hz1 hz2))
  have hlen := grB_len Hg.out
  have hn12 : n ≤ 12 := by have := Hn.out; omega
  clear hz0 hz1 hz2 hlen
  go_enter Try.func56, Try.ntmps56
  go_upto_region 2 with (fail)
  have HB0 : Hid (Below w.heap.size w ((w.alloc (.cells (BA fun _ => 0) 68)).alloc (.cells (BA fun _ => 0) 68))) := ((Below.refl _ _).alloc (Nat.le_refl _) _).alloc (by simp) _
  have HA1 : Hid (((w.alloc (.cells (BA fun _ => 0) 68)).alloc (.cells (BA fun _ => 0) 68)).heap[w.heap.size]? = some (.cells (BA fun _ => 0) 68 (0, 0))) := (Below.heap_alloc _ _ _ (by simp)).trans (heap_alloc_new w _)
  have HA2 : Hid (((w.alloc (.cells (BA fun _ => 0) 68)).alloc (.cells (BA fun _ => 0) 68)).heap[w.heap.size + 1]? = some (.cells (BA fun _ => 0) 68 (0, 0))) := by
    have h := heap_alloc_new (w.alloc (.cells (BA fun _ => 0) 68)) (.cells (BA fun _ => 0) 68)
    rw [show (w.alloc (.cells (BA fun _ => 0) 68)).heap.size = w.heap.size + 1 by simp] at h
    exact h
  rw [BA_zero] at HA1 HA2 HB0
  obtain ⟨g, hge⟩ : ∃ g, g = w.heap.size := ⟨_, rfl⟩
  have hgw : w.heap.size ≤ g := by omega
  rw [← hge] at HA1 HA2 ⊢
  generalize (w.alloc (.cells #[.int .i64 0, .int .i64 0, .int .i64 0, .int .i64 0, .int .i64 0, .int .i64 0, .int .i64 0, .int .i64 0, .int .i64 0, .int .i64 0, .int .i64 0, .int .i64 0] 68)).alloc (.cells #[.int .i64 0, .int .i64 0, .int .i64 0, .int .i64 0, .int .i64 0, .int .i64 0, .int .i64 0, .int .i64 0, .int .i64 0, .int .i64 0, .int .i64 0, .int .i64 0] 68) = w2 at HA1 HA2 HB0 ⊢
  rw [← BA_zero] at HA1 HA2
  have Hge := Lib.hid hge
  clear hge
  go_wp2_with fail
  go_loopw [12] (fun i wr => ∃ k : Nat, k ≤ n ∧ i = .int .i64 k ∧ Hid (wr.heap[g]? = some (.cells (BA (cntTo l k)) 68 (0, 0))) ∧ Hid (wr.heap[g + 1]? = some (.cells (BA (cntTo m k)) 68 (0, 0))) ∧ Below w.heap.size w wr) (fun i _ => n - (intOf i).toNat)
  case atStart => exact ⟨0, Nat.zero_le _, rfl, by rw [cntTo_zero]; exact HA1, by rw [cntTo_zero]; exact HA2, HB0.out⟩
  case round =>
    obtain ⟨k, hk, rfl, H1, H2, hbel⟩ := hrel
    by_cases hlt : k < n
    · have h0 := cell_old hbel (Hc.out k hlt)
      have hga := grB_at Hg.out (show k < l.length by have := Hn.out; omega)
      have hgb := grB_at Hg2.out (show k < m.length by have := Hm.out; omega)
      obtain ⟨G, hG⟩ := Int.eq_ofNat_of_zero_le hga.1
      obtain ⟨G2, hG2⟩ := Int.eq_ofNat_of_zero_le hgb.1
      have hG12 : G < 12 := by omega
      have hG212 : G2 < 12 := by omega
      rw [hG] at h0
      have Hs1 := Lib.hid (cntTo_succ l k G (by have := Hn.out; omega) hG)
      have Hs2 := Lib.hid (cntTo_succ m k G2 (by have := Hm.out; omega) hG2)
      have hc1 := cntTo_le l k G
      have hc2 := cntTo_le m k G2
      have f1 := cell_of_row _ _ G _ _ _ H1.out
      rw [BA_get _ G hG12] at f1
      have z1 := frozen_of_row _ _ G _ _ H1.out
      have hs1 := heap_setCell_same wr g G (BA (cntTo l k)) 68 (.int .i64 ((cntTo l k G + 1 : Nat) : Int)) H1.out
      rw [BA_set, ← Hs1.out] at hs1
      obtain ⟨c1, hc1e⟩ : ∃ c, c = cntTo l k G := ⟨_, rfl⟩
      obtain ⟨c2, hc2e⟩ : ∃ c, c = cntTo m k G2 := ⟨_, rfl⟩
      rw [← hc1e] at f1 hs1 hc1
      have hb1 : Below w.heap.size w (wr.setCell ⟨g, G, none⟩ (.int .i64 ((c1 : Int) + 1))) := hbel.setCell (p := ⟨g, G, none⟩) hgw _
      have h2 := cell_old hb1 (Hd.out k hlt)
      rw [hG2] at h2
      have Hs1' : Hid ((wr.setCell ⟨g, G, none⟩ (.int .i64 ((c1 : Int) + 1))).heap[g]? = some (.cells (BA (cntTo l (k + 1))) 68 (0, 0))) := hs1
      have Hs2' : Hid ((wr.setCell ⟨g, G, none⟩ (.int .i64 ((c1 : Int) + 1))).heap[g + 1]? = some (.cells (BA (cntTo m k)) 68 (0, 0))) := (heap_setCell_other _ _ _ _ (by show g + 1 ≠ g; omega)).trans H2.out
      have f2 := cell_of_row _ _ G2 _ _ _ Hs2'.out
      rw [BA_get _ G2 hG212] at f2
      have z2 := frozen_of_row _ _ G2 _ _ Hs2'.out
      have hs3 := heap_setCell_same (wr.setCell ⟨g, G, none⟩ (.int .i64 ((c1 : Int) + 1))) (g + 1) G2 (BA (cntTo m k)) 68 (.int .i64 ((cntTo m k G2 + 1 : Nat) : Int)) Hs2'.out
      rw [BA_set, ← Hs2.out] at hs3
      rw [← hc2e] at f2 hs3 hc2
      have Hs3 : Hid (((wr.setCell ⟨g, G, none⟩ (.int .i64 ((c1 : Int) + 1))).setCell ⟨g + 1, G2, none⟩ (.int .i64 ((c2 : Int) + 1))).heap[g + 1]? = some (.cells (BA (cntTo m (k + 1))) 68 (0, 0))) := hs3
      have Hs4 : Hid (((wr.setCell ⟨g, G, none⟩ (.int .i64 ((c1 : Int) + 1))).setCell ⟨g + 1, G2, none⟩ (.int .i64 ((c2 : Int) + 1))).heap[g]? = some (.cells (BA (cntTo l (k + 1))) 68 (0, 0))) := (heap_setCell_other _ _ _ _ (by show g ≠ g + 1; omega)).trans Hs1'.out
      have Hb2 : Hid (Below w.heap.size w ((wr.setCell ⟨g, G, none⟩ (.int .i64 ((c1 : Int) + 1))).setCell ⟨g + 1, G2, none⟩ (.int .i64 ((c2 : Int) + 1)))) := hb1.setCell (p := ⟨g + 1, G2, none⟩) (by show w.heap.size ≤ g + 1; omega) _
      have hw1 : IntKind.i64.wrap ((c1 : Int) + 1) = (c1 : Int) + 1 := IntWalk.i64_in _ (by omega)
      have hw2 : IntKind.i64.wrap ((c2 : Int) + 1) = (c2 : Int) + 1 := IntWalk.i64_in _ (by omega)
      have hp0 : (0 : Int) ≤ (G : Int) := by omega
      have hp1 : (G : Int) < 12 := by omega
      have hp2 : (0 : Int) ≤ (G2 : Int) := by omega
      have hp3 : (G2 : Int) < 12 := by omega
      clear hga hgb hG hG2 hc1e hc2e hs1 hs3 hb1 hbel H1 H2 Hs1' Hs2'
      go_wp2_with fail
      go_roundw
      case rel => exact ⟨k + 1, by omega, by go_num, Hs4, Hs3, Hb2.out⟩
      case measure => simp [intOf]; omega
    · obtain rfl : k = n := by omega
      have hsz := hbel.size
      have hg1 : g + 1 < wr.heap.size := (Array.getElem?_eq_some_iff.1 H2.out).1
      have Hbel := Lib.hid hbel
      clear hbel
      go_wp2_with (refine wpList_make_full _ rfl _ _ 57 rfl (g + 2) 60 i0 (.agg #[.int .i64 0, .int .i64 0]) 2 Try.underlying57 hi0 Hz.out.1 Hz.out.2.1 .i64 .i64 _ _ k rfl rfl rfl rfl ?_ ?_ ?_ ?_)
      · rw [Hz.out.2.2]; omega
      · unfold maxLen; omega
      · omega
      intro w3 hown hgr
      rw [zero_cells] at hown
      have HO3 : Hid (w3.ownsRow (g + 2) 60 2 (.slice (some ⟨wr.heap.size, 0, none⟩) k k) k (cs (part (LB l m) 0))) := by show World.ownsRow _ _ _ _ _ _ _; rw [part_zero, LB_length, ← Hn.out]; exact hown
      have HB3 : Hid (Below w.heap.size w w3) := Hbel.out.grown hgr hsz (fun _ h => by cases h)
      have HA13 : Hid (w3.heap[g]? = some (.cells (BA (cntTo l k)) 68 (0, 0))) := (hgr.block g (by omega) (fun h => by cases h)).trans H1.out
      have HA23 : Hid (w3.heap[g + 1]? = some (.cells (BA (cntTo m k)) 68 (0, 0))) := (hgr.block (g + 1) (by omega) (fun h => by cases h)).trans H2.out
      obtain ⟨gL, hgL⟩ : ∃ q, q = wr.heap.size := ⟨_, rfl⟩
      rw [← hgL] at HO3 hg1 ⊢
      clear hown hgr H1 H2 Hbel hgL
      go_wp2_with fail
      go_loopw [37] (fun i wr => ∃ q : Nat, q ≤ k ∧ i = .int .i64 q ∧ wr.ownsRow (g + 2) 60 2 (.slice (some ⟨gL, 0, none⟩) k k) k (cs (part (LB l m) q)) ∧ Hid (wr.heap[g]? = some (.cells (BA (cntTo l k)) 68 (0, 0))) ∧ Hid (wr.heap[g + 1]? = some (.cells (BA (cntTo m k)) 68 (0, 0))) ∧ Below w.heap.size w wr) (fun i _ => k - (intOf i).toNat)
      case atStart => exact ⟨0, Nat.zero_le _, rfl, HO3.out, HA13, HA23, HB3.out⟩
      case round =>
        obtain ⟨q, hq, rfl, hor, H1, H2, hbel⟩ := hrel
        by_cases hqk : q < k
        · have hql : q < l.length := by have := Hn.out; omega
          have h0 := cell_old hbel (Hc.out q hqk)
          have h2 := cell_old hbel (Hd.out q hqk)
          have hga := grB_at Hg.out hql
          have hgb := grB_at Hg2.out (show q < m.length by have := Hm.out; omega)
          obtain ⟨G, hG⟩ := Int.eq_ofNat_of_zero_le hga.1
          obtain ⟨G2, hG2⟩ := Int.eq_ofNat_of_zero_le hgb.1
          have hG12 : G < 12 := by omega
          have hG212 : G2 < 12 := by omega
          rw [hG] at h0
          rw [hG2] at h2
          have f1 := cell_of_row _ _ G _ _ _ H1.out
          rw [BA_get _ G hG12, cntTo_all l q G k Hn.out hG, ← LB_a l m q hql] at f1
          have f2 := cell_of_row _ _ G2 _ _ _ H2.out
          rw [BA_get _ G2 hG212, cntTo_all m q G2 k Hm.out hG2, ← LB_b l m q hql] at f2
          obtain ⟨u0, z0⟩ := own_some hor (q * 2) (by omega)
          obtain ⟨u1, z1⟩ := own_some hor (q * 2 + 1) (by omega)
          have zf0 := hor.frozenAt (q * 2)
          have zf1 := hor.frozenAt (q * 2 + 1)
          have hst := own_set2 hor q (ca (LB l m) q) (cb (LB l m) q)
          rw [part_set (LB l m) q (by rw [LB_length]; exact hql)] at hst
          generalize ca (LB l m) q = A at f1 hst
          generalize cb (LB l m) q = B at f2 hst
          have Hst := Lib.hid hst
          have hgL1 : g ≠ gL := by omega
          have hgL2 : g + 1 ≠ gL := by omega
          have Hb9 : Hid (Below w.heap.size w ((wr.setCell ⟨gL, q * 2, none⟩ (.int .i64 A)).setCell ⟨gL, q * 2 + 1, none⟩ (.int .i64 B))) := (hbel.setCell (p := ⟨gL, q * 2, none⟩) (by show w.heap.size ≤ gL; omega) _).setCell (p := ⟨gL, q * 2 + 1, none⟩) (by show w.heap.size ≤ gL; omega) _
          have H19 : Hid (((wr.setCell ⟨gL, q * 2, none⟩ (.int .i64 A)).setCell ⟨gL, q * 2 + 1, none⟩ (.int .i64 B)).heap[g]? = some (.cells (BA (cntTo l k)) 68 (0, 0))) := (heap_setCell_other _ _ _ _ hgL1).trans ((heap_setCell_other _ _ _ _ hgL1).trans H1.out)
          have H29 : Hid (((wr.setCell ⟨gL, q * 2, none⟩ (.int .i64 A)).setCell ⟨gL, q * 2 + 1, none⟩ (.int .i64 B)).heap[g + 1]? = some (.cells (BA (cntTo m k)) 68 (0, 0))) := (heap_setCell_other _ _ _ _ hgL2).trans ((heap_setCell_other _ _ _ _ hgL2).trans H2.out)
          have hp0 : (0 : Int) ≤ (G : Int) := by omega
          have hp1 : (G : Int) < 12 := by omega
          have hp2 : (0 : Int) ≤ (G2 : Int) := by omega
          have hp3 : (G2 : Int) < 12 := by omega
          clear hga hgb hG hG2 hst hor hbel H1 H2
          go_wp2_with fail
          go_region
          all_goals
            go_wp2_with fail
            go_roundw
            case rel => exact ⟨q + 1, by omega, by go_num, Hst.out, H19, H29, Hb9.out.drew⟩
            case measure => simp [intOf]; omega
        · obtain rfl : q = k := by omega
          have hpe : part (LB l m) q = LB l m := by
            have h2 : q = (LB l m).length := by rw [LB_length]; exact Hn.out
            rw [h2]; exact part_all _
          rw [hpe] at hor
          have Hor := Lib.hid (own_base (show w.heap.size ≤ g + 2 by omega) hor)
          clear hor hpe
          go_wp2_with fail
          go_ret
          exact ⟨gL, q, rfl, Hor.out, hbel⟩

end Go.Proofs.Ytcedacneagpjcaa
