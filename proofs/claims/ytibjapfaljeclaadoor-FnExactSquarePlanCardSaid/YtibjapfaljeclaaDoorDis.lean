/- The program's distances. -/
import Derived.Test.YtibjapfaljeclaaDoorLed
import Derived.Deep.LoopGhost
namespace Go.Proofs.YtibjapfaljeclaaDoor
open Go.ChangeShapes Go.WideShapes Go.ChangeAt Go.RowKit
set_option linter.unusedVariables false


theorem updD_same {d : Nat → Nat} {i v : Nat} (h : d i = v) : ∀ j, updD d i v j = d j := by
  intro j; unfold updD; split
  · subst_vars; rfl
  · rfl
/-- Two rows of ten numbers are the same just if the numbers are. -/
theorem DA_inj {d e : Nat → Nat} (h : DA d = DA e) : ∀ v, v < 10 → d v = e v := by
  intro v hv
  have h1 := DA_get d v hv
  rw [h, DA_get e v hv] at h1
  have h2 : ((d v : Nat) : Int) = ((e v : Nat) : Int) := by simpa using h1.symm
  omega
theorem DA_ne {l : List (Int × Int)} {d : Nat → Nat} : (DA (ledN l d) = DA d) ↔ still l d = true := by
  constructor
  · intro h
    simp only [still, List.all_eq_true, List.mem_range, beq_iff_eq]
    exact DA_inj h
  · intro h; exact DA_congr (still_yes h)


set_option maxRecDepth 100000 in
theorem eqD (x0 x1 x2 x3 x4 x5 x6 x7 x8 x9 y0 y1 y2 y3 y4 y5 y6 y7 y8 y9 : Int) (w : World) : (Op.equalIn 10000 63 (.agg #[.int .i64 x0, .int .i64 x1, .int .i64 x2, .int .i64 x3, .int .i64 x4, .int .i64 x5, .int .i64 x6, .int .i64 x7, .int .i64 x8, .int .i64 x9]) (.agg #[.int .i64 y0, .int .i64 y1, .int .i64 y2, .int .i64 y3, .int .i64 y4, .int .i64 y5, .int .i64 y6, .int .i64 y7, .int .i64 y8, .int .i64 y9])).run Tryd.prog w = .ok (x0 == y0 && (x1 == y1 && (x2 == y2 && (x3 == y3 && (x4 == y4 && (x5 == y5 && (x6 == y6 && (x7 == y7 && (x8 == y8 && x9 == y9))))))))) w := by
  have u3 := Tryd.underlying3
  have a3 := Tryd.isAgg3
  have z3 := Tryd.sizeOf3
  rw [show (10000 : Nat) = 9999 + 1 from rfl, Op.equalIn]
  simp only [Sem.run_bind, run_underlying Tryd.underlying63, Result.andThen_ok]
  simp only [Std.Legacy.Range.forIn_eq_forIn_range', Std.Legacy.Range.size, Nat.sub_zero, Nat.add_sub_cancel, Nat.div_one, List.range'_succ, List.range'_zero, List.forIn_cons, List.forIn_nil]
  go_simp
  repeat' split
  all_goals simp_all
theorem eqDA (l : List (Int × Int)) (d : Nat → Nat) (w : World) : (Op.equalIn 10000 63 (.agg (DA (ledN l d))) (.agg (DA d))).run Tryd.prog w = .ok (still l d) w := by
  refine (eqD _ _ _ _ _ _ _ _ _ _ _ _ _ _ _ _ _ _ _ _ w).trans ?_
  congr 1
  rw [Bool.eq_iff_iff]
  simp only [Bool.and_eq_true, beq_iff_eq, Int.ofNat_inj]
  constructor
  · intro h
    simp only [still, List.all_eq_true, List.mem_range, beq_iff_eq]
    intro i hi
    have : i = 0 ∨ i = 1 ∨ i = 2 ∨ i = 3 ∨ i = 4 ∨ i = 5 ∨ i = 6 ∨ i = 7 ∨ i = 8 ∨ i = 9 := by omega
    rcases this with rfl | rfl | rfl | rfl | rfl | rfl | rfl | rfl | rfl | rfl <;> simp [h]
  · intro h
    have key := still_yes h
    simp [key]
/-- When nothing is led on any more, the distances are those. -/
theorem dst_stop {l : List (Int × Int)} {F f k : Nat} (hg : gdB (F : Int) l = true) (h : still l (leds l f k) = true) : ∀ v, v < 10 → leds l f k v = dst l f v := by
  have up : ∀ m v, v < 10 → leds l f (k + m) v = leds l f k v := by
    intro m
    induction m with
    | zero => intro v _; rfl
    | succ m ih =>
      intro v hv
      have e : ∀ d e : Nat → Nat, (∀ v, v < 10 → d v = e v) → ∀ j, j ≤ l.length → ∀ v, v < 10 → ledT l d j v = ledT l e j v := by
        intro d e hde j
        induction j with
        | zero => intro _ v hv; exact hde v hv
        | succ j ihj =>
          intro hj v hv
          have hF := gd_fr hg
          obtain ⟨_, p2, p3⟩ := pair_adj hg (show j < l.length by omega)
          have ha := ihj (by omega) (ca l j).toNat (by omega)
          have hb := ihj (by omega) (cb l j).toNat (by omega)
          have hv' := ihj (by omega) v hv
          rw [ledT, ledT]
          simp only [rel1, updD]
          split <;> (try split) <;> simp_all
      show ledN l (leds l f (k + m)) v = leds l f k v
      have h1 := e _ _ ih l.length (Nat.le_refl _) v hv
      exact h1.trans (still_yes h v hv)
  intro v hv
  rcases leds_still (f := f) hg 101 with h2 | h2
  · -- both stand still: the later of the two is each of them
    have dn : ∀ m v, v < 10 → leds l f (101 + m) v = leds l f 101 v := by
      intro m
      induction m with
      | zero => intro v _; rfl
      | succ m ih =>
        intro v hv
        have hs : still l (leds l f (101 + m)) = true := by
          clear ih
          induction m with
          | zero => exact h2
          | succ m ihm => exact still_led hg (leds_inv hg (101 + m)) ihm
        exact (still_yes hs v hv).trans (ih v hv)
    have a := up 101 v hv
    have b := dn k v hv
    rw [show k + 101 = 101 + k by omega] at a
    exact a.symm.trans b
  · omega

set_option maxHeartbeats 2000000 in
set_option maxRecDepth 20000 in
theorem distancesFrom_any (F f : Nat) (ao : Option Addr) (cap : Nat) (l : List (Int × Int)) (n : Nat) (w : World) (Hn : Hid (n = l.length)) (hs : n ≤ 1048576) (Hg : Hid (gdB (F : Int) l = true)) (hf : f < F) (HA : Hid (CallsAt w ao l)) :
    Calls Tryd.prog 37 #[.int .i64 f, .slice ao n cap] w fun e w' => e = .returned (.agg (DA (dst l f))) ∧ Below w.heap.size w w' := by
  have hFr := gd_fr Hg.out
  go_enter Tryd.func37, Tryd.ntmps37
  go_wp2_with fail
  rw [← ZD_eq]
  obtain ⟨B, hB⟩ : ∃ B, B = w.heap.size := ⟨_, rfl⟩
  have HB := Lib.hid hB
  have hK0 : ((w.alloc (.cells ZD 63)).alloc (.cells ZD 63)).heap[B + 1]? = some (.cells ZD 63 (0, 0)) := by
    rw [hB]
    have := heap_alloc_new (w.alloc (.cells ZD 63)) (.cells ZD 63)
    simpa using this
  have hR0 : ((w.alloc (.cells ZD 63)).alloc (.cells ZD 63)).heap[B]? = some (.cells ZD 63 (0, 0)) := by rw [hB, Below.heap_alloc _ _ _ (by simp), heap_alloc_new]
  have hb0 : Below B w ((w.alloc (.cells ZD 63)).alloc (.cells ZD 63)) := by rw [hB]; exact ((Below.refl _ _).alloc (Nat.le_refl _) _).alloc (by simp) _
  have HK0 := Lib.hid hK0
  have HR0 := Lib.hid hR0
  have Hb0 := Lib.hid hb0
  rw [← hB]
  clear hK0 hR0 hb0 hB
  go_loopw [8] (fun i wr => ∃ k : Nat, k ≤ 10 ∧ i = .int .i64 k ∧ Hid (wr.heap[B + 1]? = some (.cells (DA (fun v => if v < k then 10 else 0)) 63 (0, 0))) ∧ Hid (wr.heap[B]? = some (.cells ZD 63 (0, 0))) ∧ Below B w wr) (fun i _ => 10 - (intOf i).toNat)
  case atStart => exact ⟨0, Nat.zero_le _, rfl, Lib.hid (by simpa [ZD] using HK0.out), HR0, Hb0.out⟩
  case round =>
    clear HK0 HR0 Hb0
    obtain ⟨k, hk, rfl, HK, HR, hbel⟩ := hrel
    by_cases hlt : k < 10
    · have hc := cell_of_row wr (B + 1) k _ _ _ HK.out
      have hfz := frozen_of_row wr (B + 1) k _ _ HK.out
      rw [DA_get _ k hlt] at hc
      have HK1 : Hid ((wr.setCell ⟨B + 1, k, none⟩ (.int .i64 10)).heap[B + 1]? = some (.cells (DA (fun v => if v < k + 1 then 10 else 0)) 63 (0, 0))) := Lib.hid (by
        have h := heap_setCell_same _ _ k _ _ (.int .i64 10) HK.out
        rw [show (Value.int IntKind.i64 10) = .int .i64 ((10 : Nat) : Int) from rfl, DA_set, DA_congr (e := fun v => if v < k + 1 then 10 else 0) (fun v _ => by
          unfold updD
          by_cases e : v = k
          · rw [if_pos e, if_pos (by omega)]
          · rw [if_neg e]
            show (if v < k then 10 else 0) = if v < k + 1 then 10 else 0
            by_cases e2 : v < k
            · rw [if_pos e2, if_pos (by omega)]
            · rw [if_neg e2, if_neg (by omega)])] at h
        exact h)
      have HR1 : Hid ((wr.setCell ⟨B + 1, k, none⟩ (.int .i64 10)).heap[B]? = some (.cells ZD 63 (0, 0))) := Lib.hid ((heap_setCell_other _ _ _ _ (by show _ ≠ B + 1; omega)).trans HR.out)
      have Hb1 : Hid (Below B w (wr.setCell ⟨B + 1, k, none⟩ (.int .i64 10))) := Lib.hid (hbel.setCell (by show B ≤ B + 1; omega) _)
      have hk2 : (k : Int) < 10 := by omega
      clear HK HR hbel
      go_wp2_with fail
      go_roundw
      case rel => exact ⟨k + 1, by omega, by go_num, HK1, HR1, Hb1.out⟩
      case measure => simp [intOf]; omega
    · obtain rfl : k = 10 := by omega
      have hf10 : f < 10 := by omega
      have hf3 : (f : Int) < 10 := by omega
      have hc := cell_of_row wr (B + 1) f _ _ _ HK.out
      have hfz := frozen_of_row wr (B + 1) f _ _ HK.out
      rw [DA_get _ f hf10] at hc
      obtain ⟨w4, hw4⟩ : ∃ w4, wr.setCell ⟨B + 1, f, none⟩ (.int .i64 0) = w4 := ⟨_, rfl⟩
      have HK4 : Hid (w4.heap[B + 1]? = some (.cells (DA (leds l f 0)) 63 (0, 0))) := Lib.hid (by
        have h := heap_setCell_same _ _ f _ _ (.int .i64 0) HK.out
        rw [show (Value.int IntKind.i64 0) = .int .i64 ((0 : Nat) : Int) from rfl, DA_set, DA_congr (e := leds l f 0) (fun v hv => by
          show updD _ f 0 v = updD (fun _ => 10) f 0 v
          unfold updD
          by_cases e : v = f
          · rw [if_pos e, if_pos e]
          · rw [if_neg e, if_neg e]
            show (if v < 10 then 10 else 0) = 10
            rw [if_pos hv])] at h
        rw [← hw4]; exact h)
      have HR4 : Hid (w4.heap[B]? = some (.cells ZD 63 (0, 0))) := Lib.hid (by rw [← hw4]; exact (heap_setCell_other _ _ _ _ (by show _ ≠ B + 1; omega)).trans HR.out)
      have Hb4 : Hid (Below B w w4) := Lib.hid (by rw [← hw4]; exact hbel.setCell (by show B ≤ B + 1; omega) _)
      have hs4 : B + 1 < w4.heap.size := (Array.getElem?_eq_some_iff.1 HK4.out).1
      clear HK HR hbel
      go_upto_region 8 with (fail)
      clear hw4 hc hfz
      have Hm0 : Hid (∀ v, leds l f 0 v ≤ 10) := Lib.hid (far0_inv l F f).most
      go_wp2_with (with_reducible refine wpList_load_row rfl 63 (.tmp 5) rfl (B + 1) ?q1a 63 _ (0, 0) _ HK4.out Tryd.underlying63 rfl ?q1b ?_)
      case q1a => rfl
      case q1b => rw [infoD, DA_size]
      refine (led_any F f (leds l f 0) ao cap l n w4 Hn hs Hg Hm0 (HA.out.kept (by rw [← HB.out]; exact Hb4.out))).mono ?_
      rintro e w5 ⟨rfl, hb5⟩
      have hs5 := hb5.size
      have HK5 : Hid (w5.heap[B + 1]? = some (.cells (DA (leds l f 0)) 63 (0, 0))) := Lib.hid ((hb5.block _ hs4).trans HK4.out)
      have HR5 : Hid (w5.heap[B]? = some (.cells ZD 63 (0, 0))) := Lib.hid ((hb5.block _ (by omega)).trans HR4.out)
      have Hb5 : Hid (Below B w w5) := Lib.hid (Hb4.out.trans (hb5.mono (by omega)))
      clear hb5
      go_wp2_with (with_reducible refine wpList_store_row rfl 63 (.tmp 7) (.tmp 18) rfl w5.heap.size (DA (ledN l (leds l f 0))) ?r1a ?r1b 63 _ (heap_alloc_new w5 _) ?r1c ?r1d ?r1e ?_)
      case r1a => rfl
      case r1b => rfl
      case r1c => rw [infoD, DA_size]
      case r1d => first | rfl | (rw [DA_size]; rfl) | (rw [DA_size, DA_size])
      case r1e => exact DA_one _
      have HK6 : Hid (((w5.alloc (.cells ZD 63)).setRow w5.heap.size (DA (ledN l (leds l f 0)))).heap[B + 1]? = some (.cells (DA (leds l f 0)) 63 (0, 0))) := Lib.hid (by rw [setRow_other _ _ _ _ (by omega), Below.heap_alloc _ _ _ (by omega)]; exact HK5.out)
      have HR6 : Hid (((w5.alloc (.cells ZD 63)).setRow w5.heap.size (DA (ledN l (leds l f 0)))).heap[B]? = some (.cells ZD 63 (0, 0))) := Lib.hid (by rw [setRow_other _ _ _ _ (by omega), Below.heap_alloc _ _ _ (by omega)]; exact HR5.out)
      have HP6 : Hid (((w5.alloc (.cells ZD 63)).setRow w5.heap.size (DA (ledN l (leds l f 0)))).heap[w5.heap.size]? = some (.cells (DA (ledN l (leds l f 0))) 63 (0, 0))) := Lib.hid (setRow_heap _ _ _ _ _ _ (heap_alloc_new w5 _))
      have Hb6 : Hid (Below B w ((w5.alloc (.cells ZD 63)).setRow w5.heap.size (DA (ledN l (leds l f 0))))) := Lib.hid (below_setRow (Hb5.out.alloc (by omega) _) (by omega) _)
      have hs100 : sumD (leds l f 0) 10 ≤ 100 := sumD_100 (far0_inv l F f).most 10
      simp only [Act.put]
      rw [← ZD_eq]
      go_loopg [7] 100 (fun kx p wr => ∃ k P : Nat, p = .pointer (some ⟨P, 0, none⟩) ∧ sumD (leds l f k) 10 ≤ kx ∧ B + 1 < P ∧ Hid (wr.heap[B + 1]? = some (.cells (DA (leds l f k)) 63 (0, 0))) ∧ Hid (wr.heap[P]? = some (.cells (DA (ledN l (leds l f k))) 63 (0, 0))) ∧ Hid (wr.heap[B]? = some (.cells ZD 63 (0, 0))) ∧ Below B w wr)
      case atStart => exact ⟨0, _, rfl, hs100, by omega, HK6, HP6, HR6, Hb6.out⟩
      case round =>
        clear HK6 HP6 HR6 Hb6 HK5 HR5 Hb5 HK4 HR4 Hb4
        obtain ⟨k, P, rfl, hsm, hBP, HK, HP, HR, hbel⟩ := hrel
        have hinv := leds_inv (f := f) Hg.out k
        have hinv1 := leds_inv (f := f) Hg.out (k + 1)
        obtain ⟨d, hd⟩ : ∃ d, leds l f k = d := ⟨_, rfl⟩
        have hd1 : leds l f (k + 1) = ledN l d := by rw [leds, hd]
        have Hd := Lib.hid hd
        have Hd1 := Lib.hid hd1
        rw [hd] at HK HP hinv hsm
        rw [hd1] at hinv1
        have hev := eqDA l d
        have Hm1 := Lib.hid hinv1.most
        have hsP : P < wr.heap.size := (Array.getElem?_eq_some_iff.1 HP.out).1
        clear hd hd1 hinv hinv1
        cases hst : still l d
        · have Hst := Lib.hid hst
          have hdec := still_no hst
          rw [hst] at hev
          clear hst
          go_upto_region 11 with (first | (refine wpList_load_row rfl 63 (.tmp 7) rfl P rfl 63 (DA (ledN l d)) (0, 0) _ HP.out Tryd.underlying63 rfl (by rw [infoD, DA_size]) ?_) | (refine wpList_load_row rfl 63 (.tmp 5) rfl (B + 1) rfl 63 (DA d) (0, 0) _ HK.out Tryd.underlying63 rfl (by rw [infoD, DA_size]) ?_))
          go_upto_region 12 with (first | (refine wpList_load_row rfl 63 (.tmp 7) rfl P rfl 63 (DA (ledN l d)) (0, 0) _ HP.out Tryd.underlying63 rfl (by rw [infoD, DA_size]) ?_) | (refine wpList_store_row rfl 63 (.tmp 5) (.tmp 25) rfl (B + 1) (DA (ledN l d)) rfl rfl 63 (DA d) HK.out (by rw [infoD, DA_size]) (by first | rfl | (rw [DA_size, DA_size]) | (rw [DA_size]; rfl)) (DA_one _) ?_))
          obtain ⟨w6, hw6⟩ : ∃ w6, wr.setRow (B + 1) (DA (ledN l d)) = w6 := ⟨_, rfl⟩
          have HK6 : Hid (w6.heap[B + 1]? = some (.cells (DA (ledN l d)) 63 (0, 0))) := Lib.hid (by rw [← hw6]; exact setRow_heap _ _ _ _ _ _ HK.out)
          have HP6 : Hid (w6.heap[P]? = some (.cells (DA (ledN l d)) 63 (0, 0))) := Lib.hid (by rw [← hw6, setRow_other _ _ _ _ (by omega)]; exact HP.out)
          have HR6 : Hid (w6.heap[B]? = some (.cells ZD 63 (0, 0))) := Lib.hid (by rw [← hw6, setRow_other _ _ _ _ (by omega)]; exact HR.out)
          have Hb6 : Hid (Below B w w6) := Lib.hid (by rw [← hw6]; exact below_setRow hbel (by omega) _)
          have hs6 : P < w6.heap.size := (Array.getElem?_eq_some_iff.1 HP6.out).1
          try rw [hw6]
          clear hw6 HK HP HR hbel hsP
          go_upto_region 13 with (first | (refine wpList_load_row rfl 63 (.tmp 7) rfl P rfl 63 (DA (ledN l d)) (0, 0) _ HP6.out Tryd.underlying63 rfl (by rw [infoD, DA_size]) ?_))
          go_upto_region 10 with (first | (refine wpList_store_row rfl 63 (.tmp 7) (.tmp 26) rfl w6.heap.size (DA (ledN l d)) rfl rfl 63 (ZD) (heap_alloc_new w6 _) (by rw [infoD, DA_size]) (by first | rfl | (rw [DA_size, DA_size]) | (rw [DA_size]; rfl)) (DA_one _) ?_))
          obtain ⟨w7, hw7⟩ : ∃ w7, (w6.alloc (.cells ZD 63)).setRow w6.heap.size (DA (ledN l d)) = w7 := ⟨_, rfl⟩
          obtain ⟨Q, hQ⟩ : ∃ Q, w6.heap.size = Q := ⟨_, rfl⟩
          have HK7 : Hid (w7.heap[B + 1]? = some (.cells (DA (ledN l d)) 63 (0, 0))) := Lib.hid (by rw [← hw7, setRow_other _ _ _ _ (by omega), Below.heap_alloc _ _ _ (by omega)]; exact HK6.out)
          have HQ7 : Hid (w7.heap[Q]? = some (.cells (DA (ledN l d)) 63 (0, 0))) := Lib.hid (by rw [← hw7, ← hQ]; exact setRow_heap _ _ _ _ _ _ (heap_alloc_new w6 _))
          have HR7 : Hid (w7.heap[B]? = some (.cells ZD 63 (0, 0))) := Lib.hid (by rw [← hw7, setRow_other _ _ _ _ (by omega), Below.heap_alloc _ _ _ (by omega)]; exact HR6.out)
          have Hb7 : Hid (Below B w w7) := Lib.hid (by rw [← hw7]; exact below_setRow (Hb6.out.alloc (by omega) _) (by omega) _)
          have hs7 : Q < w7.heap.size := (Array.getElem?_eq_some_iff.1 HQ7.out).1
          have hBQ : B + 1 < Q := by omega
          simp only [Act.put]
          rw [← ZD_eq]
          try rw [hw7]
          try rw [hQ]
          clear hw7 hQ HK6 HP6 HR6 Hb6 hs6
          go_wp2_with (first | (refine wpList_load_row rfl 63 (.tmp 5) rfl (B + 1) rfl 63 (DA (ledN l d)) (0, 0) _ HK7.out Tryd.underlying63 rfl (by rw [infoD, DA_size]) ?_))
          refine (led_any F f (ledN l d) ao cap l n w7 Hn hs Hg Hm1 (HA.out.kept (by rw [← HB.out]; exact Hb7.out))).mono ?_
          rintro e w8 ⟨rfl, hb8⟩
          have HK8 : Hid (w8.heap[B + 1]? = some (.cells (DA (ledN l d)) 63 (0, 0))) := Lib.hid ((hb8.block _ (by omega)).trans HK7.out)
          have HQ8 : Hid (w8.heap[Q]? = some (.cells (DA (ledN l d)) 63 (0, 0))) := Lib.hid ((hb8.block _ (by omega)).trans HQ7.out)
          have HR8 : Hid (w8.heap[B]? = some (.cells ZD 63 (0, 0))) := Lib.hid ((hb8.block _ (by omega)).trans HR7.out)
          have Hb8 : Hid (Below B w w8) := Lib.hid (Hb7.out.trans (hb8.mono (by omega)))
          have HK9 : Hid ((w8.setRow Q (DA (ledN l (ledN l d)))).heap[B + 1]? = some (.cells (DA (leds l f (k + 1))) 63 (0, 0))) := Lib.hid (by rw [setRow_other _ _ _ _ (by omega), Hd1.out]; exact HK8.out)
          have HQ9 : Hid ((w8.setRow Q (DA (ledN l (ledN l d)))).heap[Q]? = some (.cells (DA (ledN l (leds l f (k + 1)))) 63 (0, 0))) := Lib.hid (by rw [Hd1.out]; exact setRow_heap _ _ _ _ _ _ HQ8.out)
          have HR9 : Hid ((w8.setRow Q (DA (ledN l (ledN l d)))).heap[B]? = some (.cells ZD 63 (0, 0))) := Lib.hid (by rw [setRow_other _ _ _ _ (by omega)]; exact HR8.out)
          have Hb9 : Hid (Below B w (w8.setRow Q (DA (ledN l (ledN l d))))) := Lib.hid (below_setRow Hb8.out (by omega) _)
          have Hsm : Hid (sumD (leds l f (k + 1)) 10 ≤ sumD (ledN l d) 10) := Lib.hid (by rw [Hd1.out]; exact Nat.le_refl _)
          clear hb8
          go_wp2_with (first | (refine wpList_store_row rfl 63 (.tmp 7) (.tmp 24) rfl Q (DA (ledN l (ledN l d))) rfl rfl 63 (DA (ledN l d)) HQ8.out (by rw [infoD, DA_size]) (by first | rfl | (rw [DA_size, DA_size]) | (rw [DA_size]; rfl)) (DA_one _) ?_))
          go_roundg (sumD (ledN l d) 10)
          case measure => omega
          case rel => exact ⟨k + 1, Q, rfl, Hsm.out, hBQ, HK9, HQ9, HR9, Hb9.out⟩
        · have hEq : DA d = DA (dst l f) := DA_congr (fun v hv => by rw [← Hd.out]; exact dst_stop Hg.out (by rw [Hd.out]; exact hst) v hv)
          have HK' : Hid (wr.heap[B + 1]? = some (.cells (DA (dst l f)) 63 (0, 0))) := Lib.hid (by rw [← hEq]; exact HK.out)
          have Hbw : Hid (Below w.heap.size w wr) := Lib.hid (by rw [← HB.out]; exact hbel)
          rw [hst] at hev
          rw [hEq] at hev
          clear hEq hst hbel
          go_upto_region 14 with (first | (refine wpList_load_row rfl 63 (.tmp 7) rfl P rfl 63 (DA (ledN l d)) (0, 0) _ HP.out Tryd.underlying63 rfl (by rw [infoD, DA_size]) ?_) | (refine wpList_load_row rfl 63 (.tmp 5) rfl (B + 1) rfl 63 (DA (dst l f)) (0, 0) _ HK'.out Tryd.underlying63 rfl (by rw [infoD, DA_size]) ?_))
          go_wp2_with (first | (refine wpList_load_row rfl 63 (.tmp 5) rfl (B + 1) rfl 63 (DA (dst l f)) (0, 0) _ HK'.out Tryd.underlying63 rfl (by rw [infoD, DA_size]) ?_) | (refine wpList_store_row rfl 63 (.tmp 4) (.tmp 27) rfl B (DA (dst l f)) rfl rfl 63 (ZD) HR.out (by rw [infoD, DA_size]) (by first | rfl | (rw [DA_size, DA_size]) | (rw [DA_size]; rfl)) (DA_one _) ?_))
          refine bodyPost_ret (results_cell_row rfl _ _ B 63 _ (0, 0) _ rfl (setRow_heap _ _ _ _ _ _ HR.out) Tryd.underlying63 rfl ?_) rfl ⟨rfl, below_setRow Hbw.out (by have := HB.out; omega) _⟩
          rw [infoD, DA_size]

end Go.Proofs.YtibjapfaljeclaaDoor
