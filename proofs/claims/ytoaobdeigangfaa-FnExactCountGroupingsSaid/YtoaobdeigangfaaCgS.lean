/- How many groupings there are: the model. -/
import Derived.Test.YtoaobdeigangfaaCg
namespace Go.Proofs.Ytoaobdeigangfaa
open Go.ChangeShapes Go.WideShapes Go.ChangeAt Go.RowKit
set_option linter.unusedVariables false


theorem cbWires_any (n : Int) (w : World) : Calls Try.prog 46 #[.int .i64 n] w fun e w' => e = .returned (.bool (wiB n)) ∧ w = w' := by
  go_enter Try.func46, Try.ntmps46
  go_wp2_with fail
  refine (l1In_any n 1 12 w).mono ?_
  rintro e w' ⟨rfl, rfl⟩
  rw [show decide (1 ≤ n ∧ n ≤ 12) = wiB n from rfl]
  go_wp2_with fail
  go_ret
  exact ⟨rfl, rfl⟩

theorem specCg_no (w : World) (n : Int) (h : ¬ (1 ≤ n ∧ n ≤ 12)) : Calls Try.prog 26 #[.int .i64 n] w fun e w' => e = .returned (.tuple #[.int .i64 0, .bool false]) ∧ w = w' := by
  have Hd : Hid (wiB n = false) := by show _ = _; unfold wiB; simpa only [decide_eq_false_iff_not] using h
  go_enter Try.func26, Try.ntmps26
  go_wp2_with fail
  refine (cbWires_any n w).mono ?_
  rintro e w' ⟨rfl, rfl⟩
  rw [Hd.out]
  go_wp2_with fail
  go_ret2
  exact ⟨rfl, rfl⟩

set_option maxHeartbeats 1600000 in
set_option maxRecDepth 20000 in
theorem specCg_yes (w : World) (n : Nat) (h1 : 1 ≤ n) (h12 : n ≤ 12) : Calls Try.prog 26 #[.int .i64 (n : Int)] w fun e w' => e = .returned (.tuple #[.int .i64 ((sumTo (st n) 13 : Nat) : Int), .bool true]) ∧ Below w.heap.size w w' := by
  obtain ⟨i3, hi3, hz30, hz31, hz32⟩ := info_parts info3
  have Hz := Lib.hid (And.intro hz30 (And.intro hz31 hz32))
  have Hd : Hid (wiB (n : Int) = true) := by show _ = _; unfold wiB; simp only [decide_eq_true_eq]; omega
  have hlit := World.ownsRow_lit (base := w.heap.size) (e := 3) (size := 1) w #[.int .i64 1] 1 (Nat.le_refl _) (by unfold maxLen; omega) rfl
  obtain ⟨wl, hwl⟩ : ∃ wl, wl = w.alloc (.cells #[.int .i64 1] 3) := ⟨_, rfl⟩
  have HO0 : Hid (wl.ownsRow w.heap.size 3 1 (.slice (some ⟨w.heap.size, 0, none⟩) 1 1) (0 + 1) (ns (stL 0))) := by show World.ownsRow _ _ _ _ _ _ _; rw [hwl]; exact hlit
  have HB0 : Hid (Below w.heap.size w wl) := by show Below _ _ _; rw [hwl]; exact (Below.refl _ _).alloc (Nat.le_refl _) _
  have Hwl := Lib.hid hwl
  clear hlit hwl hz30 hz31 hz32
  go_enter Try.func26, Try.ntmps26
  go_wp2_with fail
  refine (cbWires_any n w).mono ?_
  rintro e w' ⟨rfl, rfl⟩
  rw [Hd.out]
  go_upto_region 4 with (fail)
  rw [← Hwl.out]
  clear Hwl
  go_wp2_with fail
  go_loopw [4, 5] (fun v i wr => ∃ k : Nat, k ≤ n ∧ i = .int .i64 k ∧ wr.ownsRow w.heap.size 3 1 v (k + 1) (ns (stL k)) ∧ Below w.heap.size w wr) (fun _ i _ => n - (intOf i).toNat)
  case atStart => exact ⟨0, Nat.zero_le _, rfl, HO0.out, HB0.out⟩
  case round =>
    obtain ⟨k, hk, rfl, hor, hbel⟩ := hrel
    obtain ⟨g0, c0, rfl, hg0⟩ := own_pos hor (by omega)
    by_cases hlt : k < n
    · obtain ⟨wa, hwa⟩ : ∃ q, q = wr := ⟨_, rfl⟩
      subst hwa
      have hsz := hbel.size
      have Hor := Lib.hid hor
      have Hbel := Lib.hid hbel
      have hk1 : ((k + 1 : Nat) : Int) + 1 = ((k + 2 : Nat) : Int) := by omega
      have hkw : IntKind.i64.wrap (((k + 1 : Nat) : Int) + 1) = ((k + 2 : Nat) : Int) := by rw [hk1]; exact IntWalk.i64_in _ (by omega)
      obtain ⟨K2, hK2⟩ : ∃ K2, K2 = k + 2 := ⟨_, rfl⟩
      obtain ⟨K1, hK1⟩ : ∃ K1, K1 = k + 1 := ⟨_, rfl⟩
      rw [← hK2] at hk1 hkw
      rw [← hK1] at hk1 hkw Hor ⊢
      have HK1 := Lib.hid hK1
      have HK2 := Lib.hid hK2
      have hK12 : K2 ≤ 14 := by omega
      clear hor hbel hK1 hK2
      go_wp2_with (refine wpList_make_full _ rfl _ _ 22 rfl wa.heap.size 3 i3 (.int .i64 0) 1 Try.underlying22 hi3 Hz.out.1 Hz.out.2.1 .i64 .i64 _ _ K2 rfl rfl rfl rfl ?_ ?_ ?_ ?_)
      · rw [Hz.out.2.2]; omega
      · unfold maxLen; omega
      · exact Nat.le_refl _
      intro w1 hown hgr
      have hown2 : w1.ownsRow wa.heap.size 3 1 (.slice (some ⟨wa.heap.size, 0, none⟩) K2 K2) K2 (ns (List.replicate K2 0)) := by rw [← zero_nums, Nat.mul_one]; simpa using hown
      have HN0 : Hid (w1.ownsRow wa.heap.size 3 1 (.slice (some ⟨wa.heap.size, 0, none⟩) K2 K2) K2 (ns (mjL k 0))) := by show World.ownsRow _ _ _ _ _ _ _; rw [mjL_zero, ← HK2.out]; exact hown2
      have HB1 : Hid (Below wa.heap.size wa w1) := (Below.refl _ _).grown hgr (Nat.le_refl _) (fun _ h => by cases h)
      obtain ⟨g, hge⟩ : ∃ g, g = wa.heap.size := ⟨_, rfl⟩
      have hgw : wa.heap.size ≤ g := by omega
      rw [← hge] at HN0 ⊢
      have Hge := Lib.hid hge
      clear hown hgr hown2 hge
      go_wp2_with fail
      go_loopw [27] (fun i wr => ∃ j : Nat, j ≤ K1 ∧ i = .int .i64 j ∧ wr.ownsRow g 3 1 (.slice (some ⟨g, 0, none⟩) K2 K2) K2 (ns (mjL k j)) ∧ Below wa.heap.size wa wr) (fun i _ => K1 - (intOf i).toNat)
      case atStart => exact ⟨0, Nat.zero_le _, rfl, HN0.out, HB1.out⟩
      case round =>
        obtain ⟨j, hj, rfl, hon, hbj⟩ := hrel
        by_cases hjl : j < K1
        · have hkk := HK1.out
          have hkk2 := HK2.out
          have hc0 := own_num (own_later Hor.out hbj) (by rw [stL_length]; exact HK1.out) j hjl
          rw [stL_at k j (by omega)] at hc0
          have f1 := own_num hon (by rw [mjL_length]; exact HK2.out) j (by omega)
          rw [mjL_at k j j (by omega)] at f1
          have f2 := own_num hon (by rw [mjL_length]; exact HK2.out) (j + 1) (by omega)
          rw [mjL_at k j (j + 1) (by omega), mj_next] at f2
          have z1 := hon.frozenAt j
          have hs1 := (hon.stored j (.int .i64 ((st (k + 1) j : Nat) : Int))).1
          have z2 := hs1.frozenAt (j + 1)
          have hs2 := (hs1.stored (j + 1) (.int .i64 ((st k j : Nat) : Int))).1
          rw [ns_set, ns_set, mjL_step k j (by omega)] at hs2
          have hb1 := st_le ⟨k, by omega⟩ ⟨j, by omega⟩
          have hb2 := st_le ⟨k + 1, by omega⟩ ⟨j, by omega⟩
          simp only at hb1 hb2
          have hmh := mj_here k j
          obtain ⟨X, hX⟩ : ∃ X, st k j = X := ⟨_, rfl⟩
          obtain ⟨Y, hY⟩ : ∃ Y, mj k j j = Y := ⟨_, rfl⟩
          obtain ⟨T, hT⟩ : ∃ T, st (k + 1) j = T := ⟨_, rfl⟩
          rw [hX] at hc0 hs2 hb1 hmh
          rw [hY] at f1 hmh
          rw [hT] at hs1 hs2 hb2 hmh z2
          have f2' : (wr.setCell ⟨g, j, none⟩ (.int .i64 (T : Int))).cell? ⟨g, j + 1, none⟩ = some (.int .i64 0) := by
            have h := hs1.cellAt (j + 1) (by omega)
            rw [h, List.getElem?_set_ne (by omega)]
            have h3 := hon.cellAt (j + 1) (by omega)
            rw [← h3]; exact f2
          have Hst := Lib.hid hs2
          have Hbs : Hid (Below wa.heap.size wa ((wr.setCell ⟨g, j, none⟩ (.int .i64 (T : Int))).setCell ⟨g, j + 1, none⟩ (.int .i64 (X : Int)))) := (hbj.setCell (p := ⟨g, j, none⟩) hgw _).setCell (p := ⟨g, j + 1, none⟩) hgw _
          obtain ⟨Z, hZ⟩ : ∃ Z, j * X = Z := ⟨_, rfl⟩
          have hzi : (j : Int) * (X : Int) = (Z : Int) := by rw [← hZ]; push_cast; first | done | rfl
          rw [hZ] at hmh
          have hsum : (Y : Int) + (Z : Int) = (T : Int) := by omega
          have hw1 : IntKind.i64.wrap (Z : Int) = (Z : Int) := IntWalk.i64_in _ (by omega)
          have hw2 : IntKind.i64.wrap (T : Int) = (T : Int) := IntWalk.i64_in _ (by omega)
          have hw3 : IntKind.i64.wrap (X : Int) = (X : Int) := IntWalk.i64_in _ (by omega)
          have hp0 : (0 : Int) ≤ (j : Int) := by omega
          have hp1 : (j : Int) < (K2 : Int) := by omega
          have hp2 : (j : Int) + 1 < (K2 : Int) := by omega
          have ht1 : ((j : Int) + 1).toNat = j + 1 := by omega
          clear hkk hkk2 f2 hs1 hs2 hb1 hb2 hmh hX hY hT hZ hon hbj
          go_wp2_with fail
          go_roundw
          case rel => exact ⟨j + 1, by omega, by go_num, Hst.out, Hbs.out⟩
          case measure => simp [intOf]; omega
        · obtain rfl : j = K1 := by omega
          have Hon : Hid (wr.ownsRow w.heap.size 3 1 (.slice (some ⟨g, 0, none⟩) K2 K2) (k + 1 + 1) (ns (stL (k + 1)))) := by
            show World.ownsRow _ _ _ _ _ _ _
            have h := own_base (show w.heap.size ≤ g by omega) hon
            rw [HK1.out, mjL_all, HK2.out] at h
            rw [HK2.out]
            exact h
          have Hb2 := Lib.hid (Hbel.out.trans (hbj.mono hsz))
          clear hon hbj
          go_wp2_with fail
          go_roundw
          case rel => exact ⟨k + 1, by omega, by go_num, Hon.out, Hb2.out⟩
          case measure => simp [intOf]; omega
    · obtain rfl : k = n := by omega
      have hbe := bell_eq ⟨k, by omega⟩
      simp only at hbe
      have Hbe := Lib.hid hbe
      have hsl := sumTo_le (st k) 5000000
      have hb := fun i (hi : i < 13) => st_le ⟨k, by omega⟩ ⟨i, by omega⟩
      have Hsl : Hid (∀ j, j ≤ 13 → sumTo (st k) j ≤ 5000000 * j) := fun j hj => hsl j (fun i hi => by have := hb i (by omega); simpa using this)
      have Hb : Hid (∀ i, i < 13 → st k i ≤ 5000000) := fun i hi => by have := hb i hi; simpa using this
      obtain ⟨K1, hK1⟩ : ∃ K1, K1 = k + 1 := ⟨_, rfl⟩
      rw [← hK1] at hor ⊢
      have HK1 := Lib.hid hK1
      have Hor := Lib.hid hor
      have hK13 : K1 ≤ 13 := by omega
      clear hsl hb hbe hor hK1
      go_wp2_with fail
      go_loopw [9, 53] (fun v i wr => ∃ j : Nat, j ≤ K1 ∧ i = .int .i64 j ∧ v = .int .i64 ((sumTo (st k) j : Nat) : Int) ∧ Below w.heap.size w wr ∧ Hid (wr.ownsRow w.heap.size 3 1 (.slice (some ⟨g0, 0, none⟩) K1 c0) K1 (ns (stL k)))) (fun _ i _ => K1 - (intOf i).toNat)
      case atStart => exact ⟨0, Nat.zero_le _, rfl, rfl, hbel, Hor⟩
      case round =>
        obtain ⟨j, hj, rfl, rfl, hbq, hoq⟩ := hrel
        by_cases hjl : j < K1
        · have h1 := Hsl.out j (by omega)
          have h2 := Hb.out j (by omega)
          have hc0 := own_num hoq.out (by rw [stL_length]; exact HK1.out) j hjl
          rw [stL_at k j (by have := HK1.out; omega)] at hc0
          have Hsu : Hid (sumTo (st k) (j + 1) = sumTo (st k) j + st k j) := rfl
          obtain ⟨A, hA⟩ : ∃ A, sumTo (st k) j = A := ⟨_, rfl⟩
          obtain ⟨B, hB⟩ : ∃ B, st k j = B := ⟨_, rfl⟩
          rw [hA] at h1 Hsu ⊢
          rw [hB] at h2 Hsu hc0
          have hw2 : IntKind.i64.wrap ((A : Int) + (B : Int)) = (A : Int) + (B : Int) := IntWalk.i64_in _ (by omega)
          clear hA hB
          go_wp2_with fail
          go_roundw
          case rel => exact ⟨j + 1, by omega, by go_num, by rw [Hsu.out]; push_cast; rfl, hbq, hoq⟩
          case measure => simp [intOf]; omega
        · obtain rfl : j = K1 := by omega
          go_wp2_with fail
          go_ret2
          exact ⟨by rw [Hbe.out, ← HK1.out]; rfl, hbq⟩

theorem specCg_any (w : World) (n : Int) : Calls Try.prog 26 #[.int .i64 n] w fun e w' => e = .returned (.tuple #[.int .i64 (bell n), .bool (wiB n)]) ∧ Below w.heap.size w w' := by
  by_cases h : 1 ≤ n ∧ n ≤ 12
  · obtain ⟨q, rfl⟩ := Int.eq_ofNat_of_zero_le (show 0 ≤ n by omega)
    rw [show bell (q : Int) = ((sumTo (st q) 13 : Nat) : Int) by unfold bell; rw [if_pos h]; rfl, show wiB (q : Int) = true by unfold wiB; simpa only [decide_eq_true_eq] using h]
    exact specCg_yes w q (by omega) (by omega)
  · rw [show bell n = 0 by unfold bell; rw [if_neg h], show wiB n = false by unfold wiB; simpa only [decide_eq_false_iff_not] using h]
    exact (specCg_no w n h).mono (by rintro e w' ⟨he, rfl⟩; exact ⟨he, Below.refl _ _⟩)

end Go.Proofs.Ytoaobdeigangfaa
