/- Are these rounds: the model. -/
import Derived.Test.YtjldfdaaoeomdaaDoorRndS0
namespace Go.Proofs.YtjldfdaaoeomdaaDoor
open Go.ChangeShapes Go.WideShapes Go.ChangeAt Go.RowKit
set_option linter.unusedVariables false


set_option maxRecDepth 20000 in
set_option maxHeartbeats 1000000 in
theorem roGood_loop (f : Int) (ao : Option Addr) (cap : Nat) (L : List (List (Int × Int))) (n : Nat) (w : World) (Hn : Hid (n = L.length)) (hl : n ≤ 20) (HL : Hid (∀ i, (crow L i).length ≤ 9223372036854775807)) (Hf : Hid (frB f = true)) (HA : Hid (RowsAt w ao L)) :
    Calls Tryd.prog 15 #[.int .i64 f, .slice ao n cap] w fun e w' => e = .returned (.bool (rndsB f L)) ∧ Below w.heap.size w w' := by
  have hff : 1 ≤ f ∧ f ≤ 10 := by simpa [frB] using Hf.out
  have hf1 := hff.1
  have hf2 := hff.2
  have hd : decide ((n : Int) > 20) = false := by simp; omega
  clear hff
  go_enter Tryd.func15, Tryd.ntmps15
  go_wp2_with fail
  refine (caFriends_any f w).mono ?_
  rintro e w1 ⟨rfl, rfl⟩
  rw [Hf.out]
  go_wp2_with fail
  go_loopw [20] (fun i wr => ∃ k : Nat, k ≤ n ∧ i = .int .i64 k ∧ Hid (∀ j, j < k → rndB f (crow L j) = true) ∧ Below w.heap.size w wr) (fun i _ => n - (intOf i).toNat)
  case atStart => exact ⟨0, Nat.zero_le _, rfl, Lib.hid (fun j h => absurd h (Nat.not_lt_zero j)), Below.refl _ _⟩
  case round =>
    obtain ⟨k, hk, rfl, hall, hbel⟩ := hrel
    by_cases hlt : k < n
    · rcases HA.out with h | ⟨b0, off0, A, C, rfl, hc, hcap⟩
      · exact absurd hlt (by rw [Hn.out, h]; simp)
      have hkl : k < L.length := by rw [← Hn.out]; exact hlt
      have h0 := ((hc.kept hbel) k hkl).1
      have hA := (hc k hkl).2
      have hlk := HL.out k
      have hs := hbel.size
      have hk0 : (0 : Int) ≤ k := by omega
      have hk2 : (k : Int) < n := by omega
      have HAk := Lib.hid hA
      obtain ⟨l, hl'⟩ : ∃ l, crow L k = l := ⟨_, rfl⟩
      obtain ⟨m, hm'⟩ : ∃ m, l.length = m := ⟨_, rfl⟩
      rw [hl'] at h0 hlk HAk
      rw [hm'] at h0 hlk
      have Hl := Lib.hid hl'
      have Hm := Lib.hid hm'
      clear hc hcap hA hl' hm'
      go_wp2_with fail
      go_loopw [7, 26] (fun v i wr2 => ∃ p : Nat, p ≤ m ∧ i = .int .i64 p ∧ v = .int .i64 (ub l p) ∧ Hid (∀ j, j < p → rok f l j = true) ∧ Below w.heap.size w wr2) (fun _ i _ => m - (intOf i).toNat)
      case atStart => exact ⟨0, Nat.zero_le _, rfl, rfl, Lib.hid (fun j h => absurd h (Nat.not_lt_zero j)), hbel⟩
      case round =>
        clear h0 hbel
        obtain ⟨p, hp, rfl, rfl, hall2, hbel⟩ := hrel
        by_cases hlp : p < m
        · rcases HAk.out with h | ⟨b, off, hAe, hc⟩
          · exact absurd hlp (by rw [← Hm.out, h]; simp)
          have hpl : p < l.length := by rw [Hm.out]; exact hlp
          have h0 := hbel.cell (p := ⟨b, off + p * 2, none⟩) (World.block_lt_of_cell? w _ (hc p hpl).1)
          have h1 := hbel.cell (p := ⟨b, off + p * 2 + 1, none⟩) (World.block_lt_of_cell? w _ (hc p hpl).2)
          rw [(hc p hpl).1] at h0
          rw [(hc p hpl).2] at h1
          have Hc := Lib.hid hc
          have hs2 := hbel.size
          have hp0 : (0 : Int) ≤ p := by omega
          have hp2 : (p : Int) < m := by omega
          have HAe := Lib.hid hAe
          rw [hAe]
          clear hc hAe
          obtain ⟨wr2, hwr2⟩ : ∃ wr2, wr2 = wr := ⟨_, rfl⟩
          subst hwr2
          cases hcal : calB f (ca l p) (cb l p)
          · have Hno : Hid (rndsB f L = false) := Lib.hid (rnds_no hkl (by rw [Hl.out]; exact rnd_no hpl (by simp [rok, hcal])))
  
            have Hcal := Lib.hid hcal
            clear hcal
            obtain ⟨X, hX⟩ : ∃ X : Int, ca l p = X := ⟨_, rfl⟩
            obtain ⟨Y, hY⟩ : ∃ Y : Int, cb l p = Y := ⟨_, rfl⟩
            rw [hX] at h0
            rw [hY] at h1
            rw [hX, hY] at Hcal
            clear hX hY
  
            obtain ⟨W, hW⟩ : ∃ W, wr2.alloc (Obj.cells #[Value.int IntKind.i64 X, Value.int IntKind.i64 Y] 50) = W := ⟨_, rfl⟩
            have c0 : W.cell? ⟨wr2.heap.size, 0, none⟩ = some (.int .i64 X) := by rw [← hW]; simp
            have c1 : W.cell? ⟨wr2.heap.size, 1, none⟩ = some (.int .i64 Y) := by rw [← hW]; simp
            have HbW : Hid (Below w.heap.size w W) := by rw [← hW]; exact hbel.alloc hs2 _
            have hBW : wr2.heap.size < W.heap.size := World.block_lt_of_cell? _ _ c0
            have c0g : ∀ n os, (Sort.grow (W.drewN n) os).cell? ⟨wr2.heap.size, 0, none⟩ = some (.int .i64 X) := cell_grown hBW c0
            have c1g : ∀ n os, (Sort.grow (W.drewN n) os).cell? ⟨wr2.heap.size, 1, none⟩ = some (.int .i64 Y) := cell_grown hBW c1
            have hca : ∀ n os, Calls Tryd.prog 28 #[.int .i64 f, .agg #[.int .i64 X, .int .i64 Y]] (Sort.grow (W.drewN n) os) fun e w' => e = .returned (.bool false) ∧ ∃ q os', w' = Sort.grow ((Sort.grow (W.drewN n) os).drewN q) os' := fun n os => by have := caCall_grown f X Y (Sort.grow (W.drewN n) os) hf1 hf2; rw [Hcal.out] at this; exact this
            go_wp2_with fail
            try rw [hW]
            clear hW
            refine wp_region_quiet_grown mixedT (by kernel_rfl) ?_
            repeat (go_big_quiet_step (first | refine Calls.grown_of (hca _ _)))
            refine wpQuiet_nil ?_
            intro _ hwz
            obtain ⟨⟨nq, osq⟩, hwz2⟩ := hwz
            subst hwz2
            have hb6 : Below w.heap.size w (Sort.grow (W.drewN nq) osq) := HbW.out.trans ((grown_below ⟨⟨nq, osq⟩, rfl⟩).mono HbW.out.size)
            have HB6 := Lib.hid hb6
            clear hb6 h0 h1 c0 c1 c0g c1g hca
            go_wp2_with fail
            go_ret
            exact ⟨ret_bool Hno.out.symm, HB6.out⟩
          · have hcc : 0 ≤ ca l p ∧ ca l p < cb l p ∧ cb l p < f := by simpa [calB] using hcal
            obtain ⟨X, hX⟩ := Int.eq_ofNat_of_zero_le hcc.1
            obtain ⟨Y, hY⟩ := Int.eq_ofNat_of_zero_le (show 0 ≤ cb l p by omega)
            have hX10 : X < 10 := by omega
            have hY10 : Y < 10 := by omega
            have hu : ub l p < 1024 := ub_lt l hf2 p (fun i hi => by have := rok_parts (hall2.out i hi); simp only [calB, decide_eq_true_eq]; exact this.1)
            have HXe := Lib.hid hX
            have HYe := Lib.hid hY
            rw [hX] at h0
            rw [hY] at h1
            have Hcal : Hid (calB f X Y = true) := Lib.hid (by rw [← hX, ← hY]; exact hcal)
            have tA := digit_test (ub l p) X hu
            have tB := digit_test (ub l p) Y hu
            have Hrok : Hid (rok f l p = (!(ub l p).testBit X && !(ub l p).testBit Y && (p == 0 || lessB l p))) := Lib.hid (by rw [rok, hcal, apart, hX, hY, Int.toNat_natCast, Int.toNat_natCast, Bool.true_and])
            clear hX hY hcc
  
            obtain ⟨W, hW⟩ : ∃ W, wr2.alloc (Obj.cells #[Value.int IntKind.i64 X, Value.int IntKind.i64 Y] 50) = W := ⟨_, rfl⟩
            have c0 : W.cell? ⟨wr2.heap.size, 0, none⟩ = some (.int .i64 X) := by rw [← hW]; simp
            have c1 : W.cell? ⟨wr2.heap.size, 1, none⟩ = some (.int .i64 Y) := by rw [← hW]; simp
            have HbW : Hid (Below w.heap.size w W) := by rw [← hW]; exact hbel.alloc hs2 _
            have hBW : wr2.heap.size < W.heap.size := World.block_lt_of_cell? _ _ c0
  
            cases hbA : (ub l p).testBit X
            · cases hbB : (ub l p).testBit Y
              · by_cases hz : p = 0
                · have Hall2 : Hid (∀ j, j < p + 1 → rok f l j = true) := Lib.hid (fun i h2 => by
                    by_cases hik : i = p
                    · subst hik; rw [Hrok.out, hbA, hbB, hz]; simp
                    · exact hall2.out i (by omega))
                  have Hsucc : Hid (ub l (p + 1) = ub l p ||| (2 ^ X ||| 2 ^ Y)) := Lib.hid (by rw [ub, HXe.out, HYe.out, Int.toNat_natCast, Int.toNat_natCast])
                  have Hw1 := Lib.hid (wrap_pow64 X (by omega))
                  have Hw2 := Lib.hid (wrap_pow64 Y (by omega))
                  have Ho1 := Lib.hid (bits_or_int (2 ^ X) (2 ^ Y) (pow_small X hX10) (pow_small Y hY10))
                  have Ho2 := Lib.hid (bits_or_int (ub l p) (2 ^ X ||| 2 ^ Y) hu (Nat.or_lt_two_pow (n := 10) (pow_small X hX10) (pow_small Y hY10)))
                  have hgt : decide ((0 : Int) < (p : Int)) = false := by simp; omega
                  have hgtN : decide (0 < p) = false := by simp; omega
                  rw [hbA] at tA
                  rw [hbB] at tB
                  clear hcal hbA hbB hz
                  have c0g : ∀ n os, (Sort.grow (W.drewN n) os).cell? ⟨wr2.heap.size, 0, none⟩ = some (.int .i64 X) := cell_grown hBW c0
                  have c1g : ∀ n os, (Sort.grow (W.drewN n) os).cell? ⟨wr2.heap.size, 1, none⟩ = some (.int .i64 Y) := cell_grown hBW c1
                  have hca : ∀ n os, Calls Tryd.prog 28 #[.int .i64 f, .agg #[.int .i64 X, .int .i64 Y]] (Sort.grow (W.drewN n) os) fun e w' => e = .returned (.bool true) ∧ ∃ q os', w' = Sort.grow ((Sort.grow (W.drewN n) os).drewN q) os' := fun n os => by have := caCall_grown f X Y (Sort.grow (W.drewN n) os) hf1 hf2; rw [Hcal.out] at this; exact this
                  go_wp2_with fail
                  try rw [hW]
                  clear hW
                  refine wp_region_quiet_grown mixedT (by kernel_rfl) ?_
                  repeat (go_big_quiet_step (first | refine Calls.grown_of (hca _ _)))
                  refine wpQuiet_nil ?_
                  intro _ hwz
                  obtain ⟨⟨nq, osq⟩, hwz2⟩ := hwz
                  subst hwz2
                  have hb6 : Below w.heap.size w (Sort.grow (W.drewN nq) osq) := HbW.out.trans ((grown_below ⟨⟨nq, osq⟩, rfl⟩).mono HbW.out.size)
                  have d0 := c0g nq osq
                  have d1 := c1g nq osq
                  clear h0 h1 c0 c1 c0g c1g hca
                  generalize Sort.grow (W.drewN nq) osq = w3 at *
                  go_wp2_with fail
                  go_quiet (fail)
                  go_wp2_with fail
                  go_roundw
                  case rel => exact ⟨p + 1, by omega, by go_num, by rw [Hw1.out, Hw2.out, Ho1.out, Ho2.out, Hsucc.out], Hall2, belowN hb6 _⟩
                  case measure => simp [intOf]; omega
                · obtain ⟨q, hq⟩ : ∃ q, p = q + 1 := ⟨p - 1, by omega⟩
                  have hsub : (p : Int) - 1 = (q : Int) := by omega
                  have hwj : IntKind.i64.wrap (q : Int) = (q : Int) := IntWalk.i64_in _ (by omega)
                  have hqm : q < l.length := by omega
                  have P0' := hbel.cell (p := ⟨b, off + q * 2, none⟩) (World.block_lt_of_cell? w _ (Hc.out q hqm).1)
                  have P1' := hbel.cell (p := ⟨b, off + q * 2 + 1, none⟩) (World.block_lt_of_cell? w _ (Hc.out q hqm).2)
                  rw [(Hc.out q hqm).1] at P0'
                  rw [(Hc.out q hqm).2] at P1'
                  have P0 : Hid (W.cell? ⟨b, off + q * 2, none⟩ = some (.int .i64 (ca l q))) := Lib.hid (by rw [← hW]; exact cell_old ((Below.refl _ _).alloc (Nat.le_refl _) _) P0')
                  have P1 : Hid (W.cell? ⟨b, off + q * 2 + 1, none⟩ = some (.int .i64 (cb l q))) := Lib.hid (by rw [← hW]; exact cell_old ((Below.refl _ _).alloc (Nat.le_refl _) _) P1')
                  have Hltc : Hid (ltC (ca l q) (cb l q) X Y = lessB l p) := Lib.hid (by rw [ltC, lessB, show p - 1 = q by omega, HXe.out, HYe.out])
                  have hq0 : (0 : Int) ≤ q := by omega
                  have hq2 : (q : Int) < m := by omega
                  have hgt : (0 : Int) < (p : Int) := by omega
                  have hgtN : 0 < p := by omega
                  clear hq P0' P1'
                  rw [hbA] at tA
                  rw [hbB] at tB
                  cases hless : lessB l p
                  · have Hno : Hid (rndsB f L = false) := Lib.hid (rnds_no hkl (by rw [Hl.out]; exact rnd_no hpl (by rw [Hrok.out, hbA, hbB, hless]; simp; omega)))
                    rw [hless] at Hltc
                    clear hcal hbA hbB hless
                    have c0g : ∀ n os, (Sort.grow (W.drewN n) os).cell? ⟨wr2.heap.size, 0, none⟩ = some (.int .i64 X) := cell_grown hBW c0
                    have c1g : ∀ n os, (Sort.grow (W.drewN n) os).cell? ⟨wr2.heap.size, 1, none⟩ = some (.int .i64 Y) := cell_grown hBW c1
                    have hca : ∀ n os, Calls Tryd.prog 28 #[.int .i64 f, .agg #[.int .i64 X, .int .i64 Y]] (Sort.grow (W.drewN n) os) fun e w' => e = .returned (.bool true) ∧ ∃ q os', w' = Sort.grow ((Sort.grow (W.drewN n) os).drewN q) os' := fun n os => by have := caCall_grown f X Y (Sort.grow (W.drewN n) os) hf1 hf2; rw [Hcal.out] at this; exact this
                    have p0g : ∀ n os, (Sort.grow (W.drewN n) os).cell? ⟨b, off + q * 2, none⟩ = some (.int .i64 (ca l q)) := cell_grown (World.block_lt_of_cell? _ _ P0.out) P0.out
                    have p1g : ∀ n os, (Sort.grow (W.drewN n) os).cell? ⟨b, off + q * 2 + 1, none⟩ = some (.int .i64 (cb l q)) := cell_grown (World.block_lt_of_cell? _ _ P1.out) P1.out
                    have hro : ∀ n os, Calls Tryd.prog 29 #[.agg #[.int .i64 (ca l q), .int .i64 (cb l q)], .agg #[.int .i64 X, .int .i64 Y]] (Sort.grow (W.drewN n) os) fun e w' => e = .returned (.bool false) ∧ ∃ q os', w' = Sort.grow ((Sort.grow (W.drewN n) os).drewN q) os' := fun n os => by have := roLess_grown (ca l q) (cb l q) X Y (Sort.grow (W.drewN n) os); rw [Hltc.out] at this; exact this
                    go_wp2_with fail
                    try rw [hW]
                    clear hW
                    refine wp_region_quiet_grown mixedT (by kernel_rfl) ?_
                    repeat (go_big_quiet_step (first | refine Calls.grown_of (hca _ _) | refine Calls.grown_of (hro _ _)))
                    refine wpQuiet_nil ?_
                    intro _ hwz
                    obtain ⟨⟨nq, osq⟩, hwz2⟩ := hwz
                    subst hwz2
                    have hb6 : Below w.heap.size w (Sort.grow (W.drewN nq) osq) := HbW.out.trans ((grown_below ⟨⟨nq, osq⟩, rfl⟩).mono HbW.out.size)
                    have HB6 := Lib.hid hb6
                    clear hb6 h0 h1 c0 c1 c0g c1g hca
                    go_wp2_with fail
                    go_ret
                    exact ⟨ret_bool Hno.out.symm, HB6.out⟩
                  · have Hall2 : Hid (∀ j, j < p + 1 → rok f l j = true) := Lib.hid (fun i h2 => by
                      by_cases hik : i = p
                      · subst hik; rw [Hrok.out, hbA, hbB, hless]; simp
                      · exact hall2.out i (by omega))
                    have Hsucc : Hid (ub l (p + 1) = ub l p ||| (2 ^ X ||| 2 ^ Y)) := Lib.hid (by rw [ub, HXe.out, HYe.out, Int.toNat_natCast, Int.toNat_natCast])
                    have Hw1 := Lib.hid (wrap_pow64 X (by omega))
                    have Hw2 := Lib.hid (wrap_pow64 Y (by omega))
                    have Ho1 := Lib.hid (bits_or_int (2 ^ X) (2 ^ Y) (pow_small X hX10) (pow_small Y hY10))
                    have Ho2 := Lib.hid (bits_or_int (ub l p) (2 ^ X ||| 2 ^ Y) hu (Nat.or_lt_two_pow (n := 10) (pow_small X hX10) (pow_small Y hY10)))
                    rw [hless] at Hltc
                    clear hcal hbA hbB hless
                    have c0g : ∀ n os, (Sort.grow (W.drewN n) os).cell? ⟨wr2.heap.size, 0, none⟩ = some (.int .i64 X) := cell_grown hBW c0
                    have c1g : ∀ n os, (Sort.grow (W.drewN n) os).cell? ⟨wr2.heap.size, 1, none⟩ = some (.int .i64 Y) := cell_grown hBW c1
                    have hca : ∀ n os, Calls Tryd.prog 28 #[.int .i64 f, .agg #[.int .i64 X, .int .i64 Y]] (Sort.grow (W.drewN n) os) fun e w' => e = .returned (.bool true) ∧ ∃ q os', w' = Sort.grow ((Sort.grow (W.drewN n) os).drewN q) os' := fun n os => by have := caCall_grown f X Y (Sort.grow (W.drewN n) os) hf1 hf2; rw [Hcal.out] at this; exact this
                    have p0g : ∀ n os, (Sort.grow (W.drewN n) os).cell? ⟨b, off + q * 2, none⟩ = some (.int .i64 (ca l q)) := cell_grown (World.block_lt_of_cell? _ _ P0.out) P0.out
                    have p1g : ∀ n os, (Sort.grow (W.drewN n) os).cell? ⟨b, off + q * 2 + 1, none⟩ = some (.int .i64 (cb l q)) := cell_grown (World.block_lt_of_cell? _ _ P1.out) P1.out
                    have hro : ∀ n os, Calls Tryd.prog 29 #[.agg #[.int .i64 (ca l q), .int .i64 (cb l q)], .agg #[.int .i64 X, .int .i64 Y]] (Sort.grow (W.drewN n) os) fun e w' => e = .returned (.bool true) ∧ ∃ q os', w' = Sort.grow ((Sort.grow (W.drewN n) os).drewN q) os' := fun n os => by have := roLess_grown (ca l q) (cb l q) X Y (Sort.grow (W.drewN n) os); rw [Hltc.out] at this; exact this
                    go_wp2_with fail
                    try rw [hW]
                    clear hW
                    refine wp_region_quiet_grown mixedT (by kernel_rfl) ?_
                    repeat (go_big_quiet_step (first | refine Calls.grown_of (hca _ _) | refine Calls.grown_of (hro _ _)))
                    refine wpQuiet_nil ?_
                    intro _ hwz
                    obtain ⟨⟨nq, osq⟩, hwz2⟩ := hwz
                    subst hwz2
                    have hb6 : Below w.heap.size w (Sort.grow (W.drewN nq) osq) := HbW.out.trans ((grown_below ⟨⟨nq, osq⟩, rfl⟩).mono HbW.out.size)
                    have d0 := c0g nq osq
                    have d1 := c1g nq osq
                    clear h0 h1 c0 c1 c0g c1g hca
                    generalize Sort.grow (W.drewN nq) osq = w3 at *
                    go_wp2_with fail
                    go_quiet (fail)
                    go_wp2_with fail
                    go_roundw
                    case rel => exact ⟨p + 1, by omega, by go_num, by rw [Hw1.out, Hw2.out, Ho1.out, Ho2.out, Hsucc.out], Hall2, belowN hb6 _⟩
                    case measure => simp [intOf]; omega
              · have Hno : Hid (rndsB f L = false) := Lib.hid (rnds_no hkl (by rw [Hl.out]; exact rnd_no hpl (by rw [Hrok.out, hbA, hbB]; rfl)))
                rw [hbA] at tA
                rw [hbB] at tB
                clear hcal hbA hbB
                have c0g : ∀ n os, (Sort.grow (W.drewN n) os).cell? ⟨wr2.heap.size, 0, none⟩ = some (.int .i64 X) := cell_grown hBW c0
                have c1g : ∀ n os, (Sort.grow (W.drewN n) os).cell? ⟨wr2.heap.size, 1, none⟩ = some (.int .i64 Y) := cell_grown hBW c1
                have hca : ∀ n os, Calls Tryd.prog 28 #[.int .i64 f, .agg #[.int .i64 X, .int .i64 Y]] (Sort.grow (W.drewN n) os) fun e w' => e = .returned (.bool true) ∧ ∃ q os', w' = Sort.grow ((Sort.grow (W.drewN n) os).drewN q) os' := fun n os => by have := caCall_grown f X Y (Sort.grow (W.drewN n) os) hf1 hf2; rw [Hcal.out] at this; exact this
                go_wp2_with fail
                try rw [hW]
                clear hW
                refine wp_region_quiet_grown mixedT (by kernel_rfl) ?_
                repeat (go_big_quiet_step (first | refine Calls.grown_of (hca _ _)))
                refine wpQuiet_nil ?_
                intro _ hwz
                obtain ⟨⟨nq, osq⟩, hwz2⟩ := hwz
                subst hwz2
                have hb6 : Below w.heap.size w (Sort.grow (W.drewN nq) osq) := HbW.out.trans ((grown_below ⟨⟨nq, osq⟩, rfl⟩).mono HbW.out.size)
                have HB6 := Lib.hid hb6
                clear hb6 h0 h1 c0 c1 c0g c1g hca
                go_wp2_with fail
                go_ret
                exact ⟨ret_bool Hno.out.symm, HB6.out⟩
            · have Hno : Hid (rndsB f L = false) := Lib.hid (rnds_no hkl (by rw [Hl.out]; exact rnd_no hpl (by rw [Hrok.out, hbA]; rfl)))
              rw [hbA] at tA
              clear hcal hbA tB
              have c0g : ∀ n os, (Sort.grow (W.drewN n) os).cell? ⟨wr2.heap.size, 0, none⟩ = some (.int .i64 X) := cell_grown hBW c0
              have c1g : ∀ n os, (Sort.grow (W.drewN n) os).cell? ⟨wr2.heap.size, 1, none⟩ = some (.int .i64 Y) := cell_grown hBW c1
              have hca : ∀ n os, Calls Tryd.prog 28 #[.int .i64 f, .agg #[.int .i64 X, .int .i64 Y]] (Sort.grow (W.drewN n) os) fun e w' => e = .returned (.bool true) ∧ ∃ q os', w' = Sort.grow ((Sort.grow (W.drewN n) os).drewN q) os' := fun n os => by have := caCall_grown f X Y (Sort.grow (W.drewN n) os) hf1 hf2; rw [Hcal.out] at this; exact this
              go_wp2_with fail
              try rw [hW]
              clear hW
              refine wp_region_quiet_grown mixedT (by kernel_rfl) ?_
              repeat (go_big_quiet_step (first | refine Calls.grown_of (hca _ _)))
              refine wpQuiet_nil ?_
              intro _ hwz
              obtain ⟨⟨nq, osq⟩, hwz2⟩ := hwz
              subst hwz2
              have hb6 : Below w.heap.size w (Sort.grow (W.drewN nq) osq) := HbW.out.trans ((grown_below ⟨⟨nq, osq⟩, rfl⟩).mono HbW.out.size)
              have HB6 := Lib.hid hb6
              clear hb6 h0 h1 c0 c1 c0g c1g hca
              go_wp2_with fail
              go_ret
              exact ⟨ret_bool Hno.out.symm, HB6.out⟩
        · obtain rfl : p = m := by omega
          have Hall1 : Hid (∀ j, j < k + 1 → rndB f (crow L j) = true) := Lib.hid (fun i h2 => by
            by_cases hik : i = k
            · subst hik; rw [Hl.out]; exact rnd_yes (fun j hj => hall2.out j (by rw [← Hm.out]; exact hj))
            · exact hall.out i (by omega))
          go_wp2_with fail
          go_roundw
          case rel => exact ⟨k + 1, by omega, by go_num, Hall1, hbel⟩
          case measure => simp [intOf]; omega
    · obtain rfl : k = n := by omega
      have Hyes := Lib.hid (rnds_yes (L := L) Hf.out (by rw [← Hn.out]; exact hl) (fun j h2 => hall.out j (by rw [Hn.out]; exact h2)))
      go_wp2_with fail
      go_ret
      exact ⟨ret_bool Hyes.out.symm, hbel⟩

end Go.Proofs.YtjldfdaaoeomdaaDoor
