/- What a network is: the model. -/
import Derived.Test.YtibjapfaljeclaaDoorNeB
namespace Go.Proofs.YtibjapfaljeclaaDoor
open Go.ChangeShapes Go.WideShapes Go.ChangeAt Go.RowKit
set_option linter.unusedVariables false


theorem prod_le {f : Int} (h1 : 1 ≤ f) (h2 : f ≤ 10) : 0 ≤ f * (f - 1) ∧ f * (f - 1) ≤ 90 := by
  have : f = 1 ∨ f = 2 ∨ f = 3 ∨ f = 4 ∨ f = 5 ∨ f = 6 ∨ f = 7 ∨ f = 8 ∨ f = 9 ∨ f = 10 := by omega
  rcases this with rfl | rfl | rfl | rfl | rfl | rfl | rfl | rfl | rfl | rfl <;> decide

set_option maxRecDepth 20000 in
set_option maxHeartbeats 1000000 in
theorem neGood_loop (f : Int) (ao : Option Addr) (cap : Nat) (l : List (Int × Int)) (n : Nat) (w : World) (Hn : Hid (n = l.length)) (hl : n ≤ 9223372036854775807) (Hf : Hid (frB f = true)) (HA : Hid (CallsAt w ao l)) :
    Calls Tryd.prog 14 #[.int .i64 f, .slice ao n cap] w fun e w' => e = .returned (.bool (netB f l)) ∧ Below w.heap.size w w' := by
  have hff : 1 ≤ f ∧ f ≤ 10 := by simpa [frB] using Hf.out
  have hf1 := hff.1
  have hf2 := hff.2
  obtain ⟨P, hP⟩ : ∃ P, f * (f - 1) = P := ⟨_, rfl⟩
  have hP1 := prod_le hf1 hf2
  rw [hP] at hP1
  have hp1 := hP1.1
  have hp2 := hP1.2
  have Hlong : Hid (netB f l = true → (n : Int) ≤ P / 2) := Lib.hid (fun h => by rw [Hn.out, ← hP]; exact net_len h)
  clear hff hP1
  by_cases hlong : (n : Int) ≤ P / 2
  · have hn45 : n ≤ 60 := by omega
    go_enter Tryd.func14, Tryd.ntmps14
    go_wp2_with fail
    refine (neFriends_any f w).mono ?_
    rintro e w1 ⟨rfl, rfl⟩
    rw [Hf.out]
    go_wp2_with fail
    go_loopw [22] (fun i wr => ∃ k : Nat, k ≤ n ∧ i = .int .i64 k ∧ Hid (∀ j, j < k → calB f (ca l j) (cb l j) = true ∧ (1 ≤ j → lessB l j = true)) ∧ Below w.heap.size w wr) (fun i _ => n - (intOf i).toNat)
    case atStart => exact ⟨0, Nat.zero_le _, rfl, Lib.hid (fun j h => absurd h (Nat.not_lt_zero j)), Below.refl _ _⟩
    case round =>
      obtain ⟨p, hp, rfl, hall2, hbel⟩ := hrel
      by_cases hlp : p < n
      · rcases HA.out with h | ⟨b, off, rfl, hc⟩
        · exact absurd hlp (by rw [Hn.out, h]; simp)
        have hpl : p < l.length := by rw [← Hn.out]; exact hlp
        have h0 := hbel.cell (p := ⟨b, off + p * 2, none⟩) (World.block_lt_of_cell? w _ (hc p hpl).1)
        have h1 := hbel.cell (p := ⟨b, off + p * 2 + 1, none⟩) (World.block_lt_of_cell? w _ (hc p hpl).2)
        rw [(hc p hpl).1] at h0
        rw [(hc p hpl).2] at h1
        have Hc := Lib.hid hc
        have hs2 := hbel.size
        have hp0 : (0 : Int) ≤ p := by omega
        have hp2 : (p : Int) < n := by omega
        clear hc
        obtain ⟨wr2, hwr2⟩ : ∃ wr2, wr2 = wr := ⟨_, rfl⟩
        subst hwr2
        obtain ⟨X, hX⟩ : ∃ X : Int, ca l p = X := ⟨_, rfl⟩
        obtain ⟨Y, hY⟩ : ∃ Y : Int, cb l p = Y := ⟨_, rfl⟩
        rw [hX] at h0
        rw [hY] at h1
        have HXe := Lib.hid hX
        have HYe := Lib.hid hY
        clear hX hY
        obtain ⟨W, hW⟩ : ∃ W, wr2.alloc (Obj.cells #[Value.int IntKind.i64 X, Value.int IntKind.i64 Y] 35) = W := ⟨_, rfl⟩
        have c0 : W.cell? ⟨wr2.heap.size, 0, none⟩ = some (.int .i64 X) := by rw [← hW]; simp
        have c1 : W.cell? ⟨wr2.heap.size, 1, none⟩ = some (.int .i64 Y) := by rw [← hW]; simp
        have HbW : Hid (Below w.heap.size w W) := by rw [← hW]; exact hbel.alloc hs2 _
        have hBW : wr2.heap.size < W.heap.size := World.block_lt_of_cell? _ _ c0
        have c0g : ∀ n os, (Sort.grow (W.drewN n) os).cell? ⟨wr2.heap.size, 0, none⟩ = some (.int .i64 X) := cell_grown hBW c0
        have c1g : ∀ n os, (Sort.grow (W.drewN n) os).cell? ⟨wr2.heap.size, 1, none⟩ = some (.int .i64 Y) := cell_grown hBW c1
        cases hcal : calB f X Y
        · have Hno : Hid (netB f l = false) := Lib.hid (by rw [netB, gd_no hpl (by rw [HXe.out, HYe.out]; exact hcal)]; rfl)
          have Hcal := Lib.hid hcal
          have hca : ∀ n os, Calls Tryd.prog 30 #[.int .i64 f, .agg #[.int .i64 X, .int .i64 Y]] (Sort.grow (W.drewN n) os) fun e w' => e = .returned (.bool false) ∧ ∃ q os', w' = Sort.grow ((Sort.grow (W.drewN n) os).drewN q) os' := fun n os => by have := caCall_grown f X Y (Sort.grow (W.drewN n) os) hf1 hf2; rw [Hcal.out] at this; exact this
          clear hcal
          go_wp2_with fail
          try rw [hW]
          clear hW
          refine wp_region_quiet_grown mixedT (by kernel_rfl) ?_
          repeat (go_big_quiet_step (first | refine Calls.grown_of (hca _ _)))
          refine wpQuiet_nil ?_
          intro _ hwz
          obtain ⟨⟨nq, osq⟩, hwz2⟩ := hwz
          subst hwz2
          have hb6 : Below w.heap.size w (Sort.grow (W.drewN nq) osq) := HbW.out.trans ((grown_below ⟨⟨nq, osq⟩, rfl⟩).mono HbW.out.size)
          have HB6 := Lib.hid hb6
          clear hb6 h0 h1 c0 c1 c0g c1g hca
          generalize Sort.grow (W.drewN nq) osq = w3 at *
          go_wp2_with fail
          go_ret
          exact ⟨ret_bool Hno.out.symm, HB6.out⟩
        · by_cases hz : p = 0
          · have Hall2 : Hid (∀ j, j < p + 1 → calB f (ca l j) (cb l j) = true ∧ (1 ≤ j → lessB l j = true)) := Lib.hid (fun i h2 => by
              have hi : i = p := by omega
              subst hi; rw [HXe.out, HYe.out]; exact ⟨hcal, fun h => by omega⟩)
            have hgt : decide ((0 : Int) < (p : Int)) = false := by simp; omega
            have hgtN : decide (0 < p) = false := by simp; omega
            clear hz
            have Hcal := Lib.hid hcal
            have hca : ∀ n os, Calls Tryd.prog 30 #[.int .i64 f, .agg #[.int .i64 X, .int .i64 Y]] (Sort.grow (W.drewN n) os) fun e w' => e = .returned (.bool true) ∧ ∃ q os', w' = Sort.grow ((Sort.grow (W.drewN n) os).drewN q) os' := fun n os => by have := caCall_grown f X Y (Sort.grow (W.drewN n) os) hf1 hf2; rw [Hcal.out] at this; exact this
            clear hcal
            go_wp2_with fail
            try rw [hW]
            clear hW
            refine wp_region_quiet_grown mixedT (by kernel_rfl) ?_
            repeat (go_big_quiet_step (first | refine Calls.grown_of (hca _ _)))
            refine wpQuiet_nil ?_
            intro _ hwz
            obtain ⟨⟨nq, osq⟩, hwz2⟩ := hwz
            subst hwz2
            have hb6 : Below w.heap.size w (Sort.grow (W.drewN nq) osq) := HbW.out.trans ((grown_below ⟨⟨nq, osq⟩, rfl⟩).mono HbW.out.size)
            have HB6 := Lib.hid hb6
            clear hb6 h0 h1 c0 c1 c0g c1g hca
            generalize Sort.grow (W.drewN nq) osq = w3 at *
            go_wp2_with fail
            go_roundw
            case rel => exact ⟨p + 1, by omega, by go_num, Hall2, HB6.out⟩
            case measure => simp [intOf]; omega
          · obtain ⟨q, hq⟩ : ∃ q, p = q + 1 := ⟨p - 1, by omega⟩
            have hsub : (p : Int) - 1 = (q : Int) := by omega
            have hwj : IntKind.i64.wrap (q : Int) = (q : Int) := IntWalk.i64_in _ (by omega)
            have hqm : q < l.length := by omega
            have P0' := hbel.cell (p := ⟨b, off + q * 2, none⟩) (World.block_lt_of_cell? w _ (Hc.out q hqm).1)
            have P1' := hbel.cell (p := ⟨b, off + q * 2 + 1, none⟩) (World.block_lt_of_cell? w _ (Hc.out q hqm).2)
            rw [(Hc.out q hqm).1] at P0'
            rw [(Hc.out q hqm).2] at P1'
            have P0 : Hid (W.cell? ⟨b, off + q * 2, none⟩ = some (.int .i64 (ca l q))) := Lib.hid (by rw [← hW]; exact cell_old ((Below.refl _ _).alloc (Nat.le_refl _) _) P0')
            have P1 : Hid (W.cell? ⟨b, off + q * 2 + 1, none⟩ = some (.int .i64 (cb l q))) := Lib.hid (by rw [← hW]; exact cell_old ((Below.refl _ _).alloc (Nat.le_refl _) _) P1')
            have Hltc : Hid (ltC (ca l q) (cb l q) X Y = lessB l p) := Lib.hid (by rw [ltC, lessB, show p - 1 = q by omega, HXe.out, HYe.out])
            have hq0 : (0 : Int) ≤ q := by omega
            have hq2 : (q : Int) < n := by omega
            have hgt : (0 : Int) < (p : Int) := by omega
            have hgtN : 0 < p := by omega
            clear hq P0' P1'
            have p0g : ∀ n os, (Sort.grow (W.drewN n) os).cell? ⟨b, off + q * 2, none⟩ = some (.int .i64 (ca l q)) := cell_grown (World.block_lt_of_cell? _ _ P0.out) P0.out
            have p1g : ∀ n os, (Sort.grow (W.drewN n) os).cell? ⟨b, off + q * 2 + 1, none⟩ = some (.int .i64 (cb l q)) := cell_grown (World.block_lt_of_cell? _ _ P1.out) P1.out
            cases hless : lessB l p
            · have Hno : Hid (netB f l = false) := Lib.hid (by rw [netB, inc_no (by omega) hpl hless, Bool.and_false])
              rw [hless] at Hltc
              clear hless
              have Hcal := Lib.hid hcal
              have hca : ∀ n os, Calls Tryd.prog 30 #[.int .i64 f, .agg #[.int .i64 X, .int .i64 Y]] (Sort.grow (W.drewN n) os) fun e w' => e = .returned (.bool true) ∧ ∃ q os', w' = Sort.grow ((Sort.grow (W.drewN n) os).drewN q) os' := fun n os => by have := caCall_grown f X Y (Sort.grow (W.drewN n) os) hf1 hf2; rw [Hcal.out] at this; exact this
              clear hcal
              have hro : ∀ n os, Calls Tryd.prog 31 #[.agg #[.int .i64 (ca l q), .int .i64 (cb l q)], .agg #[.int .i64 X, .int .i64 Y]] (Sort.grow (W.drewN n) os) fun e w' => e = .returned (.bool false) ∧ ∃ q os', w' = Sort.grow ((Sort.grow (W.drewN n) os).drewN q) os' := fun n os => by have := neLess_grown (ca l q) (cb l q) X Y (Sort.grow (W.drewN n) os); rw [Hltc.out] at this; exact this
              go_wp2_with fail
              try rw [hW]
              clear hW
              refine wp_region_quiet_grown mixedT (by kernel_rfl) ?_
              repeat (go_big_quiet_step (first | refine Calls.grown_of (hca _ _) | refine Calls.grown_of (hro _ _)))
              refine wpQuiet_nil ?_
              intro _ hwz
              obtain ⟨⟨nq, osq⟩, hwz2⟩ := hwz
              subst hwz2
              have hb6 : Below w.heap.size w (Sort.grow (W.drewN nq) osq) := HbW.out.trans ((grown_below ⟨⟨nq, osq⟩, rfl⟩).mono HbW.out.size)
              have HB6 := Lib.hid hb6
              clear hb6 h0 h1 c0 c1 c0g c1g hca
              generalize Sort.grow (W.drewN nq) osq = w3 at *
              go_wp2_with fail
              go_ret
              exact ⟨ret_bool Hno.out.symm, HB6.out⟩
            · have Hall2 : Hid (∀ j, j < p + 1 → calB f (ca l j) (cb l j) = true ∧ (1 ≤ j → lessB l j = true)) := Lib.hid (fun i h2 => by
                by_cases hik : i = p
                · subst hik; rw [HXe.out, HYe.out]; exact ⟨hcal, fun _ => hless⟩
                · exact hall2.out i (by omega))
              rw [hless] at Hltc
              clear hless
              have Hcal := Lib.hid hcal
              have hca : ∀ n os, Calls Tryd.prog 30 #[.int .i64 f, .agg #[.int .i64 X, .int .i64 Y]] (Sort.grow (W.drewN n) os) fun e w' => e = .returned (.bool true) ∧ ∃ q os', w' = Sort.grow ((Sort.grow (W.drewN n) os).drewN q) os' := fun n os => by have := caCall_grown f X Y (Sort.grow (W.drewN n) os) hf1 hf2; rw [Hcal.out] at this; exact this
              clear hcal
              have hro : ∀ n os, Calls Tryd.prog 31 #[.agg #[.int .i64 (ca l q), .int .i64 (cb l q)], .agg #[.int .i64 X, .int .i64 Y]] (Sort.grow (W.drewN n) os) fun e w' => e = .returned (.bool true) ∧ ∃ q os', w' = Sort.grow ((Sort.grow (W.drewN n) os).drewN q) os' := fun n os => by have := neLess_grown (ca l q) (cb l q) X Y (Sort.grow (W.drewN n) os); rw [Hltc.out] at this; exact this
              go_wp2_with fail
              try rw [hW]
              clear hW
              refine wp_region_quiet_grown mixedT (by kernel_rfl) ?_
              repeat (go_big_quiet_step (first | refine Calls.grown_of (hca _ _) | refine Calls.grown_of (hro _ _)))
              refine wpQuiet_nil ?_
              intro _ hwz
              obtain ⟨⟨nq, osq⟩, hwz2⟩ := hwz
              subst hwz2
              have hb6 : Below w.heap.size w (Sort.grow (W.drewN nq) osq) := HbW.out.trans ((grown_below ⟨⟨nq, osq⟩, rfl⟩).mono HbW.out.size)
              have HB6 := Lib.hid hb6
              clear hb6 h0 h1 c0 c1 c0g c1g hca
              generalize Sort.grow (W.drewN nq) osq = w3 at *
              go_wp2_with fail
              go_roundw
              case rel => exact ⟨p + 1, by omega, by go_num, Hall2, HB6.out⟩
              case measure => simp [intOf]; omega
      · obtain rfl : p = n := by omega
        have Hyes : Hid (netB f l = true) := Lib.hid (by
          rw [netB, gd_yes Hn.out Hf.out hn45 (by
            unfold goodTo
            rw [List.all_eq_true]
            intro c hcm
            obtain ⟨i, hi, rfl⟩ := List.getElem_of_mem (List.mem_of_mem_take hcm)
            rw [ca_cb l i hi]
            exact (hall2.out i (by rw [Hn.out]; exact hi)).1), inc_yes (fun j h1 h2 => (hall2.out j (by rw [Hn.out]; exact h2)).2 h1)]
          rfl)
        go_wp2_with fail
        go_ret
        exact ⟨ret_bool Hyes.out.symm, hbel⟩
  · have Hno : Hid (netB f l = false) := Lib.hid (by
      cases hb : netB f l
      · rfl
      · exact absurd (Hlong.out hb) hlong)
    go_enter Tryd.func14, Tryd.ntmps14
    go_wp2_with fail
    refine (neFriends_any f w).mono ?_
    rintro e w1 ⟨rfl, rfl⟩
    rw [Hf.out]
    go_wp2_with fail
    go_ret
    exact ⟨ret_bool Hno.out.symm, Below.refl _ _⟩

theorem neGood_any (f : Int) (ao : Option Addr) (cap : Nat) (l : List (Int × Int)) (n : Nat) (w : World) (hn : n = l.length) (hl : n ≤ 9223372036854775807) (HA : CallsAt w ao l) :
    Calls Tryd.prog 14 #[.int .i64 f, .slice ao n cap] w fun e w' => e = .returned (.bool (netB f l)) ∧ Below w.heap.size w w' := by
  cases hf : frB f
  · have Hno : Hid (netB f l = false) := Lib.hid (by simp [netB, gdB, hf])
    have Hf := Lib.hid hf
    clear hf
    go_enter Tryd.func14, Tryd.ntmps14
    go_wp2_with fail
    refine (neFriends_any f w).mono ?_
    rintro e w1 ⟨rfl, rfl⟩
    rw [Hf.out]
    go_wp2_with fail
    go_ret
    exact ⟨ret_bool Hno.out.symm, Below.refl _ _⟩
  · exact neGood_loop f ao cap l n w hn hl hf HA

end Go.Proofs.YtibjapfaljeclaaDoor
