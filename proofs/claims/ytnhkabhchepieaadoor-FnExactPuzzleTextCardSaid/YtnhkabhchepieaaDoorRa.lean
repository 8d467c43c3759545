/- The first clue that is none is raised. -/
import Derived.Test.YtnhkabhchepieaaDoorKd
namespace Go.Proofs.YtnhkabhchepieaaDoor
open Go.ChangeShapes Go.WideShapes Go.ChangeAt Go.RowKit
set_option linter.unusedVariables false


/-- What a panic with a clue that is none hands on. -/
def noneAt (j : Nat) : Value := .iface 148 (.agg #[.int .i64 (j : Int)])
theorem mixedT : Tryd.prog.follows .mixedOrders = true := by kernel_rfl
set_option maxHeartbeats 3200000 in
set_option maxRecDepth 20000 in
theorem raise_pos (f n : Int) (kb b off cap : Nat) (l : List Clu) (N j : Nat) (w : World) (HN : Hid (N = l.length)) (hN : N ≤ 1048576) (HK : Hid (KindsAt f n w kb)) (ao : Option Addr) (Hao : Hid (0 < N → ao = some ⟨b, off, none⟩)) (Hc : Hid (∀ i, i < N → Sat4 w b off l i))
    (hj : j ≤ N) (Hg : Hid (∀ i, i < j → pB f n (k0 l i, k1 l i, k2 l i, k3 l i) = true)) (Hno : Hid (j < N → pB f n (k0 l j, k1 l j, k2 l j, k3 l j) = false)) (E : Ending) (HE1 : Hid (j = N → E = .returned (.tuple #[]))) (HE2 : Hid (j < N → E = .panicked [{ v := noneAt j, recovered := false }])) :
    Calls Tryd.prog 110 #[.slice (some ⟨kb, 0, none⟩) 6 6, .slice ao N cap] w fun e w' => e = E ∧ Below w.heap.size w w' := by
  go_enter Tryd.func110, Tryd.ntmps110
  go_wp2_with fail
  go_loopw [8] (fun i wr => ∃ q : Nat, q ≤ j ∧ i = .int .i64 q ∧ Below w.heap.size w wr) (fun i _ => N - (intOf i).toNat)
  case atStart => exact ⟨0, Nat.zero_le _, rfl, Below.refl _ _⟩
  case round =>
    obtain ⟨q, hq, rfl, hbel⟩ := hrel
    by_cases hlt : q < N
    · have hao := Hao.out (by omega)
      subst hao
      obtain ⟨h0, h1, h2, h7⟩ := (Hc.out q hlt).kept hbel
      have hs2 := hbel.size
      have HKr := HK.out.kept hbel
      obtain ⟨wr2, hwr⟩ : ∃ x, x = wr := ⟨_, rfl⟩
      subst hwr
      obtain ⟨W, hW⟩ : ∃ W, wr2.alloc (Obj.cells #[Value.int IntKind.i64 (k0 l q), Value.int IntKind.i64 (k1 l q), Value.int IntKind.i64 (k2 l q), Value.int IntKind.i64 (k3 l q)] 83) = W := ⟨_, rfl⟩
      have c0 : W.cell? ⟨wr2.heap.size, 0, none⟩ = some (.int .i64 (k0 l q)) := by rw [← hW]; simp
      have c1 : W.cell? ⟨wr2.heap.size, 1, none⟩ = some (.int .i64 (k1 l q)) := by rw [← hW]; simp
      have c2 : W.cell? ⟨wr2.heap.size, 2, none⟩ = some (.int .i64 (k2 l q)) := by rw [← hW]; simp
      have c3 : W.cell? ⟨wr2.heap.size, 3, none⟩ = some (.int .i64 (k3 l q)) := by rw [← hW]; simp
      have HbW : Hid (Below w.heap.size w W) := by rw [← hW]; exact hbel.alloc hs2 _
      have HKW : Hid (KindsAt f n W kb) := by rw [← hW]; exact HKr.kept ((Below.refl _ _).alloc (Nat.le_refl _) _)
      have hBW : wr2.heap.size < W.heap.size := World.block_lt_of_cell? _ _ c0
      have hkW := HKW.out.lt
      by_cases hK0 : k0 l q < 0
      · -- a kind below the first one
        obtain rfl : q = j := by
          rcases Nat.lt_or_ge q j with h | h
          · have := Hg.out q h; simp [pB] at this; omega
          · omega
        have hd : decide (k0 l q < 0) = true := by simpa using hK0
        have c0g : ∀ m os, (Sort.grow (W.drewN m) os).cell? ⟨wr2.heap.size, 0, none⟩ = some (.int .i64 (k0 l q)) := cell_grown hBW c0
        have c1g : ∀ m os, (Sort.grow (W.drewN m) os).cell? ⟨wr2.heap.size, 1, none⟩ = some (.int .i64 (k1 l q)) := cell_grown hBW c1
        have c2g : ∀ m os, (Sort.grow (W.drewN m) os).cell? ⟨wr2.heap.size, 2, none⟩ = some (.int .i64 (k2 l q)) := cell_grown hBW c2
        have c3g : ∀ m os, (Sort.grow (W.drewN m) os).cell? ⟨wr2.heap.size, 3, none⟩ = some (.int .i64 (k3 l q)) := cell_grown hBW c3
        go_wp2_with fail
        try rw [hW]
        clear hW
        refine wp_region_quiet_grown mixedT (by kernel_rfl) ?_
        repeat (go_big_quiet_step (first | fail))
        refine wpQuiet_nil ?_
        intro _ hwz
        obtain ⟨⟨nq, osq⟩, hwz2⟩ := hwz
        subst hwz2
        have hb6 : Below w.heap.size w (Sort.grow (W.drewN nq) osq) := HbW.out.trans ((grown_below ⟨⟨nq, osq⟩, rfl⟩).mono HbW.out.size)
        have HB6 := Lib.hid hb6
        clear hb6 c0 c1 c2 c3 c0g c1g c2g c3g 
        generalize Sort.grow (W.drewN nq) osq = w3 at *
        go_wp2_with fail
        exact ⟨rfl, (HE2.out hlt).symm, HB6.out⟩
      · by_cases hK6 : k0 l q < 6
        · obtain ⟨kk, hkk⟩ := Int.eq_ofNat_of_zero_le (show 0 ≤ k0 l q by omega)
          have hk6 : kk < 6 := by omega
          obtain ⟨g0', g1', g2', g3', g4'⟩ := HKW.out.cells hk6
          have hpe : pB f n (k0 l q, k1 l q, k2 l q, k3 l q) = hasB (kA f n kk) (kB f n kk) (kL kk) (kM f n kk) ((kk : Int), k1 l q, k2 l q, k3 l q) := by
            unfold pB; simp only [hkk]; simp [hasB]; omega
          rw [hkk] at c0 h0
          have c0g : ∀ m os, (Sort.grow (W.drewN m) os).cell? ⟨wr2.heap.size, 0, none⟩ = some (.int .i64 (kk : Int)) := cell_grown hBW c0
          have c1g : ∀ m os, (Sort.grow (W.drewN m) os).cell? ⟨wr2.heap.size, 1, none⟩ = some (.int .i64 (k1 l q)) := cell_grown hBW c1
          have c2g : ∀ m os, (Sort.grow (W.drewN m) os).cell? ⟨wr2.heap.size, 2, none⟩ = some (.int .i64 (k2 l q)) := cell_grown hBW c2
          have c3g : ∀ m os, (Sort.grow (W.drewN m) os).cell? ⟨wr2.heap.size, 3, none⟩ = some (.int .i64 (k3 l q)) := cell_grown hBW c3
          have g0 : ∀ m os, (Sort.grow (W.drewN m) os).cell? ⟨kb, kk * 5, none⟩ = some (.int .i64 (kA f n kk)) := cell_grown hkW g0'
          have g1 : ∀ m os, (Sort.grow (W.drewN m) os).cell? ⟨kb, kk * 5 + 1, none⟩ = some (.int .i64 (kB f n kk)) := cell_grown hkW g1'
          have g2 : ∀ m os, (Sort.grow (W.drewN m) os).cell? ⟨kb, kk * 5 + 2, none⟩ = some (.int .i64 (kL kk)) := cell_grown hkW g2'
          have g3 : ∀ m os, (Sort.grow (W.drewN m) os).cell? ⟨kb, kk * 5 + 3, none⟩ = some (.int .i64 (kM f n kk)) := cell_grown hkW g3'
          have g4 : ∀ m os, (Sort.grow (W.drewN m) os).cell? ⟨kb, kk * 5 + 4, none⟩ = some (kF kk) := cell_grown hkW g4'
          have hd0 : decide ((kk : Int) < 0) = false := by simp
          have hd6 : decide ((kk : Int) ≥ 6) = false := by simp; omega
          have hd6' : decide (6 ≤ (kk : Int)) = false := by simp; omega
          rw [hkk] at hW
          clear g0' g1' g2' g3' g4'
          cases hh : hasB (kA f n kk) (kB f n kk) (kL kk) (kM f n kk) ((kk : Int), k1 l q, k2 l q, k3 l q)
          · rw [hh] at hpe
            have Hhas := Lib.hid hh
            clear hh
            obtain rfl : q = j := by
              rcases Nat.lt_or_ge q j with h | h
              · have := Hg.out q h; rw [hpe] at this; cases this
              · omega
            have hca : ∀ m os, Calls Tryd.prog 137 #[.agg #[.int .i64 (kA f n kk), .int .i64 (kB f n kk), .int .i64 (kL kk), .int .i64 (kM f n kk), kF kk], .agg #[.int .i64 (kk : Int), .int .i64 (k1 l q), .int .i64 (k2 l q), .int .i64 (k3 l q)]] (Sort.grow (W.drewN m) os) fun e w' => e = .returned (.bool false) ∧ ∃ p os', w' = Sort.grow ((Sort.grow (W.drewN m) os).drewN p) os' := fun m os => by have := has_grown (kA f n kk) (kB f n kk) (kL kk) (kM f n kk) (kF kk) (kk : Int) (k1 l q) (k2 l q) (k3 l q) (Sort.grow (W.drewN m) os); rw [Hhas.out] at this; exact this
            go_wp2_with fail
            try rw [hW]
            clear hW
            refine wp_region_quiet_grown mixedT (by kernel_rfl) ?_
            repeat (go_big_quiet_step (first | refine Calls.grown_of (hca _ _)))
            refine wpQuiet_nil ?_
            intro _ hwz
            obtain ⟨⟨nq, osq⟩, hwz2⟩ := hwz
            subst hwz2
            have hb6 : Below w.heap.size w (Sort.grow (W.drewN nq) osq) := HbW.out.trans ((grown_below ⟨⟨nq, osq⟩, rfl⟩).mono HbW.out.size)
            have HB6 := Lib.hid hb6
            clear hb6 c0 c1 c2 c3 c0g c1g c2g c3g hca g0 g1 g2 g3 g4
            generalize Sort.grow (W.drewN nq) osq = w3 at *
            go_wp2_with fail
            exact ⟨rfl, (HE2.out hlt).symm, HB6.out⟩
          · rw [hh] at hpe
            have Hhas := Lib.hid hh
            clear hh
            have hqj : q < j := by
              rcases Nat.lt_or_ge q j with h | h
              · exact h
              · have e : q = j := by omega
                subst e
                have := Hno.out hlt; rw [hpe] at this; cases this
            have hca : ∀ m os, Calls Tryd.prog 137 #[.agg #[.int .i64 (kA f n kk), .int .i64 (kB f n kk), .int .i64 (kL kk), .int .i64 (kM f n kk), kF kk], .agg #[.int .i64 (kk : Int), .int .i64 (k1 l q), .int .i64 (k2 l q), .int .i64 (k3 l q)]] (Sort.grow (W.drewN m) os) fun e w' => e = .returned (.bool true) ∧ ∃ p os', w' = Sort.grow ((Sort.grow (W.drewN m) os).drewN p) os' := fun m os => by have := has_grown (kA f n kk) (kB f n kk) (kL kk) (kM f n kk) (kF kk) (kk : Int) (k1 l q) (k2 l q) (k3 l q) (Sort.grow (W.drewN m) os); rw [Hhas.out] at this; exact this
            go_wp2_with fail
            try rw [hW]
            clear hW
            refine wp_region_quiet_grown mixedT (by kernel_rfl) ?_
            repeat (go_big_quiet_step (first | refine Calls.grown_of (hca _ _)))
            refine wpQuiet_nil ?_
            intro _ hwz
            obtain ⟨⟨nq, osq⟩, hwz2⟩ := hwz
            subst hwz2
            have hb6 : Below w.heap.size w (Sort.grow (W.drewN nq) osq) := HbW.out.trans ((grown_below ⟨⟨nq, osq⟩, rfl⟩).mono HbW.out.size)
            have HB6 := Lib.hid hb6
            clear hb6 c0 c1 c2 c3 c0g c1g c2g c3g hca g0 g1 g2 g3 g4
            generalize Sort.grow (W.drewN nq) osq = w3 at *
            go_wp2_with fail
            go_roundw
            case rel => exact ⟨q + 1, by omega, by go_num, HB6.out⟩
            case measure => simp [intOf]; omega
        · obtain rfl : q = j := by
            rcases Nat.lt_or_ge q j with h | h
            · have := Hg.out q h; simp [pB] at this; omega
            · omega
          have hd0 : decide (k0 l q < 0) = false := by simpa using hK0
          have hd6 : decide (k0 l q ≥ 6) = true := by simp; omega
          have hd6' : decide (6 ≤ k0 l q) = true := by simp; omega
          have c0g : ∀ m os, (Sort.grow (W.drewN m) os).cell? ⟨wr2.heap.size, 0, none⟩ = some (.int .i64 (k0 l q)) := cell_grown hBW c0
          have c1g : ∀ m os, (Sort.grow (W.drewN m) os).cell? ⟨wr2.heap.size, 1, none⟩ = some (.int .i64 (k1 l q)) := cell_grown hBW c1
          have c2g : ∀ m os, (Sort.grow (W.drewN m) os).cell? ⟨wr2.heap.size, 2, none⟩ = some (.int .i64 (k2 l q)) := cell_grown hBW c2
          have c3g : ∀ m os, (Sort.grow (W.drewN m) os).cell? ⟨wr2.heap.size, 3, none⟩ = some (.int .i64 (k3 l q)) := cell_grown hBW c3
          go_wp2_with fail
          try rw [hW]
          clear hW
          refine wp_region_quiet_grown mixedT (by kernel_rfl) ?_
          repeat (go_big_quiet_step (first | fail))
          refine wpQuiet_nil ?_
          intro _ hwz
          obtain ⟨⟨nq, osq⟩, hwz2⟩ := hwz
          subst hwz2
          have hb6 : Below w.heap.size w (Sort.grow (W.drewN nq) osq) := HbW.out.trans ((grown_below ⟨⟨nq, osq⟩, rfl⟩).mono HbW.out.size)
          have HB6 := Lib.hid hb6
          clear hb6 c0 c1 c2 c3 c0g c1g c2g c3g 
          generalize Sort.grow (W.drewN nq) osq = w3 at *
          go_wp2_with fail
          exact ⟨rfl, (HE2.out hlt).symm, HB6.out⟩
    · obtain rfl : q = N := by omega
      have hE := HE1.out (by omega)
      go_wp2_with fail
      exact bodyPost_end (results_none rfl _ _ _) rfl ⟨hE.symm, hbel⟩

end Go.Proofs.YtnhkabhchepieaaDoor
