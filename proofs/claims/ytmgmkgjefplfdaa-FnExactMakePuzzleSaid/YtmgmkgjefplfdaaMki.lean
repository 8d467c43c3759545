/- A clue that a list fits, by the program. -/
import Derived.Test.YtmgmkgjefplfdaaMko
import Derived.Test.YtmgmkgjefplfdaaFt
import Derived.Laws.EntriesVeiled
namespace Go.Proofs.Ytmgmkgjefplfdaa
open Go.ChangeShapes Go.WideShapes Go.ChangeAt Go.RowKit
set_option linter.unusedVariables false

theorem tell_any2 (F n : Nat) (ao : Option Addr) (cap : Nat) (l : List (Int × Int)) (Hn : Hid (n = l.length)) (hcap : n ≤ cap) (hg : gdB (F : Int) l = true) (k a b d0 d : Int) (hm : mB (F : Int) (n : Int) (k, a, b, d0) = true) :
    ∃ kk : Nat, kk < 6 ∧ k = (kk : Int) ∧ TellOk F n ao cap l (kM_ kk) k a b d (vlB F l k a b) := by
  have hk : k = 0 ∨ k = 1 ∨ k = 2 ∨ k = 3 ∨ k = 4 ∨ k = 5 := by
    rw [mB_pB] at hm
    simp [pB] at hm
    omega
  rcases hk with rfl | rfl | rfl | rfl | rfl | rfl
  · simp [mB, inB] at hm
    exact ⟨0, by omega, rfl, fun w1 hc => m0_any F ao cap l n w1 Hn hg hc a (by omega) 0 b d⟩
  · simp [mB, inB] at hm
    obtain ⟨x, rfl⟩ := Int.eq_ofNat_of_zero_le (show 0 ≤ a by omega)
    exact ⟨1, by omega, rfl, fun w1 hc => by
      have h := m1_any F ao cap l n w1 Hn hg hc x (by omega) 1 b d
      simpa [vlB, kM_] using h⟩
  · simp [mB, inB] at hm
    obtain ⟨x, rfl⟩ := Int.eq_ofNat_of_zero_le (show 0 ≤ a by omega)
    obtain ⟨y, rfl⟩ := Int.eq_ofNat_of_zero_le (show 0 ≤ b by omega)
    exact ⟨2, by omega, rfl, fun w1 hc => by
      have h := m2_any F ao cap l n w1 Hn hg hc x y (by omega) (by omega) 2 d
      simpa [vlB, kM_] using h⟩
  · exact ⟨3, by omega, rfl, fun w1 hc => m3_any F ao cap l n w1 Hn hg hc hcap 3 a b d⟩
  · simp [mB, inB] at hm
    obtain ⟨x, rfl⟩ := Int.eq_ofNat_of_zero_le (show 0 ≤ a by omega)
    exact ⟨4, by omega, rfl, fun w1 hc => by
      have h := m4_any F ao cap l n w1 Hn hg hc x (by omega) b (by omega) 4 d
      simpa [vlB, kM_] using h⟩
  · exact ⟨5, by omega, rfl, fun w1 hc => m5_any F ao cap l n w1 Hn hg hc 5 a b d⟩
set_option maxHeartbeats 1600000 in
set_option maxRecDepth 20000 in
theorem makeClue_0 (w : World) (F : Nat) (ao : Option Addr) (cap : Nat) (l : List (Int × Int)) (n : Nat) (Hn : Hid (n = l.length)) (hs : n ≤ 3) (hcap : n ≤ cap) (HHc : Hid (CallsAt w ao l)) (Hg : Hid (gdB (F : Int) l = true)) (hF : 2 ≤ F ∧ F ≤ 4) (x y : Nat) (hx : x ≤ 10006) (hy : y ≤ 10006) (hx6 : (x : Int) % 6 = 0) :
    Calls Try.prog 99 #[.agg #[.int .i64 (F : Int), .slice ao n cap], .int .i64 (x : Int), .int .i64 (y : Int)] w fun e w' => e = .returned (.agg #[.int .i64 0, .int .i64 ((y : Int) % (F : Int)), .int .i64 (0), .int .i64 (vlB F l 0 ((y : Int) % (F : Int)) (0))]) ∧ Below w.heap.size w w' := by
  have hx0 : (0 : Int) ≤ (x : Int) := by omega
  have hy0 : (0 : Int) ≤ (y : Int) := by omega
  have hF0 : ¬ (F : Int) = 0 := by omega
  have hF1 : (0 : Int) < (F : Int) := by omega
  have e1 : 0 ≤ (y : Int) % (F : Int) := Int.emod_nonneg _ hF0
  have e2 : (y : Int) % (F : Int) < (F : Int) := Int.emod_lt_of_pos _ hF1
  have e3 : 0 ≤ (y : Int) / 7 % (F : Int) := Int.emod_nonneg _ hF0
  have e4 : (y : Int) / 7 % (F : Int) < (F : Int) := Int.emod_lt_of_pos _ hF1
  have Hx6 := Lib.hid hx6
  clear hx6
  have HT : Hid (∀ w1 : World, CallsAt w1 ao l → Calls Try.prog 111 #[.agg #[.int .i64 (F : Int), .slice ao n cap], .agg #[.int .i64 0, .int .i64 ((y : Int) % (F : Int)), .int .i64 (0), .int .i64 0]] w1 fun e w' => e = .returned (.int .i64 (vlB F l 0 ((y : Int) % (F : Int)) (0))) ∧ Below w1.heap.size w1 w') := Lib.hid (by
    obtain ⟨kk, hk6, hkk, hT⟩ := tell_any2 F n ao cap l Hn hcap Hg.out 0 ((y : Int) % (F : Int)) (0) 0 0 (by simp [mB, inB]; try omega)
    obtain rfl : kk = 0 := by omega
    exact hT)
  obtain ⟨W0, hW, hbW, hsW, rX, rY⟩ := box2 w #[.int .i64 (F : Int), .slice ao n cap] 87 #[.int .i64 0, .int .i64 0, .int .i64 0, .int .i64 0] 25
  have HW := Lib.hid hW
  have HbW := Lib.hid hbW
  have HRX := Lib.hid rX
  have HRR := Lib.hid rY
  have q0 : W0.cell? ⟨w.heap.size, 0, none⟩ = some (.int .i64 (F : Int)) := cell_of_row _ _ _ _ _ _ rX
  have q1 : W0.cell? ⟨w.heap.size, 1, none⟩ = some (.slice ao n cap) := cell_of_row _ _ _ _ _ _ rX
  have hlt9 : w.heap.size + 1 < W0.heap.size := by omega
  clear hW hbW hsW rX rY
  go_enter Try.func99, Try.ntmps99
  go_wp2_with fail
  rw [HW.out]
  refine (kindsOf_any (F : Int) (n : Int) W0).mono ?_
  rintro e w1 ⟨rfl, hk1, hb1⟩
  obtain ⟨g0, g1, g2, g3, g4⟩ := hk1.cells (k := 0) (by omega)
  have h0 : w1.cell? ⟨W0.heap.size, 0, none⟩ = some (.int .i64 ((F : Int))) := g0
  have h1 : w1.cell? ⟨W0.heap.size, 1, none⟩ = some (.int .i64 (1)) := g1
  have h2 : w1.cell? ⟨W0.heap.size, 2, none⟩ = some (.int .i64 (0)) := g2
  have h3 : w1.cell? ⟨W0.heap.size, 3, none⟩ = some (.int .i64 ((n : Int))) := g3
  have h4 : w1.cell? ⟨W0.heap.size, 4, none⟩ = some (.func (.func 111) #[] #[]) := g4
  clear g0 g1 g2 g3 g4
  have hne1 : ¬ w.heap.size + 1 = w1.heap.size := by have := hb1.size; omega
  have hne2 : ¬ w1.heap.size = w.heap.size + 1 := by have := hb1.size; omega
  have hlt0 : w.heap.size < w1.heap.size := World.block_lt_of_cell? w1 _ (cell_old hb1 q0)
  have hltk : W0.heap.size < w1.heap.size := World.block_lt_of_cell? w1 _ h0
  have Hb1 := Lib.hid (HbW.out.trans (hb1.mono HbW.out.size))
  have q0 := cell_old hb1 q0
  have q1 := cell_old hb1 q1
  obtain ⟨W2, hW2, hbW2, hsW2, rC, rK⟩ := box2 w1 #[.int .i64 0, .int .i64 ((y : Int) % (F : Int)), .int .i64 (0), .int .i64 0] 25 #[.int .i64 ((F : Int)), .int .i64 (1), .int .i64 (0), .int .i64 ((n : Int)), .func (.func 111) #[] #[]] 115
  have HW2 := Lib.hid hW2
  have HY := Lib.hid rC
  have HR2 := Lib.hid (row_later (row_later HRR.out hb1) hbW2)
  have Hb2 := Lib.hid (Hb1.out.trans (hbW2.mono Hb1.out.size))
  have hs1 := Hb1.out.size
  clear hW2 hbW2 hsW2 rC rK hb1 hk1
  go_upto_region 3 with (fail)
  rw [Hx6.out]
  go_wp2_with fail
  rw [HW2.out]
  refine (HT.out W2 (HHc.out.kept Hb2.out)).mono ?_
  rintro e w2 ⟨rfl, hb2⟩
  obtain ⟨V, hV⟩ : ∃ V, vlB F l 0 ((y : Int) % (F : Int)) (0) = V := ⟨_, rfl⟩
  rw [hV]
  have HVV := Lib.hid hV
  clear hV q0 q1 h0 h1 h2 h3 h4
  have x0 : w2.cell? ⟨w.heap.size + 1, 0, none⟩ = some (.int .i64 0) := cell_of_row _ _ _ _ _ _ (row_later HR2.out hb2)
  have x1 : w2.cell? ⟨w.heap.size + 1, 1, none⟩ = some (.int .i64 0) := cell_of_row _ _ _ _ _ _ (row_later HR2.out hb2)
  have x2 : w2.cell? ⟨w.heap.size + 1, 2, none⟩ = some (.int .i64 0) := cell_of_row _ _ _ _ _ _ (row_later HR2.out hb2)
  have x3 : w2.cell? ⟨w.heap.size + 1, 3, none⟩ = some (.int .i64 0) := cell_of_row _ _ _ _ _ _ (row_later HR2.out hb2)
  have gx : ∀ j, w2.frozen? ⟨w.heap.size + 1, j, none⟩ = false := fun j => frozen_of_row _ _ _ _ _ (row_later HR2.out hb2)
  have y0 : w2.cell? ⟨w1.heap.size, 0, none⟩ = some (.int .i64 0) := cell_of_row _ _ _ _ _ _ (row_later HY.out hb2)
  have y1 : w2.cell? ⟨w1.heap.size, 1, none⟩ = some (.int .i64 ((y : Int) % (F : Int))) := cell_of_row _ _ _ _ _ _ (row_later HY.out hb2)
  have y2 : w2.cell? ⟨w1.heap.size, 2, none⟩ = some (.int .i64 (0)) := cell_of_row _ _ _ _ _ _ (row_later HY.out hb2)
  have y3 : w2.cell? ⟨w1.heap.size, 3, none⟩ = some (.int .i64 0) := cell_of_row _ _ _ _ _ _ (row_later HY.out hb2)
  have gy : ∀ j, w2.frozen? ⟨w1.heap.size, j, none⟩ = false := fun j => frozen_of_row _ _ _ _ _ (row_later HY.out hb2)
  have HB := Lib.hid (Hb2.out.trans (hb2.mono Hb2.out.size))
  have HBs := Lib.hid (((((HB.out.setCell (p := ⟨w1.heap.size, 3, none⟩) (by show w.heap.size ≤ w1.heap.size; omega) (.int .i64 V)).setCell (p := ⟨w.heap.size + 1, 0, none⟩) (by show w.heap.size ≤ w.heap.size + 1; omega) (.int .i64 0)).setCell (p := ⟨w.heap.size + 1, 1, none⟩) (by show w.heap.size ≤ w.heap.size + 1; omega) (.int .i64 ((y : Int) % (F : Int)))).setCell (p := ⟨w.heap.size + 1, 2, none⟩) (by show w.heap.size ≤ w.heap.size + 1; omega) (.int .i64 (0))).setCell (p := ⟨w.heap.size + 1, 3, none⟩) (by show w.heap.size ≤ w.heap.size + 1; omega) (.int .i64 V))
  obtain ⟨U, hU⟩ : ∃ U, ((((w2.setCell ⟨w1.heap.size, 3, none⟩ (.int .i64 V)).setCell ⟨w.heap.size + 1, 0, none⟩ (.int .i64 0)).setCell ⟨w.heap.size + 1, 1, none⟩ (.int .i64 ((y : Int) % (F : Int)))).setCell ⟨w.heap.size + 1, 2, none⟩ (.int .i64 (0))).setCell ⟨w.heap.size + 1, 3, none⟩ (.int .i64 V) = U := ⟨_, rfl⟩
  have z0 : U.cell? ⟨w.heap.size + 1, 0, none⟩ = some (.int .i64 0) := by rw [← hU]; simp [go_sem, x0]
  have z1 : U.cell? ⟨w.heap.size + 1, 1, none⟩ = some (.int .i64 ((y : Int) % (F : Int))) := by rw [← hU]; simp [go_sem, x1]
  have z2 : U.cell? ⟨w.heap.size + 1, 2, none⟩ = some (.int .i64 (0)) := by rw [← hU]; simp [go_sem, x2]
  have z3 : U.cell? ⟨w.heap.size + 1, 3, none⟩ = some (.int .i64 V) := by rw [← hU]; simp [go_sem, x3]
  rw [hU] at HBs
  have HU := Lib.hid hU
  clear hU hb2 e1 e2 e3 e4
  go_wp2_with fail
  rw [HU.out]
  refine bodyPost_ret (v := .agg #[.int .i64 0, .int .i64 ((y : Int) % (F : Int)), .int .i64 (0), .int .i64 V]) ?_ rfl ⟨by rw [HVV.out], HBs.out⟩
  simp [results, Try.results99, go_sem, z0, z1, z2, z3]
set_option maxHeartbeats 1600000 in
set_option maxRecDepth 20000 in
theorem makeClue_1 (w : World) (F : Nat) (ao : Option Addr) (cap : Nat) (l : List (Int × Int)) (n : Nat) (Hn : Hid (n = l.length)) (hs : n ≤ 3) (hcap : n ≤ cap) (HHc : Hid (CallsAt w ao l)) (Hg : Hid (gdB (F : Int) l = true)) (hF : 2 ≤ F ∧ F ≤ 4) (x y : Nat) (hx : x ≤ 10006) (hy : y ≤ 10006) (hx6 : (x : Int) % 6 = 1) :
    Calls Try.prog 99 #[.agg #[.int .i64 (F : Int), .slice ao n cap], .int .i64 (x : Int), .int .i64 (y : Int)] w fun e w' => e = .returned (.agg #[.int .i64 1, .int .i64 ((y : Int) % (F : Int)), .int .i64 (0), .int .i64 (vlB F l 1 ((y : Int) % (F : Int)) (0))]) ∧ Below w.heap.size w w' := by
  have hx0 : (0 : Int) ≤ (x : Int) := by omega
  have hy0 : (0 : Int) ≤ (y : Int) := by omega
  have hF0 : ¬ (F : Int) = 0 := by omega
  have hF1 : (0 : Int) < (F : Int) := by omega
  have e1 : 0 ≤ (y : Int) % (F : Int) := Int.emod_nonneg _ hF0
  have e2 : (y : Int) % (F : Int) < (F : Int) := Int.emod_lt_of_pos _ hF1
  have e3 : 0 ≤ (y : Int) / 7 % (F : Int) := Int.emod_nonneg _ hF0
  have e4 : (y : Int) / 7 % (F : Int) < (F : Int) := Int.emod_lt_of_pos _ hF1
  have Hx6 := Lib.hid hx6
  clear hx6
  have HT : Hid (∀ w1 : World, CallsAt w1 ao l → Calls Try.prog 112 #[.agg #[.int .i64 (F : Int), .slice ao n cap], .agg #[.int .i64 1, .int .i64 ((y : Int) % (F : Int)), .int .i64 (0), .int .i64 0]] w1 fun e w' => e = .returned (.int .i64 (vlB F l 1 ((y : Int) % (F : Int)) (0))) ∧ Below w1.heap.size w1 w') := Lib.hid (by
    obtain ⟨kk, hk6, hkk, hT⟩ := tell_any2 F n ao cap l Hn hcap Hg.out 1 ((y : Int) % (F : Int)) (0) 1 0 (by simp [mB, inB]; try omega)
    obtain rfl : kk = 1 := by omega
    exact hT)
  obtain ⟨W0, hW, hbW, hsW, rX, rY⟩ := box2 w #[.int .i64 (F : Int), .slice ao n cap] 87 #[.int .i64 0, .int .i64 0, .int .i64 0, .int .i64 0] 25
  have HW := Lib.hid hW
  have HbW := Lib.hid hbW
  have HRX := Lib.hid rX
  have HRR := Lib.hid rY
  have q0 : W0.cell? ⟨w.heap.size, 0, none⟩ = some (.int .i64 (F : Int)) := cell_of_row _ _ _ _ _ _ rX
  have q1 : W0.cell? ⟨w.heap.size, 1, none⟩ = some (.slice ao n cap) := cell_of_row _ _ _ _ _ _ rX
  have hlt9 : w.heap.size + 1 < W0.heap.size := by omega
  clear hW hbW hsW rX rY
  go_enter Try.func99, Try.ntmps99
  go_wp2_with fail
  rw [HW.out]
  refine (kindsOf_any (F : Int) (n : Int) W0).mono ?_
  rintro e w1 ⟨rfl, hk1, hb1⟩
  obtain ⟨g0, g1, g2, g3, g4⟩ := hk1.cells (k := 1) (by omega)
  have h0 : w1.cell? ⟨W0.heap.size, 5, none⟩ = some (.int .i64 ((F : Int))) := g0
  have h1 : w1.cell? ⟨W0.heap.size, 6, none⟩ = some (.int .i64 (1)) := g1
  have h2 : w1.cell? ⟨W0.heap.size, 7, none⟩ = some (.int .i64 (1)) := g2
  have h3 : w1.cell? ⟨W0.heap.size, 8, none⟩ = some (.int .i64 ((F : Int))) := g3
  have h4 : w1.cell? ⟨W0.heap.size, 9, none⟩ = some (.func (.func 112) #[] #[]) := g4
  clear g0 g1 g2 g3 g4
  have hne1 : ¬ w.heap.size + 1 = w1.heap.size := by have := hb1.size; omega
  have hne2 : ¬ w1.heap.size = w.heap.size + 1 := by have := hb1.size; omega
  have hlt0 : w.heap.size < w1.heap.size := World.block_lt_of_cell? w1 _ (cell_old hb1 q0)
  have hltk : W0.heap.size < w1.heap.size := World.block_lt_of_cell? w1 _ h0
  have Hb1 := Lib.hid (HbW.out.trans (hb1.mono HbW.out.size))
  have q0 := cell_old hb1 q0
  have q1 := cell_old hb1 q1
  obtain ⟨W2, hW2, hbW2, hsW2, rC, rK⟩ := box2 w1 #[.int .i64 1, .int .i64 ((y : Int) % (F : Int)), .int .i64 (0), .int .i64 0] 25 #[.int .i64 ((F : Int)), .int .i64 (1), .int .i64 (1), .int .i64 ((F : Int)), .func (.func 112) #[] #[]] 115
  have HW2 := Lib.hid hW2
  have HY := Lib.hid rC
  have HR2 := Lib.hid (row_later (row_later HRR.out hb1) hbW2)
  have Hb2 := Lib.hid (Hb1.out.trans (hbW2.mono Hb1.out.size))
  have hs1 := Hb1.out.size
  clear hW2 hbW2 hsW2 rC rK hb1 hk1
  go_upto_region 3 with (fail)
  rw [Hx6.out]
  go_wp2_with fail
  rw [HW2.out]
  refine (HT.out W2 (HHc.out.kept Hb2.out)).mono ?_
  rintro e w2 ⟨rfl, hb2⟩
  obtain ⟨V, hV⟩ : ∃ V, vlB F l 1 ((y : Int) % (F : Int)) (0) = V := ⟨_, rfl⟩
  rw [hV]
  have HVV := Lib.hid hV
  clear hV q0 q1 h0 h1 h2 h3 h4
  have x0 : w2.cell? ⟨w.heap.size + 1, 0, none⟩ = some (.int .i64 0) := cell_of_row _ _ _ _ _ _ (row_later HR2.out hb2)
  have x1 : w2.cell? ⟨w.heap.size + 1, 1, none⟩ = some (.int .i64 0) := cell_of_row _ _ _ _ _ _ (row_later HR2.out hb2)
  have x2 : w2.cell? ⟨w.heap.size + 1, 2, none⟩ = some (.int .i64 0) := cell_of_row _ _ _ _ _ _ (row_later HR2.out hb2)
  have x3 : w2.cell? ⟨w.heap.size + 1, 3, none⟩ = some (.int .i64 0) := cell_of_row _ _ _ _ _ _ (row_later HR2.out hb2)
  have gx : ∀ j, w2.frozen? ⟨w.heap.size + 1, j, none⟩ = false := fun j => frozen_of_row _ _ _ _ _ (row_later HR2.out hb2)
  have y0 : w2.cell? ⟨w1.heap.size, 0, none⟩ = some (.int .i64 1) := cell_of_row _ _ _ _ _ _ (row_later HY.out hb2)
  have y1 : w2.cell? ⟨w1.heap.size, 1, none⟩ = some (.int .i64 ((y : Int) % (F : Int))) := cell_of_row _ _ _ _ _ _ (row_later HY.out hb2)
  have y2 : w2.cell? ⟨w1.heap.size, 2, none⟩ = some (.int .i64 (0)) := cell_of_row _ _ _ _ _ _ (row_later HY.out hb2)
  have y3 : w2.cell? ⟨w1.heap.size, 3, none⟩ = some (.int .i64 0) := cell_of_row _ _ _ _ _ _ (row_later HY.out hb2)
  have gy : ∀ j, w2.frozen? ⟨w1.heap.size, j, none⟩ = false := fun j => frozen_of_row _ _ _ _ _ (row_later HY.out hb2)
  have HB := Lib.hid (Hb2.out.trans (hb2.mono Hb2.out.size))
  have HBs := Lib.hid (((((HB.out.setCell (p := ⟨w1.heap.size, 3, none⟩) (by show w.heap.size ≤ w1.heap.size; omega) (.int .i64 V)).setCell (p := ⟨w.heap.size + 1, 0, none⟩) (by show w.heap.size ≤ w.heap.size + 1; omega) (.int .i64 1)).setCell (p := ⟨w.heap.size + 1, 1, none⟩) (by show w.heap.size ≤ w.heap.size + 1; omega) (.int .i64 ((y : Int) % (F : Int)))).setCell (p := ⟨w.heap.size + 1, 2, none⟩) (by show w.heap.size ≤ w.heap.size + 1; omega) (.int .i64 (0))).setCell (p := ⟨w.heap.size + 1, 3, none⟩) (by show w.heap.size ≤ w.heap.size + 1; omega) (.int .i64 V))
  obtain ⟨U, hU⟩ : ∃ U, ((((w2.setCell ⟨w1.heap.size, 3, none⟩ (.int .i64 V)).setCell ⟨w.heap.size + 1, 0, none⟩ (.int .i64 1)).setCell ⟨w.heap.size + 1, 1, none⟩ (.int .i64 ((y : Int) % (F : Int)))).setCell ⟨w.heap.size + 1, 2, none⟩ (.int .i64 (0))).setCell ⟨w.heap.size + 1, 3, none⟩ (.int .i64 V) = U := ⟨_, rfl⟩
  have z0 : U.cell? ⟨w.heap.size + 1, 0, none⟩ = some (.int .i64 1) := by rw [← hU]; simp [go_sem, x0]
  have z1 : U.cell? ⟨w.heap.size + 1, 1, none⟩ = some (.int .i64 ((y : Int) % (F : Int))) := by rw [← hU]; simp [go_sem, x1]
  have z2 : U.cell? ⟨w.heap.size + 1, 2, none⟩ = some (.int .i64 (0)) := by rw [← hU]; simp [go_sem, x2]
  have z3 : U.cell? ⟨w.heap.size + 1, 3, none⟩ = some (.int .i64 V) := by rw [← hU]; simp [go_sem, x3]
  rw [hU] at HBs
  have HU := Lib.hid hU
  clear hU hb2 e1 e2 e3 e4
  go_wp2_with fail
  rw [HU.out]
  refine bodyPost_ret (v := .agg #[.int .i64 1, .int .i64 ((y : Int) % (F : Int)), .int .i64 (0), .int .i64 V]) ?_ rfl ⟨by rw [HVV.out], HBs.out⟩
  simp [results, Try.results99, go_sem, z0, z1, z2, z3]
set_option maxHeartbeats 1600000 in
set_option maxRecDepth 20000 in
theorem makeClue_2 (w : World) (F : Nat) (ao : Option Addr) (cap : Nat) (l : List (Int × Int)) (n : Nat) (Hn : Hid (n = l.length)) (hs : n ≤ 3) (hcap : n ≤ cap) (HHc : Hid (CallsAt w ao l)) (Hg : Hid (gdB (F : Int) l = true)) (hF : 2 ≤ F ∧ F ≤ 4) (x y : Nat) (hx : x ≤ 10006) (hy : y ≤ 10006) (hx6 : (x : Int) % 6 = 2) :
    Calls Try.prog 99 #[.agg #[.int .i64 (F : Int), .slice ao n cap], .int .i64 (x : Int), .int .i64 (y : Int)] w fun e w' => e = .returned (.agg #[.int .i64 2, .int .i64 ((y : Int) % (F : Int)), .int .i64 ((y : Int) / 7 % (F : Int)), .int .i64 (vlB F l 2 ((y : Int) % (F : Int)) ((y : Int) / 7 % (F : Int)))]) ∧ Below w.heap.size w w' := by
  have hx0 : (0 : Int) ≤ (x : Int) := by omega
  have hy0 : (0 : Int) ≤ (y : Int) := by omega
  have hF0 : ¬ (F : Int) = 0 := by omega
  have hF1 : (0 : Int) < (F : Int) := by omega
  have e1 : 0 ≤ (y : Int) % (F : Int) := Int.emod_nonneg _ hF0
  have e2 : (y : Int) % (F : Int) < (F : Int) := Int.emod_lt_of_pos _ hF1
  have e3 : 0 ≤ (y : Int) / 7 % (F : Int) := Int.emod_nonneg _ hF0
  have e4 : (y : Int) / 7 % (F : Int) < (F : Int) := Int.emod_lt_of_pos _ hF1
  have Hx6 := Lib.hid hx6
  clear hx6
  have HT : Hid (∀ w1 : World, CallsAt w1 ao l → Calls Try.prog 113 #[.agg #[.int .i64 (F : Int), .slice ao n cap], .agg #[.int .i64 2, .int .i64 ((y : Int) % (F : Int)), .int .i64 ((y : Int) / 7 % (F : Int)), .int .i64 0]] w1 fun e w' => e = .returned (.int .i64 (vlB F l 2 ((y : Int) % (F : Int)) ((y : Int) / 7 % (F : Int)))) ∧ Below w1.heap.size w1 w') := Lib.hid (by
    obtain ⟨kk, hk6, hkk, hT⟩ := tell_any2 F n ao cap l Hn hcap Hg.out 2 ((y : Int) % (F : Int)) ((y : Int) / 7 % (F : Int)) 0 0 (by simp [mB, inB]; try omega)
    obtain rfl : kk = 2 := by omega
    exact hT)
  obtain ⟨W0, hW, hbW, hsW, rX, rY⟩ := box2 w #[.int .i64 (F : Int), .slice ao n cap] 87 #[.int .i64 0, .int .i64 0, .int .i64 0, .int .i64 0] 25
  have HW := Lib.hid hW
  have HbW := Lib.hid hbW
  have HRX := Lib.hid rX
  have HRR := Lib.hid rY
  have q0 : W0.cell? ⟨w.heap.size, 0, none⟩ = some (.int .i64 (F : Int)) := cell_of_row _ _ _ _ _ _ rX
  have q1 : W0.cell? ⟨w.heap.size, 1, none⟩ = some (.slice ao n cap) := cell_of_row _ _ _ _ _ _ rX
  have hlt9 : w.heap.size + 1 < W0.heap.size := by omega
  clear hW hbW hsW rX rY
  go_enter Try.func99, Try.ntmps99
  go_wp2_with fail
  rw [HW.out]
  refine (kindsOf_any (F : Int) (n : Int) W0).mono ?_
  rintro e w1 ⟨rfl, hk1, hb1⟩
  obtain ⟨g0, g1, g2, g3, g4⟩ := hk1.cells (k := 2) (by omega)
  have h0 : w1.cell? ⟨W0.heap.size, 10, none⟩ = some (.int .i64 ((F : Int))) := g0
  have h1 : w1.cell? ⟨W0.heap.size, 11, none⟩ = some (.int .i64 ((F : Int))) := g1
  have h2 : w1.cell? ⟨W0.heap.size, 12, none⟩ = some (.int .i64 (0)) := g2
  have h3 : w1.cell? ⟨W0.heap.size, 13, none⟩ = some (.int .i64 (1)) := g3
  have h4 : w1.cell? ⟨W0.heap.size, 14, none⟩ = some (.func (.func 113) #[] #[]) := g4
  clear g0 g1 g2 g3 g4
  have hne1 : ¬ w.heap.size + 1 = w1.heap.size := by have := hb1.size; omega
  have hne2 : ¬ w1.heap.size = w.heap.size + 1 := by have := hb1.size; omega
  have hlt0 : w.heap.size < w1.heap.size := World.block_lt_of_cell? w1 _ (cell_old hb1 q0)
  have hltk : W0.heap.size < w1.heap.size := World.block_lt_of_cell? w1 _ h0
  have Hb1 := Lib.hid (HbW.out.trans (hb1.mono HbW.out.size))
  have q0 := cell_old hb1 q0
  have q1 := cell_old hb1 q1
  obtain ⟨W2, hW2, hbW2, hsW2, rC, rK⟩ := box2 w1 #[.int .i64 2, .int .i64 ((y : Int) % (F : Int)), .int .i64 ((y : Int) / 7 % (F : Int)), .int .i64 0] 25 #[.int .i64 ((F : Int)), .int .i64 ((F : Int)), .int .i64 (0), .int .i64 (1), .func (.func 113) #[] #[]] 115
  have HW2 := Lib.hid hW2
  have HY := Lib.hid rC
  have HR2 := Lib.hid (row_later (row_later HRR.out hb1) hbW2)
  have Hb2 := Lib.hid (Hb1.out.trans (hbW2.mono Hb1.out.size))
  have hs1 := Hb1.out.size
  clear hW2 hbW2 hsW2 rC rK hb1 hk1
  go_upto_region 3 with (fail)
  rw [Hx6.out]
  go_wp2_with fail
  rw [HW2.out]
  refine (HT.out W2 (HHc.out.kept Hb2.out)).mono ?_
  rintro e w2 ⟨rfl, hb2⟩
  obtain ⟨V, hV⟩ : ∃ V, vlB F l 2 ((y : Int) % (F : Int)) ((y : Int) / 7 % (F : Int)) = V := ⟨_, rfl⟩
  rw [hV]
  have HVV := Lib.hid hV
  clear hV q0 q1 h0 h1 h2 h3 h4
  have x0 : w2.cell? ⟨w.heap.size + 1, 0, none⟩ = some (.int .i64 0) := cell_of_row _ _ _ _ _ _ (row_later HR2.out hb2)
  have x1 : w2.cell? ⟨w.heap.size + 1, 1, none⟩ = some (.int .i64 0) := cell_of_row _ _ _ _ _ _ (row_later HR2.out hb2)
  have x2 : w2.cell? ⟨w.heap.size + 1, 2, none⟩ = some (.int .i64 0) := cell_of_row _ _ _ _ _ _ (row_later HR2.out hb2)
  have x3 : w2.cell? ⟨w.heap.size + 1, 3, none⟩ = some (.int .i64 0) := cell_of_row _ _ _ _ _ _ (row_later HR2.out hb2)
  have gx : ∀ j, w2.frozen? ⟨w.heap.size + 1, j, none⟩ = false := fun j => frozen_of_row _ _ _ _ _ (row_later HR2.out hb2)
  have y0 : w2.cell? ⟨w1.heap.size, 0, none⟩ = some (.int .i64 2) := cell_of_row _ _ _ _ _ _ (row_later HY.out hb2)
  have y1 : w2.cell? ⟨w1.heap.size, 1, none⟩ = some (.int .i64 ((y : Int) % (F : Int))) := cell_of_row _ _ _ _ _ _ (row_later HY.out hb2)
  have y2 : w2.cell? ⟨w1.heap.size, 2, none⟩ = some (.int .i64 ((y : Int) / 7 % (F : Int))) := cell_of_row _ _ _ _ _ _ (row_later HY.out hb2)
  have y3 : w2.cell? ⟨w1.heap.size, 3, none⟩ = some (.int .i64 0) := cell_of_row _ _ _ _ _ _ (row_later HY.out hb2)
  have gy : ∀ j, w2.frozen? ⟨w1.heap.size, j, none⟩ = false := fun j => frozen_of_row _ _ _ _ _ (row_later HY.out hb2)
  have HB := Lib.hid (Hb2.out.trans (hb2.mono Hb2.out.size))
  have HBs := Lib.hid (((((HB.out.setCell (p := ⟨w1.heap.size, 3, none⟩) (by show w.heap.size ≤ w1.heap.size; omega) (.int .i64 V)).setCell (p := ⟨w.heap.size + 1, 0, none⟩) (by show w.heap.size ≤ w.heap.size + 1; omega) (.int .i64 2)).setCell (p := ⟨w.heap.size + 1, 1, none⟩) (by show w.heap.size ≤ w.heap.size + 1; omega) (.int .i64 ((y : Int) % (F : Int)))).setCell (p := ⟨w.heap.size + 1, 2, none⟩) (by show w.heap.size ≤ w.heap.size + 1; omega) (.int .i64 ((y : Int) / 7 % (F : Int)))).setCell (p := ⟨w.heap.size + 1, 3, none⟩) (by show w.heap.size ≤ w.heap.size + 1; omega) (.int .i64 V))
  obtain ⟨U, hU⟩ : ∃ U, ((((w2.setCell ⟨w1.heap.size, 3, none⟩ (.int .i64 V)).setCell ⟨w.heap.size + 1, 0, none⟩ (.int .i64 2)).setCell ⟨w.heap.size + 1, 1, none⟩ (.int .i64 ((y : Int) % (F : Int)))).setCell ⟨w.heap.size + 1, 2, none⟩ (.int .i64 ((y : Int) / 7 % (F : Int)))).setCell ⟨w.heap.size + 1, 3, none⟩ (.int .i64 V) = U := ⟨_, rfl⟩
  have z0 : U.cell? ⟨w.heap.size + 1, 0, none⟩ = some (.int .i64 2) := by rw [← hU]; simp [go_sem, x0]
  have z1 : U.cell? ⟨w.heap.size + 1, 1, none⟩ = some (.int .i64 ((y : Int) % (F : Int))) := by rw [← hU]; simp [go_sem, x1]
  have z2 : U.cell? ⟨w.heap.size + 1, 2, none⟩ = some (.int .i64 ((y : Int) / 7 % (F : Int))) := by rw [← hU]; simp [go_sem, x2]
  have z3 : U.cell? ⟨w.heap.size + 1, 3, none⟩ = some (.int .i64 V) := by rw [← hU]; simp [go_sem, x3]
  rw [hU] at HBs
  have HU := Lib.hid hU
  clear hU hb2 e1 e2 e3 e4
  go_wp2_with fail
  rw [HU.out]
  refine bodyPost_ret (v := .agg #[.int .i64 2, .int .i64 ((y : Int) % (F : Int)), .int .i64 ((y : Int) / 7 % (F : Int)), .int .i64 V]) ?_ rfl ⟨by rw [HVV.out], HBs.out⟩
  simp [results, Try.results99, go_sem, z0, z1, z2, z3]
set_option maxHeartbeats 1600000 in
set_option maxRecDepth 20000 in
theorem makeClue_3 (w : World) (F : Nat) (ao : Option Addr) (cap : Nat) (l : List (Int × Int)) (n : Nat) (Hn : Hid (n = l.length)) (hs : n ≤ 3) (hcap : n ≤ cap) (HHc : Hid (CallsAt w ao l)) (Hg : Hid (gdB (F : Int) l = true)) (hF : 2 ≤ F ∧ F ≤ 4) (x y : Nat) (hx : x ≤ 10006) (hy : y ≤ 10006) (hx6 : (x : Int) % 6 = 3) :
    Calls Try.prog 99 #[.agg #[.int .i64 (F : Int), .slice ao n cap], .int .i64 (x : Int), .int .i64 (y : Int)] w fun e w' => e = .returned (.agg #[.int .i64 3, .int .i64 (0), .int .i64 (0), .int .i64 (vlB F l 3 (0) (0))]) ∧ Below w.heap.size w w' := by
  have hx0 : (0 : Int) ≤ (x : Int) := by omega
  have hy0 : (0 : Int) ≤ (y : Int) := by omega
  have hF0 : ¬ (F : Int) = 0 := by omega
  have hF1 : (0 : Int) < (F : Int) := by omega
  have e1 : 0 ≤ (y : Int) % (F : Int) := Int.emod_nonneg _ hF0
  have e2 : (y : Int) % (F : Int) < (F : Int) := Int.emod_lt_of_pos _ hF1
  have e3 : 0 ≤ (y : Int) / 7 % (F : Int) := Int.emod_nonneg _ hF0
  have e4 : (y : Int) / 7 % (F : Int) < (F : Int) := Int.emod_lt_of_pos _ hF1
  have Hx6 := Lib.hid hx6
  clear hx6
  have HT : Hid (∀ w1 : World, CallsAt w1 ao l → Calls Try.prog 114 #[.agg #[.int .i64 (F : Int), .slice ao n cap], .agg #[.int .i64 3, .int .i64 (0), .int .i64 (0), .int .i64 0]] w1 fun e w' => e = .returned (.int .i64 (vlB F l 3 (0) (0))) ∧ Below w1.heap.size w1 w') := Lib.hid (by
    obtain ⟨kk, hk6, hkk, hT⟩ := tell_any2 F n ao cap l Hn hcap Hg.out 3 (0) (0) 0 0 (by simp [mB, inB]; try omega)
    obtain rfl : kk = 3 := by omega
    exact hT)
  obtain ⟨W0, hW, hbW, hsW, rX, rY⟩ := box2 w #[.int .i64 (F : Int), .slice ao n cap] 87 #[.int .i64 0, .int .i64 0, .int .i64 0, .int .i64 0] 25
  have HW := Lib.hid hW
  have HbW := Lib.hid hbW
  have HRX := Lib.hid rX
  have HRR := Lib.hid rY
  have q0 : W0.cell? ⟨w.heap.size, 0, none⟩ = some (.int .i64 (F : Int)) := cell_of_row _ _ _ _ _ _ rX
  have q1 : W0.cell? ⟨w.heap.size, 1, none⟩ = some (.slice ao n cap) := cell_of_row _ _ _ _ _ _ rX
  have hlt9 : w.heap.size + 1 < W0.heap.size := by omega
  clear hW hbW hsW rX rY
  go_enter Try.func99, Try.ntmps99
  go_wp2_with fail
  rw [HW.out]
  refine (kindsOf_any (F : Int) (n : Int) W0).mono ?_
  rintro e w1 ⟨rfl, hk1, hb1⟩
  obtain ⟨g0, g1, g2, g3, g4⟩ := hk1.cells (k := 3) (by omega)
  have h0 : w1.cell? ⟨W0.heap.size, 15, none⟩ = some (.int .i64 (1)) := g0
  have h1 : w1.cell? ⟨W0.heap.size, 16, none⟩ = some (.int .i64 (1)) := g1
  have h2 : w1.cell? ⟨W0.heap.size, 17, none⟩ = some (.int .i64 (0)) := g2
  have h3 : w1.cell? ⟨W0.heap.size, 18, none⟩ = some (.int .i64 ((n : Int))) := g3
  have h4 : w1.cell? ⟨W0.heap.size, 19, none⟩ = some (.func (.func 114) #[] #[]) := g4
  clear g0 g1 g2 g3 g4
  have hne1 : ¬ w.heap.size + 1 = w1.heap.size := by have := hb1.size; omega
  have hne2 : ¬ w1.heap.size = w.heap.size + 1 := by have := hb1.size; omega
  have hlt0 : w.heap.size < w1.heap.size := World.block_lt_of_cell? w1 _ (cell_old hb1 q0)
  have hltk : W0.heap.size < w1.heap.size := World.block_lt_of_cell? w1 _ h0
  have Hb1 := Lib.hid (HbW.out.trans (hb1.mono HbW.out.size))
  have q0 := cell_old hb1 q0
  have q1 := cell_old hb1 q1
  obtain ⟨W2, hW2, hbW2, hsW2, rC, rK⟩ := box2 w1 #[.int .i64 3, .int .i64 (0), .int .i64 (0), .int .i64 0] 25 #[.int .i64 (1), .int .i64 (1), .int .i64 (0), .int .i64 ((n : Int)), .func (.func 114) #[] #[]] 115
  have HW2 := Lib.hid hW2
  have HY := Lib.hid rC
  have HR2 := Lib.hid (row_later (row_later HRR.out hb1) hbW2)
  have Hb2 := Lib.hid (Hb1.out.trans (hbW2.mono Hb1.out.size))
  have hs1 := Hb1.out.size
  clear hW2 hbW2 hsW2 rC rK hb1 hk1
  go_upto_region 3 with (fail)
  rw [Hx6.out]
  go_wp2_with fail
  rw [HW2.out]
  refine (HT.out W2 (HHc.out.kept Hb2.out)).mono ?_
  rintro e w2 ⟨rfl, hb2⟩
  obtain ⟨V, hV⟩ : ∃ V, vlB F l 3 (0) (0) = V := ⟨_, rfl⟩
  rw [hV]
  have HVV := Lib.hid hV
  clear hV q0 q1 h0 h1 h2 h3 h4
  have x0 : w2.cell? ⟨w.heap.size + 1, 0, none⟩ = some (.int .i64 0) := cell_of_row _ _ _ _ _ _ (row_later HR2.out hb2)
  have x1 : w2.cell? ⟨w.heap.size + 1, 1, none⟩ = some (.int .i64 0) := cell_of_row _ _ _ _ _ _ (row_later HR2.out hb2)
  have x2 : w2.cell? ⟨w.heap.size + 1, 2, none⟩ = some (.int .i64 0) := cell_of_row _ _ _ _ _ _ (row_later HR2.out hb2)
  have x3 : w2.cell? ⟨w.heap.size + 1, 3, none⟩ = some (.int .i64 0) := cell_of_row _ _ _ _ _ _ (row_later HR2.out hb2)
  have gx : ∀ j, w2.frozen? ⟨w.heap.size + 1, j, none⟩ = false := fun j => frozen_of_row _ _ _ _ _ (row_later HR2.out hb2)
  have y0 : w2.cell? ⟨w1.heap.size, 0, none⟩ = some (.int .i64 3) := cell_of_row _ _ _ _ _ _ (row_later HY.out hb2)
  have y1 : w2.cell? ⟨w1.heap.size, 1, none⟩ = some (.int .i64 (0)) := cell_of_row _ _ _ _ _ _ (row_later HY.out hb2)
  have y2 : w2.cell? ⟨w1.heap.size, 2, none⟩ = some (.int .i64 (0)) := cell_of_row _ _ _ _ _ _ (row_later HY.out hb2)
  have y3 : w2.cell? ⟨w1.heap.size, 3, none⟩ = some (.int .i64 0) := cell_of_row _ _ _ _ _ _ (row_later HY.out hb2)
  have gy : ∀ j, w2.frozen? ⟨w1.heap.size, j, none⟩ = false := fun j => frozen_of_row _ _ _ _ _ (row_later HY.out hb2)
  have HB := Lib.hid (Hb2.out.trans (hb2.mono Hb2.out.size))
  have HBs := Lib.hid (((((HB.out.setCell (p := ⟨w1.heap.size, 3, none⟩) (by show w.heap.size ≤ w1.heap.size; omega) (.int .i64 V)).setCell (p := ⟨w.heap.size + 1, 0, none⟩) (by show w.heap.size ≤ w.heap.size + 1; omega) (.int .i64 3)).setCell (p := ⟨w.heap.size + 1, 1, none⟩) (by show w.heap.size ≤ w.heap.size + 1; omega) (.int .i64 (0))).setCell (p := ⟨w.heap.size + 1, 2, none⟩) (by show w.heap.size ≤ w.heap.size + 1; omega) (.int .i64 (0))).setCell (p := ⟨w.heap.size + 1, 3, none⟩) (by show w.heap.size ≤ w.heap.size + 1; omega) (.int .i64 V))
  obtain ⟨U, hU⟩ : ∃ U, ((((w2.setCell ⟨w1.heap.size, 3, none⟩ (.int .i64 V)).setCell ⟨w.heap.size + 1, 0, none⟩ (.int .i64 3)).setCell ⟨w.heap.size + 1, 1, none⟩ (.int .i64 (0))).setCell ⟨w.heap.size + 1, 2, none⟩ (.int .i64 (0))).setCell ⟨w.heap.size + 1, 3, none⟩ (.int .i64 V) = U := ⟨_, rfl⟩
  have z0 : U.cell? ⟨w.heap.size + 1, 0, none⟩ = some (.int .i64 3) := by rw [← hU]; simp [go_sem, x0]
  have z1 : U.cell? ⟨w.heap.size + 1, 1, none⟩ = some (.int .i64 (0)) := by rw [← hU]; simp [go_sem, x1]
  have z2 : U.cell? ⟨w.heap.size + 1, 2, none⟩ = some (.int .i64 (0)) := by rw [← hU]; simp [go_sem, x2]
  have z3 : U.cell? ⟨w.heap.size + 1, 3, none⟩ = some (.int .i64 V) := by rw [← hU]; simp [go_sem, x3]
  rw [hU] at HBs
  have HU := Lib.hid hU
  clear hU hb2 e1 e2 e3 e4
  go_wp2_with fail
  rw [HU.out]
  refine bodyPost_ret (v := .agg #[.int .i64 3, .int .i64 (0), .int .i64 (0), .int .i64 V]) ?_ rfl ⟨by rw [HVV.out], HBs.out⟩
  simp [results, Try.results99, go_sem, z0, z1, z2, z3]
set_option maxHeartbeats 1600000 in
set_option maxRecDepth 20000 in
theorem makeClue_4 (w : World) (F : Nat) (ao : Option Addr) (cap : Nat) (l : List (Int × Int)) (n : Nat) (Hn : Hid (n = l.length)) (hs : n ≤ 3) (hcap : n ≤ cap) (HHc : Hid (CallsAt w ao l)) (Hg : Hid (gdB (F : Int) l = true)) (hF : 2 ≤ F ∧ F ≤ 4) (x y : Nat) (hx : x ≤ 10006) (hy : y ≤ 10006) (hx6 : (x : Int) % 6 = 4) (hn0 : 0 < n) :
    Calls Try.prog 99 #[.agg #[.int .i64 (F : Int), .slice ao n cap], .int .i64 (x : Int), .int .i64 (y : Int)] w fun e w' => e = .returned (.agg #[.int .i64 4, .int .i64 ((y : Int) % (n : Int)), .int .i64 ((y : Int) / 7 % (F : Int)), .int .i64 (vlB F l 4 ((y : Int) % (n : Int)) ((y : Int) / 7 % (F : Int)))]) ∧ Below w.heap.size w w' := by
  have hx0 : (0 : Int) ≤ (x : Int) := by omega
  have hy0 : (0 : Int) ≤ (y : Int) := by omega
  have hF0 : ¬ (F : Int) = 0 := by omega
  have hF1 : (0 : Int) < (F : Int) := by omega
  have e1 : 0 ≤ (y : Int) % (F : Int) := Int.emod_nonneg _ hF0
  have e2 : (y : Int) % (F : Int) < (F : Int) := Int.emod_lt_of_pos _ hF1
  have e3 : 0 ≤ (y : Int) / 7 % (F : Int) := Int.emod_nonneg _ hF0
  have e4 : (y : Int) / 7 % (F : Int) < (F : Int) := Int.emod_lt_of_pos _ hF1
  have hn1 : ¬ (n : Int) = 0 := by omega
  have hn2 : (0 : Int) < (n : Int) := by omega
  have hn3 : ((n : Int) == 0) = false := by simp; omega
  have e5 : 0 ≤ (y : Int) % (n : Int) := Int.emod_nonneg _ hn1
  have e6 : (y : Int) % (n : Int) < (n : Int) := Int.emod_lt_of_pos _ hn2
  have Hx6 := Lib.hid hx6
  clear hx6
  have HT : Hid (∀ w1 : World, CallsAt w1 ao l → Calls Try.prog 115 #[.agg #[.int .i64 (F : Int), .slice ao n cap], .agg #[.int .i64 4, .int .i64 ((y : Int) % (n : Int)), .int .i64 ((y : Int) / 7 % (F : Int)), .int .i64 0]] w1 fun e w' => e = .returned (.int .i64 (vlB F l 4 ((y : Int) % (n : Int)) ((y : Int) / 7 % (F : Int)))) ∧ Below w1.heap.size w1 w') := Lib.hid (by
    obtain ⟨kk, hk6, hkk, hT⟩ := tell_any2 F n ao cap l Hn hcap Hg.out 4 ((y : Int) % (n : Int)) ((y : Int) / 7 % (F : Int)) 0 0 (by simp [mB, inB]; try omega)
    obtain rfl : kk = 4 := by omega
    exact hT)
  obtain ⟨W0, hW, hbW, hsW, rX, rY⟩ := box2 w #[.int .i64 (F : Int), .slice ao n cap] 87 #[.int .i64 0, .int .i64 0, .int .i64 0, .int .i64 0] 25
  have HW := Lib.hid hW
  have HbW := Lib.hid hbW
  have HRX := Lib.hid rX
  have HRR := Lib.hid rY
  have q0 : W0.cell? ⟨w.heap.size, 0, none⟩ = some (.int .i64 (F : Int)) := cell_of_row _ _ _ _ _ _ rX
  have q1 : W0.cell? ⟨w.heap.size, 1, none⟩ = some (.slice ao n cap) := cell_of_row _ _ _ _ _ _ rX
  have hlt9 : w.heap.size + 1 < W0.heap.size := by omega
  clear hW hbW hsW rX rY
  go_enter Try.func99, Try.ntmps99
  go_wp2_with fail
  rw [HW.out]
  refine (kindsOf_any (F : Int) (n : Int) W0).mono ?_
  rintro e w1 ⟨rfl, hk1, hb1⟩
  obtain ⟨g0, g1, g2, g3, g4⟩ := hk1.cells (k := 4) (by omega)
  have h0 : w1.cell? ⟨W0.heap.size, 20, none⟩ = some (.int .i64 ((n : Int))) := g0
  have h1 : w1.cell? ⟨W0.heap.size, 21, none⟩ = some (.int .i64 ((F : Int))) := g1
  have h2 : w1.cell? ⟨W0.heap.size, 22, none⟩ = some (.int .i64 (0)) := g2
  have h3 : w1.cell? ⟨W0.heap.size, 23, none⟩ = some (.int .i64 (1)) := g3
  have h4 : w1.cell? ⟨W0.heap.size, 24, none⟩ = some (.func (.func 115) #[] #[]) := g4
  clear g0 g1 g2 g3 g4
  have hne1 : ¬ w.heap.size + 1 = w1.heap.size := by have := hb1.size; omega
  have hne2 : ¬ w1.heap.size = w.heap.size + 1 := by have := hb1.size; omega
  have hlt0 : w.heap.size < w1.heap.size := World.block_lt_of_cell? w1 _ (cell_old hb1 q0)
  have hltk : W0.heap.size < w1.heap.size := World.block_lt_of_cell? w1 _ h0
  have Hb1 := Lib.hid (HbW.out.trans (hb1.mono HbW.out.size))
  have q0 := cell_old hb1 q0
  have q1 := cell_old hb1 q1
  obtain ⟨W2, hW2, hbW2, hsW2, rC, rK⟩ := box2 w1 #[.int .i64 4, .int .i64 ((y : Int) % (n : Int)), .int .i64 ((y : Int) / 7 % (F : Int)), .int .i64 0] 25 #[.int .i64 ((n : Int)), .int .i64 ((F : Int)), .int .i64 (0), .int .i64 (1), .func (.func 115) #[] #[]] 115
  have HW2 := Lib.hid hW2
  have HY := Lib.hid rC
  have HR2 := Lib.hid (row_later (row_later HRR.out hb1) hbW2)
  have Hb2 := Lib.hid (Hb1.out.trans (hbW2.mono Hb1.out.size))
  have hs1 := Hb1.out.size
  clear hW2 hbW2 hsW2 rC rK hb1 hk1
  go_upto_region 3 with (fail)
  rw [Hx6.out]
  go_wp2_with fail
  rw [HW2.out]
  refine (HT.out W2 (HHc.out.kept Hb2.out)).mono ?_
  rintro e w2 ⟨rfl, hb2⟩
  obtain ⟨V, hV⟩ : ∃ V, vlB F l 4 ((y : Int) % (n : Int)) ((y : Int) / 7 % (F : Int)) = V := ⟨_, rfl⟩
  rw [hV]
  have HVV := Lib.hid hV
  clear hV q0 q1 h0 h1 h2 h3 h4
  have x0 : w2.cell? ⟨w.heap.size + 1, 0, none⟩ = some (.int .i64 0) := cell_of_row _ _ _ _ _ _ (row_later HR2.out hb2)
  have x1 : w2.cell? ⟨w.heap.size + 1, 1, none⟩ = some (.int .i64 0) := cell_of_row _ _ _ _ _ _ (row_later HR2.out hb2)
  have x2 : w2.cell? ⟨w.heap.size + 1, 2, none⟩ = some (.int .i64 0) := cell_of_row _ _ _ _ _ _ (row_later HR2.out hb2)
  have x3 : w2.cell? ⟨w.heap.size + 1, 3, none⟩ = some (.int .i64 0) := cell_of_row _ _ _ _ _ _ (row_later HR2.out hb2)
  have gx : ∀ j, w2.frozen? ⟨w.heap.size + 1, j, none⟩ = false := fun j => frozen_of_row _ _ _ _ _ (row_later HR2.out hb2)
  have y0 : w2.cell? ⟨w1.heap.size, 0, none⟩ = some (.int .i64 4) := cell_of_row _ _ _ _ _ _ (row_later HY.out hb2)
  have y1 : w2.cell? ⟨w1.heap.size, 1, none⟩ = some (.int .i64 ((y : Int) % (n : Int))) := cell_of_row _ _ _ _ _ _ (row_later HY.out hb2)
  have y2 : w2.cell? ⟨w1.heap.size, 2, none⟩ = some (.int .i64 ((y : Int) / 7 % (F : Int))) := cell_of_row _ _ _ _ _ _ (row_later HY.out hb2)
  have y3 : w2.cell? ⟨w1.heap.size, 3, none⟩ = some (.int .i64 0) := cell_of_row _ _ _ _ _ _ (row_later HY.out hb2)
  have gy : ∀ j, w2.frozen? ⟨w1.heap.size, j, none⟩ = false := fun j => frozen_of_row _ _ _ _ _ (row_later HY.out hb2)
  have HB := Lib.hid (Hb2.out.trans (hb2.mono Hb2.out.size))
  have HBs := Lib.hid (((((HB.out.setCell (p := ⟨w1.heap.size, 3, none⟩) (by show w.heap.size ≤ w1.heap.size; omega) (.int .i64 V)).setCell (p := ⟨w.heap.size + 1, 0, none⟩) (by show w.heap.size ≤ w.heap.size + 1; omega) (.int .i64 4)).setCell (p := ⟨w.heap.size + 1, 1, none⟩) (by show w.heap.size ≤ w.heap.size + 1; omega) (.int .i64 ((y : Int) % (n : Int)))).setCell (p := ⟨w.heap.size + 1, 2, none⟩) (by show w.heap.size ≤ w.heap.size + 1; omega) (.int .i64 ((y : Int) / 7 % (F : Int)))).setCell (p := ⟨w.heap.size + 1, 3, none⟩) (by show w.heap.size ≤ w.heap.size + 1; omega) (.int .i64 V))
  obtain ⟨U, hU⟩ : ∃ U, ((((w2.setCell ⟨w1.heap.size, 3, none⟩ (.int .i64 V)).setCell ⟨w.heap.size + 1, 0, none⟩ (.int .i64 4)).setCell ⟨w.heap.size + 1, 1, none⟩ (.int .i64 ((y : Int) % (n : Int)))).setCell ⟨w.heap.size + 1, 2, none⟩ (.int .i64 ((y : Int) / 7 % (F : Int)))).setCell ⟨w.heap.size + 1, 3, none⟩ (.int .i64 V) = U := ⟨_, rfl⟩
  have z0 : U.cell? ⟨w.heap.size + 1, 0, none⟩ = some (.int .i64 4) := by rw [← hU]; simp [go_sem, x0]
  have z1 : U.cell? ⟨w.heap.size + 1, 1, none⟩ = some (.int .i64 ((y : Int) % (n : Int))) := by rw [← hU]; simp [go_sem, x1]
  have z2 : U.cell? ⟨w.heap.size + 1, 2, none⟩ = some (.int .i64 ((y : Int) / 7 % (F : Int))) := by rw [← hU]; simp [go_sem, x2]
  have z3 : U.cell? ⟨w.heap.size + 1, 3, none⟩ = some (.int .i64 V) := by rw [← hU]; simp [go_sem, x3]
  rw [hU] at HBs
  have HU := Lib.hid hU
  clear hU hb2 e1 e2 e3 e4
  go_wp2_with fail
  rw [HU.out]
  refine bodyPost_ret (v := .agg #[.int .i64 4, .int .i64 ((y : Int) % (n : Int)), .int .i64 ((y : Int) / 7 % (F : Int)), .int .i64 V]) ?_ rfl ⟨by rw [HVV.out], HBs.out⟩
  simp [results, Try.results99, go_sem, z0, z1, z2, z3]
set_option maxHeartbeats 1600000 in
set_option maxRecDepth 20000 in
theorem makeClue_5 (w : World) (F : Nat) (ao : Option Addr) (cap : Nat) (l : List (Int × Int)) (n : Nat) (Hn : Hid (n = l.length)) (hs : n ≤ 3) (hcap : n ≤ cap) (HHc : Hid (CallsAt w ao l)) (Hg : Hid (gdB (F : Int) l = true)) (hF : 2 ≤ F ∧ F ≤ 4) (x y : Nat) (hx : x ≤ 10006) (hy : y ≤ 10006) (hx6 : (x : Int) % 6 = 5) :
    Calls Try.prog 99 #[.agg #[.int .i64 (F : Int), .slice ao n cap], .int .i64 (x : Int), .int .i64 (y : Int)] w fun e w' => e = .returned (.agg #[.int .i64 5, .int .i64 (0), .int .i64 (0), .int .i64 (vlB F l 5 (0) (0))]) ∧ Below w.heap.size w w' := by
  have hx0 : (0 : Int) ≤ (x : Int) := by omega
  have hy0 : (0 : Int) ≤ (y : Int) := by omega
  have hF0 : ¬ (F : Int) = 0 := by omega
  have hF1 : (0 : Int) < (F : Int) := by omega
  have e1 : 0 ≤ (y : Int) % (F : Int) := Int.emod_nonneg _ hF0
  have e2 : (y : Int) % (F : Int) < (F : Int) := Int.emod_lt_of_pos _ hF1
  have e3 : 0 ≤ (y : Int) / 7 % (F : Int) := Int.emod_nonneg _ hF0
  have e4 : (y : Int) / 7 % (F : Int) < (F : Int) := Int.emod_lt_of_pos _ hF1
  have Hx6 := Lib.hid hx6
  clear hx6
  have HT : Hid (∀ w1 : World, CallsAt w1 ao l → Calls Try.prog 116 #[.agg #[.int .i64 (F : Int), .slice ao n cap], .agg #[.int .i64 5, .int .i64 (0), .int .i64 (0), .int .i64 0]] w1 fun e w' => e = .returned (.int .i64 (vlB F l 5 (0) (0))) ∧ Below w1.heap.size w1 w') := Lib.hid (by
    obtain ⟨kk, hk6, hkk, hT⟩ := tell_any2 F n ao cap l Hn hcap Hg.out 5 (0) (0) 1 0 (by simp [mB, inB]; try omega)
    obtain rfl : kk = 5 := by omega
    exact hT)
  obtain ⟨W0, hW, hbW, hsW, rX, rY⟩ := box2 w #[.int .i64 (F : Int), .slice ao n cap] 87 #[.int .i64 0, .int .i64 0, .int .i64 0, .int .i64 0] 25
  have HW := Lib.hid hW
  have HbW := Lib.hid hbW
  have HRX := Lib.hid rX
  have HRR := Lib.hid rY
  have q0 : W0.cell? ⟨w.heap.size, 0, none⟩ = some (.int .i64 (F : Int)) := cell_of_row _ _ _ _ _ _ rX
  have q1 : W0.cell? ⟨w.heap.size, 1, none⟩ = some (.slice ao n cap) := cell_of_row _ _ _ _ _ _ rX
  have hlt9 : w.heap.size + 1 < W0.heap.size := by omega
  clear hW hbW hsW rX rY
  go_enter Try.func99, Try.ntmps99
  go_wp2_with fail
  rw [HW.out]
  refine (kindsOf_any (F : Int) (n : Int) W0).mono ?_
  rintro e w1 ⟨rfl, hk1, hb1⟩
  obtain ⟨g0, g1, g2, g3, g4⟩ := hk1.cells (k := 5) (by omega)
  have h0 : w1.cell? ⟨W0.heap.size, 25, none⟩ = some (.int .i64 (1)) := g0
  have h1 : w1.cell? ⟨W0.heap.size, 26, none⟩ = some (.int .i64 (1)) := g1
  have h2 : w1.cell? ⟨W0.heap.size, 27, none⟩ = some (.int .i64 (1)) := g2
  have h3 : w1.cell? ⟨W0.heap.size, 28, none⟩ = some (.int .i64 (16)) := g3
  have h4 : w1.cell? ⟨W0.heap.size, 29, none⟩ = some (.func (.func 116) #[] #[]) := g4
  clear g0 g1 g2 g3 g4
  have hne1 : ¬ w.heap.size + 1 = w1.heap.size := by have := hb1.size; omega
  have hne2 : ¬ w1.heap.size = w.heap.size + 1 := by have := hb1.size; omega
  have hlt0 : w.heap.size < w1.heap.size := World.block_lt_of_cell? w1 _ (cell_old hb1 q0)
  have hltk : W0.heap.size < w1.heap.size := World.block_lt_of_cell? w1 _ h0
  have Hb1 := Lib.hid (HbW.out.trans (hb1.mono HbW.out.size))
  have q0 := cell_old hb1 q0
  have q1 := cell_old hb1 q1
  obtain ⟨W2, hW2, hbW2, hsW2, rC, rK⟩ := box2 w1 #[.int .i64 5, .int .i64 (0), .int .i64 (0), .int .i64 0] 25 #[.int .i64 (1), .int .i64 (1), .int .i64 (1), .int .i64 (16), .func (.func 116) #[] #[]] 115
  have HW2 := Lib.hid hW2
  have HY := Lib.hid rC
  have HR2 := Lib.hid (row_later (row_later HRR.out hb1) hbW2)
  have Hb2 := Lib.hid (Hb1.out.trans (hbW2.mono Hb1.out.size))
  have hs1 := Hb1.out.size
  clear hW2 hbW2 hsW2 rC rK hb1 hk1
  go_upto_region 3 with (fail)
  rw [Hx6.out]
  go_wp2_with fail
  rw [HW2.out]
  refine (HT.out W2 (HHc.out.kept Hb2.out)).mono ?_
  rintro e w2 ⟨rfl, hb2⟩
  obtain ⟨V, hV⟩ : ∃ V, vlB F l 5 (0) (0) = V := ⟨_, rfl⟩
  rw [hV]
  have HVV := Lib.hid hV
  clear hV q0 q1 h0 h1 h2 h3 h4
  have x0 : w2.cell? ⟨w.heap.size + 1, 0, none⟩ = some (.int .i64 0) := cell_of_row _ _ _ _ _ _ (row_later HR2.out hb2)
  have x1 : w2.cell? ⟨w.heap.size + 1, 1, none⟩ = some (.int .i64 0) := cell_of_row _ _ _ _ _ _ (row_later HR2.out hb2)
  have x2 : w2.cell? ⟨w.heap.size + 1, 2, none⟩ = some (.int .i64 0) := cell_of_row _ _ _ _ _ _ (row_later HR2.out hb2)
  have x3 : w2.cell? ⟨w.heap.size + 1, 3, none⟩ = some (.int .i64 0) := cell_of_row _ _ _ _ _ _ (row_later HR2.out hb2)
  have gx : ∀ j, w2.frozen? ⟨w.heap.size + 1, j, none⟩ = false := fun j => frozen_of_row _ _ _ _ _ (row_later HR2.out hb2)
  have y0 : w2.cell? ⟨w1.heap.size, 0, none⟩ = some (.int .i64 5) := cell_of_row _ _ _ _ _ _ (row_later HY.out hb2)
  have y1 : w2.cell? ⟨w1.heap.size, 1, none⟩ = some (.int .i64 (0)) := cell_of_row _ _ _ _ _ _ (row_later HY.out hb2)
  have y2 : w2.cell? ⟨w1.heap.size, 2, none⟩ = some (.int .i64 (0)) := cell_of_row _ _ _ _ _ _ (row_later HY.out hb2)
  have y3 : w2.cell? ⟨w1.heap.size, 3, none⟩ = some (.int .i64 0) := cell_of_row _ _ _ _ _ _ (row_later HY.out hb2)
  have gy : ∀ j, w2.frozen? ⟨w1.heap.size, j, none⟩ = false := fun j => frozen_of_row _ _ _ _ _ (row_later HY.out hb2)
  have HB := Lib.hid (Hb2.out.trans (hb2.mono Hb2.out.size))
  have HBs := Lib.hid (((((HB.out.setCell (p := ⟨w1.heap.size, 3, none⟩) (by show w.heap.size ≤ w1.heap.size; omega) (.int .i64 V)).setCell (p := ⟨w.heap.size + 1, 0, none⟩) (by show w.heap.size ≤ w.heap.size + 1; omega) (.int .i64 5)).setCell (p := ⟨w.heap.size + 1, 1, none⟩) (by show w.heap.size ≤ w.heap.size + 1; omega) (.int .i64 (0))).setCell (p := ⟨w.heap.size + 1, 2, none⟩) (by show w.heap.size ≤ w.heap.size + 1; omega) (.int .i64 (0))).setCell (p := ⟨w.heap.size + 1, 3, none⟩) (by show w.heap.size ≤ w.heap.size + 1; omega) (.int .i64 V))
  obtain ⟨U, hU⟩ : ∃ U, ((((w2.setCell ⟨w1.heap.size, 3, none⟩ (.int .i64 V)).setCell ⟨w.heap.size + 1, 0, none⟩ (.int .i64 5)).setCell ⟨w.heap.size + 1, 1, none⟩ (.int .i64 (0))).setCell ⟨w.heap.size + 1, 2, none⟩ (.int .i64 (0))).setCell ⟨w.heap.size + 1, 3, none⟩ (.int .i64 V) = U := ⟨_, rfl⟩
  have z0 : U.cell? ⟨w.heap.size + 1, 0, none⟩ = some (.int .i64 5) := by rw [← hU]; simp [go_sem, x0]
  have z1 : U.cell? ⟨w.heap.size + 1, 1, none⟩ = some (.int .i64 (0)) := by rw [← hU]; simp [go_sem, x1]
  have z2 : U.cell? ⟨w.heap.size + 1, 2, none⟩ = some (.int .i64 (0)) := by rw [← hU]; simp [go_sem, x2]
  have z3 : U.cell? ⟨w.heap.size + 1, 3, none⟩ = some (.int .i64 V) := by rw [← hU]; simp [go_sem, x3]
  rw [hU] at HBs
  have HU := Lib.hid hU
  clear hU hb2 e1 e2 e3 e4
  go_wp2_with fail
  rw [HU.out]
  refine bodyPost_ret (v := .agg #[.int .i64 5, .int .i64 (0), .int .i64 (0), .int .i64 V]) ?_ rfl ⟨by rw [HVV.out], HBs.out⟩
  simp [results, Try.results99, go_sem, z0, z1, z2, z3]
set_option maxHeartbeats 1600000 in
set_option maxRecDepth 20000 in
theorem makeClue_40 (w : World) (F : Nat) (ao : Option Addr) (cap : Nat) (l : List (Int × Int)) (n : Nat) (Hn : Hid (n = l.length)) (hs : n ≤ 3) (hcap : n ≤ cap) (HHc : Hid (CallsAt w ao l)) (Hg : Hid (gdB (F : Int) l = true)) (hF : 2 ≤ F ∧ F ≤ 4) (x y : Nat) (hx : x ≤ 10006) (hy : y ≤ 10006) (hx6 : (x : Int) % 6 = 4) (hn0 : n = 0) :
    Calls Try.prog 99 #[.agg #[.int .i64 (F : Int), .slice ao n cap], .int .i64 (x : Int), .int .i64 (y : Int)] w fun e w' => e = .returned (.agg #[.int .i64 0, .int .i64 ((y : Int) % (F : Int)), .int .i64 (0), .int .i64 (vlB F l 0 ((y : Int) % (F : Int)) (0))]) ∧ Below w.heap.size w w' := by
  have hx0 : (0 : Int) ≤ (x : Int) := by omega
  have hy0 : (0 : Int) ≤ (y : Int) := by omega
  have hF0 : ¬ (F : Int) = 0 := by omega
  have hF1 : (0 : Int) < (F : Int) := by omega
  have e1 : 0 ≤ (y : Int) % (F : Int) := Int.emod_nonneg _ hF0
  have e2 : (y : Int) % (F : Int) < (F : Int) := Int.emod_lt_of_pos _ hF1
  have e3 : 0 ≤ (y : Int) / 7 % (F : Int) := Int.emod_nonneg _ hF0
  have e4 : (y : Int) / 7 % (F : Int) < (F : Int) := Int.emod_lt_of_pos _ hF1
  have hn3 : ((n : Int) == 0) = true := by simp; omega
  clear hn0
  have Hx6 := Lib.hid hx6
  clear hx6
  have HT : Hid (∀ w1 : World, CallsAt w1 ao l → Calls Try.prog 111 #[.agg #[.int .i64 (F : Int), .slice ao n cap], .agg #[.int .i64 0, .int .i64 ((y : Int) % (F : Int)), .int .i64 (0), .int .i64 0]] w1 fun e w' => e = .returned (.int .i64 (vlB F l 0 ((y : Int) % (F : Int)) (0))) ∧ Below w1.heap.size w1 w') := Lib.hid (by
    obtain ⟨kk, hk6, hkk, hT⟩ := tell_any2 F n ao cap l Hn hcap Hg.out 0 ((y : Int) % (F : Int)) (0) 0 0 (by simp [mB, inB]; try omega)
    obtain rfl : kk = 0 := by omega
    exact hT)
  obtain ⟨W0, hW, hbW, hsW, rX, rY⟩ := box2 w #[.int .i64 (F : Int), .slice ao n cap] 87 #[.int .i64 0, .int .i64 0, .int .i64 0, .int .i64 0] 25
  have HW := Lib.hid hW
  have HbW := Lib.hid hbW
  have HRX := Lib.hid rX
  have HRR := Lib.hid rY
  have q0 : W0.cell? ⟨w.heap.size, 0, none⟩ = some (.int .i64 (F : Int)) := cell_of_row _ _ _ _ _ _ rX
  have q1 : W0.cell? ⟨w.heap.size, 1, none⟩ = some (.slice ao n cap) := cell_of_row _ _ _ _ _ _ rX
  have hlt9 : w.heap.size + 1 < W0.heap.size := by omega
  clear hW hbW hsW rX rY
  go_enter Try.func99, Try.ntmps99
  go_wp2_with fail
  rw [HW.out]
  refine (kindsOf_any (F : Int) (n : Int) W0).mono ?_
  rintro e w1 ⟨rfl, hk1, hb1⟩
  obtain ⟨g0, g1, g2, g3, g4⟩ := hk1.cells (k := 0) (by omega)
  have h0 : w1.cell? ⟨W0.heap.size, 0, none⟩ = some (.int .i64 ((F : Int))) := g0
  have h1 : w1.cell? ⟨W0.heap.size, 1, none⟩ = some (.int .i64 (1)) := g1
  have h2 : w1.cell? ⟨W0.heap.size, 2, none⟩ = some (.int .i64 (0)) := g2
  have h3 : w1.cell? ⟨W0.heap.size, 3, none⟩ = some (.int .i64 ((n : Int))) := g3
  have h4 : w1.cell? ⟨W0.heap.size, 4, none⟩ = some (.func (.func 111) #[] #[]) := g4
  clear g0 g1 g2 g3 g4
  have hne1 : ¬ w.heap.size + 1 = w1.heap.size := by have := hb1.size; omega
  have hne2 : ¬ w1.heap.size = w.heap.size + 1 := by have := hb1.size; omega
  have hlt0 : w.heap.size < w1.heap.size := World.block_lt_of_cell? w1 _ (cell_old hb1 q0)
  have hltk : W0.heap.size < w1.heap.size := World.block_lt_of_cell? w1 _ h0
  have Hb1 := Lib.hid (HbW.out.trans (hb1.mono HbW.out.size))
  have q0 := cell_old hb1 q0
  have q1 := cell_old hb1 q1
  obtain ⟨W2, hW2, hbW2, hsW2, rC, rK⟩ := box2 w1 #[.int .i64 0, .int .i64 ((y : Int) % (F : Int)), .int .i64 (0), .int .i64 0] 25 #[.int .i64 ((F : Int)), .int .i64 (1), .int .i64 (0), .int .i64 ((n : Int)), .func (.func 111) #[] #[]] 115
  have HW2 := Lib.hid hW2
  have HY := Lib.hid rC
  have HR2 := Lib.hid (row_later (row_later HRR.out hb1) hbW2)
  have Hb2 := Lib.hid (Hb1.out.trans (hbW2.mono Hb1.out.size))
  have hs1 := Hb1.out.size
  clear hW2 hbW2 hsW2 rC rK hb1 hk1
  go_upto_region 3 with (fail)
  rw [Hx6.out]
  go_wp2_with fail
  rw [HW2.out]
  refine (HT.out W2 (HHc.out.kept Hb2.out)).mono ?_
  rintro e w2 ⟨rfl, hb2⟩
  obtain ⟨V, hV⟩ : ∃ V, vlB F l 0 ((y : Int) % (F : Int)) (0) = V := ⟨_, rfl⟩
  rw [hV]
  have HVV := Lib.hid hV
  clear hV q0 q1 h0 h1 h2 h3 h4
  have x0 : w2.cell? ⟨w.heap.size + 1, 0, none⟩ = some (.int .i64 0) := cell_of_row _ _ _ _ _ _ (row_later HR2.out hb2)
  have x1 : w2.cell? ⟨w.heap.size + 1, 1, none⟩ = some (.int .i64 0) := cell_of_row _ _ _ _ _ _ (row_later HR2.out hb2)
  have x2 : w2.cell? ⟨w.heap.size + 1, 2, none⟩ = some (.int .i64 0) := cell_of_row _ _ _ _ _ _ (row_later HR2.out hb2)
  have x3 : w2.cell? ⟨w.heap.size + 1, 3, none⟩ = some (.int .i64 0) := cell_of_row _ _ _ _ _ _ (row_later HR2.out hb2)
  have gx : ∀ j, w2.frozen? ⟨w.heap.size + 1, j, none⟩ = false := fun j => frozen_of_row _ _ _ _ _ (row_later HR2.out hb2)
  have y0 : w2.cell? ⟨w1.heap.size, 0, none⟩ = some (.int .i64 0) := cell_of_row _ _ _ _ _ _ (row_later HY.out hb2)
  have y1 : w2.cell? ⟨w1.heap.size, 1, none⟩ = some (.int .i64 ((y : Int) % (F : Int))) := cell_of_row _ _ _ _ _ _ (row_later HY.out hb2)
  have y2 : w2.cell? ⟨w1.heap.size, 2, none⟩ = some (.int .i64 (0)) := cell_of_row _ _ _ _ _ _ (row_later HY.out hb2)
  have y3 : w2.cell? ⟨w1.heap.size, 3, none⟩ = some (.int .i64 0) := cell_of_row _ _ _ _ _ _ (row_later HY.out hb2)
  have gy : ∀ j, w2.frozen? ⟨w1.heap.size, j, none⟩ = false := fun j => frozen_of_row _ _ _ _ _ (row_later HY.out hb2)
  have HB := Lib.hid (Hb2.out.trans (hb2.mono Hb2.out.size))
  have HBs := Lib.hid (((((HB.out.setCell (p := ⟨w1.heap.size, 3, none⟩) (by show w.heap.size ≤ w1.heap.size; omega) (.int .i64 V)).setCell (p := ⟨w.heap.size + 1, 0, none⟩) (by show w.heap.size ≤ w.heap.size + 1; omega) (.int .i64 0)).setCell (p := ⟨w.heap.size + 1, 1, none⟩) (by show w.heap.size ≤ w.heap.size + 1; omega) (.int .i64 ((y : Int) % (F : Int)))).setCell (p := ⟨w.heap.size + 1, 2, none⟩) (by show w.heap.size ≤ w.heap.size + 1; omega) (.int .i64 (0))).setCell (p := ⟨w.heap.size + 1, 3, none⟩) (by show w.heap.size ≤ w.heap.size + 1; omega) (.int .i64 V))
  obtain ⟨U, hU⟩ : ∃ U, ((((w2.setCell ⟨w1.heap.size, 3, none⟩ (.int .i64 V)).setCell ⟨w.heap.size + 1, 0, none⟩ (.int .i64 0)).setCell ⟨w.heap.size + 1, 1, none⟩ (.int .i64 ((y : Int) % (F : Int)))).setCell ⟨w.heap.size + 1, 2, none⟩ (.int .i64 (0))).setCell ⟨w.heap.size + 1, 3, none⟩ (.int .i64 V) = U := ⟨_, rfl⟩
  have z0 : U.cell? ⟨w.heap.size + 1, 0, none⟩ = some (.int .i64 0) := by rw [← hU]; simp [go_sem, x0]
  have z1 : U.cell? ⟨w.heap.size + 1, 1, none⟩ = some (.int .i64 ((y : Int) % (F : Int))) := by rw [← hU]; simp [go_sem, x1]
  have z2 : U.cell? ⟨w.heap.size + 1, 2, none⟩ = some (.int .i64 (0)) := by rw [← hU]; simp [go_sem, x2]
  have z3 : U.cell? ⟨w.heap.size + 1, 3, none⟩ = some (.int .i64 V) := by rw [← hU]; simp [go_sem, x3]
  rw [hU] at HBs
  have HU := Lib.hid hU
  clear hU hb2 e1 e2 e3 e4
  go_wp2_with fail
  rw [HU.out]
  refine bodyPost_ret (v := .agg #[.int .i64 0, .int .i64 ((y : Int) % (F : Int)), .int .i64 (0), .int .i64 V]) ?_ rfl ⟨by rw [HVV.out], HBs.out⟩
  simp [results, Try.results99, go_sem, z0, z1, z2, z3]

theorem makeClue_any (w : World) (F : Nat) (ao : Option Addr) (cap : Nat) (l : List (Int × Int)) (n : Nat) (Hn : Hid (n = l.length)) (hs : n ≤ 3) (hcap : n ≤ cap) (HHc : Hid (CallsAt w ao l)) (Hg : Hid (gdB (F : Int) l = true)) (hF : 2 ≤ F ∧ F ≤ 4) (x y : Nat) (hx : x ≤ 10006) (hy : y ≤ 10006) :
    Calls Try.prog 99 #[.agg #[.int .i64 (F : Int), .slice ao n cap], .int .i64 (x : Int), .int .i64 (y : Int)] w fun e w' => e = .returned (.agg #[.int .i64 (mkC F l x y).1, .int .i64 (mkC F l x y).2.1, .int .i64 (mkC F l x y).2.2.1, .int .i64 (mkC F l x y).2.2.2]) ∧ Below w.heap.size w w' := by
  have hk : x % 6 = 0 ∨ x % 6 = 1 ∨ x % 6 = 2 ∨ x % 6 = 3 ∨ x % 6 = 4 ∨ x % 6 = 5 := by omega
  have e0 : (x : Int) % 6 = ((x % 6 : Nat) : Int) := by omega
  rcases hk with h | h | h | h | h | h
  · rw [h] at e0
    refine (makeClue_0 w F ao cap l n Hn hs hcap HHc Hg hF x y hx hy e0).mono ?_
    rintro e w' ⟨rfl, hb⟩
    exact ⟨by simp [mkC, mkK, mkX, mkY, h], hb⟩
  · rw [h] at e0
    refine (makeClue_1 w F ao cap l n Hn hs hcap HHc Hg hF x y hx hy e0).mono ?_
    rintro e w' ⟨rfl, hb⟩
    exact ⟨by simp [mkC, mkK, mkX, mkY, h], hb⟩
  · rw [h] at e0
    refine (makeClue_2 w F ao cap l n Hn hs hcap HHc Hg hF x y hx hy e0).mono ?_
    rintro e w' ⟨rfl, hb⟩
    exact ⟨by simp [mkC, mkK, mkX, mkY, h], hb⟩
  · rw [h] at e0
    refine (makeClue_3 w F ao cap l n Hn hs hcap HHc Hg hF x y hx hy e0).mono ?_
    rintro e w' ⟨rfl, hb⟩
    exact ⟨by simp [mkC, mkK, mkX, mkY, h], hb⟩
  · rw [h] at e0
    by_cases hn : n = 0
    · refine (makeClue_40 w F ao cap l n Hn hs hcap HHc Hg hF x y hx hy e0 hn).mono ?_
      rintro e w' ⟨rfl, hb⟩
      have hl : l.length = 0 := by rw [← Hn.out]; exact hn
      exact ⟨by simp [mkC, mkK, mkX, mkY, h, hl], hb⟩
    · refine (makeClue_4 w F ao cap l n Hn hs hcap HHc Hg hF x y hx hy e0 (by omega)).mono ?_
      rintro e w' ⟨rfl, hb⟩
      have hl : ¬ l.length = 0 := by rw [← Hn.out]; exact hn
      exact ⟨by simp [mkC, mkK, mkX, mkY, h, ← Hn.out, hn], hb⟩
  · rw [h] at e0
    refine (makeClue_5 w F ao cap l n Hn hs hcap HHc Hg hF x y hx hy e0).mono ?_
    rintro e w' ⟨rfl, hb⟩
    exact ⟨by simp [mkC, mkK, mkX, mkY, h], hb⟩

end Go.Proofs.Ytmgmkgjefplfdaa
