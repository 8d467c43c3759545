/- DropClue by the model. -/
import Derived.Test.YtmgmkgjefplfdaaDci
namespace Go.Proofs.Ytmgmkgjefplfdaa
open Go.ChangeShapes Go.WideShapes Go.ChangeAt Go.RowKit
set_option linter.unusedVariables false

set_option maxHeartbeats 1600000 in
set_option maxRecDepth 20000 in
theorem specDC_any (w : World) (f n : Int) (gb : Nat) (cap : Nat) (l : List Clu) (N : Nat) (k : Int) (HN : Hid (N = l.length)) (hN : N ≤ 1048576) (hc : N ≤ cap) (Hc : CluesAt w (some ⟨gb, 0, none⟩) l) :
    Calls Try.prog 52 #[.agg #[.int .i64 f, .int .i64 n, .slice (some ⟨gb, 0, none⟩) N cap], .int .i64 k] w fun e w' => ∃ v, e = .returned (.tuple #[.agg #[.int .i64 (dcF f n l k), .int .i64 (dcG f n l k), v], .bool (ixB f n l k)]) ∧ w'.ownsRow w.heap.size 25 4 v (dcL f n l k).length (ks (dcL f n l k)) ∧ Below w.heap.size w w' := by
  obtain ⟨W, hW, hbW, hsW, rX, rY⟩ := box2 w #[.int .i64 f, .int .i64 n, .slice (some ⟨gb, 0, none⟩) N cap] 35 #[.int .i64 0, .int .i64 0, .slice none 0 0] 35
  have HW := Lib.hid hW
  have HbW := Lib.hid hbW
  have HcW := Lib.hid (Hc.kept hbW)
  have x0 : W.cell? ⟨w.heap.size, 0, none⟩ = some (.int .i64 f) := cell_of_row _ _ _ _ _ _ rX
  have x1 : W.cell? ⟨w.heap.size, 1, none⟩ = some (.int .i64 n) := cell_of_row _ _ _ _ _ _ rX
  have x2 : W.cell? ⟨w.heap.size, 2, none⟩ = some (.slice (some ⟨gb, 0, none⟩) N cap) := cell_of_row _ _ _ _ _ _ rX
  have y0 : W.cell? ⟨w.heap.size + 1, 0, none⟩ = some (.int .i64 0) := cell_of_row _ _ _ _ _ _ rY
  have y1 : W.cell? ⟨w.heap.size + 1, 1, none⟩ = some (.int .i64 0) := cell_of_row _ _ _ _ _ _ rY
  have y2 : W.cell? ⟨w.heap.size + 1, 2, none⟩ = some (.slice none 0 0) := cell_of_row _ _ _ _ _ _ rY
  have gy : ∀ j, W.frozen? ⟨w.heap.size + 1, j, none⟩ = false := fun j => frozen_of_row _ _ _ _ _ rY
  clear hW rX rY hbW Hc
  have HI := Lib.hid (pzGood_any f n (some ⟨gb, 0, none⟩) cap l N W HN hN HcW)
  cases hg : goodB f n l
  · have hh : ixB f n l k = false := by unfold ixB; rw [hg]; rfl
    have HF := Lib.hid (ixB_false hh)
    rw [hg] at HI
    rw [hh]
    clear hh hg
    go_enter Try.func52, Try.ntmps52
    go_wp2_with fail
    rw [HW.out]
    refine HI.out.mono ?_
    rintro e w5 ⟨rfl, hb1⟩
    have x0 := cell_old hb1 x0
    have x1 := cell_old hb1 x1
    have x2 := cell_old hb1 x2
    have y0 := cell_old hb1 y0
    have y1 := cell_old hb1 y1
    have y2 := cell_old hb1 y2
    have gy : ∀ j, w5.frozen? ⟨w.heap.size + 1, j, none⟩ = false := fun j => by rw [hb1.frozen (by show w.heap.size + 1 < W.heap.size; omega)]; exact gy j
    have hb5 := HbW.out.trans (hb1.mono HbW.out.size)
    have Own0 : Hid (w5.ownsRow (w.heap.size + 2) 25 4 (.slice none 0 0) 0 (ks [])) := Lib.hid (World.ownsRow_nil _ _ _ _)
    clear hb1
    go_wp2_with fail
    have HB := Lib.hid (((hb5.setCell (p := ⟨w.heap.size + 1, 0, none⟩) (by show w.heap.size ≤ w.heap.size + 1; omega) (.int .i64 0)).setCell (p := ⟨w.heap.size + 1, 1, none⟩) (by show w.heap.size ≤ w.heap.size + 1; omega) (.int .i64 0)).setCell (p := ⟨w.heap.size + 1, 2, none⟩) (by show w.heap.size ≤ w.heap.size + 1; omega) (.slice none 0 0))
    have HO := Lib.hid (ownsRow_setCell_below (ownsRow_setCell_below (ownsRow_setCell_below Own0.out (a := ⟨w.heap.size + 1, 0, none⟩) (by show w.heap.size + 1 < w.heap.size + 2; omega) (.int .i64 0)) (a := ⟨w.heap.size + 1, 1, none⟩) (by show w.heap.size + 1 < w.heap.size + 2; omega) (.int .i64 0)) (a := ⟨w.heap.size + 1, 2, none⟩) (by show w.heap.size + 1 < w.heap.size + 2; omega) (.slice none 0 0))
    obtain ⟨V, hV⟩ : ∃ V, ((w5.setCell ⟨w.heap.size + 1, 0, none⟩ (.int .i64 0)).setCell ⟨w.heap.size + 1, 1, none⟩ (.int .i64 0)).setCell ⟨w.heap.size + 1, 2, none⟩ (.slice none 0 0) = V := ⟨_, rfl⟩
    have z0 : V.cell? ⟨w.heap.size + 1, 0, none⟩ = some (.int .i64 0) := by rw [← hV]; simp [go_sem, y0]
    have z1 : V.cell? ⟨w.heap.size + 1, 1, none⟩ = some (.int .i64 0) := by rw [← hV]; simp [go_sem, y1]
    have z2 : V.cell? ⟨w.heap.size + 1, 2, none⟩ = some (.slice none 0 0) := by rw [← hV]; simp [go_sem, y2]
    rw [hV] at HB HO
    try rw [hV]
    clear hV hb5
    go_wp2_with fail
    refine bodyPost_ret (v := .tuple #[.agg #[.int .i64 0, .int .i64 0, .slice none 0 0], .bool false]) ?_ rfl ⟨.slice none 0 0, by rw [HF.out.1, HF.out.2.1], by rw [HF.out.2.2]; exact own_base (by omega) HO.out, HB.out⟩
    simp [results, Try.results52, go_sem, z0, z1, z2]
  · rw [hg] at HI
    have hN6 : N ≤ 6 := by rw [HN.out]; exact good_len6 hg
    have hwN : IntKind.i64.wrap ((N : Int) - 1) = (N : Int) - 1 := IntWalk.i64_in _ (by omega)
    by_cases hin : 0 ≤ k ∧ k ≤ (N : Int) - 1
    case neg =>
      have hh : ixB f n l k = false := by
        unfold ixB; rw [hg, ← HN.out]
        cases h : (decide (0 ≤ k) && decide (k < (N : Int)))
        · rfl
        · simp at h; omega
      have HF := Lib.hid (ixB_false hh)
      rw [hh]
      clear hh hg
      go_enter Try.func52, Try.ntmps52
      go_wp2_with fail
      rw [HW.out]
      refine HI.out.mono ?_
      rintro e w5 ⟨rfl, hb1⟩
      have x0 := cell_old hb1 x0
      have x1 := cell_old hb1 x1
      have x2 := cell_old hb1 x2
      have y0 := cell_old hb1 y0
      have y1 := cell_old hb1 y1
      have y2 := cell_old hb1 y2
      have gy : ∀ j, w5.frozen? ⟨w.heap.size + 1, j, none⟩ = false := fun j => by rw [hb1.frozen (by show w.heap.size + 1 < W.heap.size; omega)]; exact gy j
      go_wp2_with fail
      refine (l1In_no k 0 ((N : Int) - 1) w5 hin).mono ?_
      rintro e w6 ⟨rfl, rfl⟩
      have hb5 := HbW.out.trans (hb1.mono HbW.out.size)
      have Own0 : Hid (w5.ownsRow (w.heap.size + 2) 25 4 (.slice none 0 0) 0 (ks [])) := Lib.hid (World.ownsRow_nil _ _ _ _)
      clear hb1
      go_wp2_with fail
      have HB := Lib.hid (((hb5.setCell (p := ⟨w.heap.size + 1, 0, none⟩) (by show w.heap.size ≤ w.heap.size + 1; omega) (.int .i64 0)).setCell (p := ⟨w.heap.size + 1, 1, none⟩) (by show w.heap.size ≤ w.heap.size + 1; omega) (.int .i64 0)).setCell (p := ⟨w.heap.size + 1, 2, none⟩) (by show w.heap.size ≤ w.heap.size + 1; omega) (.slice none 0 0))
      have HO := Lib.hid (ownsRow_setCell_below (ownsRow_setCell_below (ownsRow_setCell_below Own0.out (a := ⟨w.heap.size + 1, 0, none⟩) (by show w.heap.size + 1 < w.heap.size + 2; omega) (.int .i64 0)) (a := ⟨w.heap.size + 1, 1, none⟩) (by show w.heap.size + 1 < w.heap.size + 2; omega) (.int .i64 0)) (a := ⟨w.heap.size + 1, 2, none⟩) (by show w.heap.size + 1 < w.heap.size + 2; omega) (.slice none 0 0))
      obtain ⟨V, hV⟩ : ∃ V, ((w5.setCell ⟨w.heap.size + 1, 0, none⟩ (.int .i64 0)).setCell ⟨w.heap.size + 1, 1, none⟩ (.int .i64 0)).setCell ⟨w.heap.size + 1, 2, none⟩ (.slice none 0 0) = V := ⟨_, rfl⟩
      have z0 : V.cell? ⟨w.heap.size + 1, 0, none⟩ = some (.int .i64 0) := by rw [← hV]; simp [go_sem, y0]
      have z1 : V.cell? ⟨w.heap.size + 1, 1, none⟩ = some (.int .i64 0) := by rw [← hV]; simp [go_sem, y1]
      have z2 : V.cell? ⟨w.heap.size + 1, 2, none⟩ = some (.slice none 0 0) := by rw [← hV]; simp [go_sem, y2]
      rw [hV] at HB HO
      try rw [hV]
      clear hV hb5
      go_wp2_with fail
      refine bodyPost_ret (v := .tuple #[.agg #[.int .i64 0, .int .i64 0, .slice none 0 0], .bool false]) ?_ rfl ⟨.slice none 0 0, by rw [HF.out.1, HF.out.2.1], by rw [HF.out.2.2]; exact own_base (by omega) HO.out, HB.out⟩
      simp [results, Try.results52, go_sem, z0, z1, z2]
    case pos =>
      obtain ⟨q, rfl, hq⟩ : ∃ q : Nat, k = (q : Int) ∧ q < N := ⟨k.toNat, by omega, by omega⟩
      have hh : ixB f n l (q : Int) = true := by unfold ixB; rw [hg, ← HN.out]; simp; omega
      have HF := Lib.hid (ixB_true hh)
      have Hlen : Hid (N - 1 = (less l q).length) := Lib.hid (by rw [less_len (by rw [← HN.out]; exact hq), ← HN.out])
      rw [Int.toNat_natCast] at HF
      rw [hh]
      have HPW := Lib.hid (fun (w3 : World) (h : CluesAt w3 (some ⟨gb, 0, none⟩) l) => pzWithout_any gb 0 l N cap q w3 HN hq hN6 hc (Lib.hid (clues_sat h HN.out)))
      have HPZ := Lib.hid (fun (w3 : World) a m c => pzWith_any f n (some ⟨gb, 0, none⟩) N cap a m c w3)
      clear hh hg
      go_enter Try.func52, Try.ntmps52
      go_wp2_with fail
      rw [HW.out]
      refine HI.out.mono ?_
      rintro e wa ⟨rfl, hb1⟩
      have x0 := cell_old hb1 x0
      have x1 := cell_old hb1 x1
      have x2 := cell_old hb1 x2
      have y0 := cell_old hb1 y0
      have y1 := cell_old hb1 y1
      have y2 := cell_old hb1 y2
      have gy : ∀ j, wa.frozen? ⟨w.heap.size + 1, j, none⟩ = false := fun j => by rw [hb1.frozen (by show w.heap.size + 1 < W.heap.size; omega)]; exact gy j
      have Hca := Lib.hid (HcW.out.kept hb1)
      have HY0 := Lib.hid (And.intro y0 (And.intro y1 (And.intro y2 gy)))
      have Hb1 := Lib.hid hb1
      have hsa : w.heap.size + 2 ≤ wa.heap.size := by have := hb1.size; omega
      go_wp2_with fail
      refine (l1In_yes (q : Int) 0 ((N : Int) - 1) wa hin).mono ?_
      rintro e w6 ⟨rfl, rfl⟩
      clear y0 y1 y2 gy hb1
      go_wp2_with fail
      go_region_held3 (fun w' => w'.cell? ⟨w.heap.size, 0, none⟩ = some (.int .i64 f) ∧ w'.cell? ⟨w.heap.size, 1, none⟩ = some (.int .i64 n) ∧ w'.cell? ⟨w.heap.size, 2, none⟩ = some (.slice (some ⟨gb, 0, none⟩) N cap))
        (first
          | exact ⟨x0, x1, x2⟩
          | go_keep
          | (go_split_ands
             refine ⟨?_, ?_, ?_⟩
             all_goals first | assumption | exact cell_old hb4 (by assumption) | exact cell_old hb5 (by assumption))
          | (go_split_ands
             refine ⟨?_, ?_, ?_⟩
             all_goals (simp [go_sem, *]; done)))
        (first
          | (go_at_call 85; (with_reducible refine (HPW.out wa.drew (Hca.out.kept (Below.refl _ _).drew)).mono ?_); rintro e w4 ⟨v4, rfl, own4, hb4⟩; obtain ⟨a4, c4, rfl, _⟩ := kown_shape own4 Hlen.out)
          | (go_at_call 88; (with_reducible refine (HPZ.out w4 a4 (N - 1) c4).mono ?_); rintro e w5 ⟨rfl, hb5⟩; have hbw : Below wa.heap.size wa w5 := (Below.refl wa.heap.size wa).drew.trans (hb4.trans (hb5.mono hb4.size)); have y0 := cell_old hbw HY0.out.1; have y1 := cell_old hbw HY0.out.2.1; have y2 := cell_old hbw HY0.out.2.2.1; have gy : ∀ j, w5.frozen? ⟨w.heap.size + 1, j, none⟩ = false := (fun j => by rw [hbw.frozen (by show w.heap.size + 1 < wa.heap.size; omega)]; exact HY0.out.2.2.2 j))
          | fail)
      all_goals (
        have Own5 : Hid (w5.ownsRow (w.heap.size + 2) 25 4 (.slice a4 (N - 1) c4) (N - 1) (ks (less l q))) := Lib.hid (own_base hsa (own_later own4 hb5))
        have hb5 : Below w.heap.size w w5 := HbW.out.trans ((Hb1.out.trans (hbw.mono Hb1.out.size)).mono HbW.out.size)
        clear own4 hb4 hbw
        have HB := Lib.hid (((hb5.setCell (p := ⟨w.heap.size + 1, 0, none⟩) (by show w.heap.size ≤ w.heap.size + 1; omega) (.int .i64 f)).setCell (p := ⟨w.heap.size + 1, 1, none⟩) (by show w.heap.size ≤ w.heap.size + 1; omega) (.int .i64 n)).setCell (p := ⟨w.heap.size + 1, 2, none⟩) (by show w.heap.size ≤ w.heap.size + 1; omega) (.slice a4 (N - 1) c4))
        have HO := Lib.hid (ownsRow_setCell_below (ownsRow_setCell_below (ownsRow_setCell_below Own5.out (a := ⟨w.heap.size + 1, 0, none⟩) (by show w.heap.size + 1 < w.heap.size + 2; omega) (.int .i64 f)) (a := ⟨w.heap.size + 1, 1, none⟩) (by show w.heap.size + 1 < w.heap.size + 2; omega) (.int .i64 n)) (a := ⟨w.heap.size + 1, 2, none⟩) (by show w.heap.size + 1 < w.heap.size + 2; omega) (.slice a4 (N - 1) c4))
        obtain ⟨V, hV⟩ : ∃ V, ((w5.setCell ⟨w.heap.size + 1, 0, none⟩ (.int .i64 f)).setCell ⟨w.heap.size + 1, 1, none⟩ (.int .i64 n)).setCell ⟨w.heap.size + 1, 2, none⟩ (.slice a4 (N - 1) c4) = V := ⟨_, rfl⟩
        have z0 : V.cell? ⟨w.heap.size + 1, 0, none⟩ = some (.int .i64 f) := by rw [← hV]; simp [go_sem, y0]
        have z1 : V.cell? ⟨w.heap.size + 1, 1, none⟩ = some (.int .i64 n) := by rw [← hV]; simp [go_sem, y1]
        have z2 : V.cell? ⟨w.heap.size + 1, 2, none⟩ = some (.slice a4 (N - 1) c4) := by rw [← hV]; simp [go_sem, y2]
        rw [hV] at HB HO
        have HO2 : Hid (V.ownsRow (w.heap.size + 2) 25 4 (.slice a4 (N - 1) c4) (less l q).length (ks (less l q))) := Lib.hid (by have h := HO.out; rw [← Hlen.out]; exact h)
        try rw [hV]
        clear hV hb5
        go_wp2_with fail
        refine bodyPost_ret (v := .tuple #[.agg #[.int .i64 f, .int .i64 n, .slice a4 (N - 1) c4], .bool true]) ?_ rfl ⟨.slice a4 (N - 1) c4, by rw [HF.out.1, HF.out.2.1], by rw [HF.out.2.2]; exact own_base (by omega) HO2.out, HB.out⟩
        simp [results, Try.results52, go_sem, z0, z1, z2])

end Go.Proofs.Ytmgmkgjefplfdaa
