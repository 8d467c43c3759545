/- DropClue by the program. -/
import Derived.Test.YtmgmkgjefplfdaaDrp
import Derived.Test.YtmgmkgjefplfdaaWo
import Derived.Test.YtmgmkgjefplfdaaRc
namespace Go.Proofs.Ytmgmkgjefplfdaa
open Go.ChangeShapes Go.WideShapes Go.ChangeAt Go.RowKit
set_option linter.unusedVariables false


/-- Whether there is a clue with an index. -/
def ixB (f n : Int) (l : List Clu) (k : Int) : Bool := goodB f n l && (decide (0 ≤ k) && decide (k < (l.length : Int)))
def dcF (f n : Int) (l : List Clu) (k : Int) : Int := if ixB f n l k then f else 0
def dcG (f n : Int) (l : List Clu) (k : Int) : Int := if ixB f n l k then n else 0
def dcL (f n : Int) (l : List Clu) (k : Int) : List Clu := if ixB f n l k then less l k.toNat else []
theorem good_len6 {f n : Int} {l : List Clu} (h : goodB f n l = true) : l.length ≤ 6 := by
  simp only [goodB, Bool.and_eq_true, decide_eq_true_eq] at h
  exact h.2.1
theorem dcL_len (f n : Int) (l : List Clu) (k : Int) : (dcL f n l k).length ≤ 1048576 := by
  unfold dcL
  split
  · rename_i h
    have hg : goodB f n l = true := by unfold ixB at h; simp at h; exact h.1
    have h6 := good_len6 hg
    simp [less]; omega
  · simp
theorem ixB_false {f n : Int} {l : List Clu} {k : Int} (h : ixB f n l k = false) : dcF f n l k = 0 ∧ dcG f n l k = 0 ∧ dcL f n l k = [] := by simp [dcF, dcG, dcL, h]
theorem ixB_true {f n : Int} {l : List Clu} {k : Int} (h : ixB f n l k = true) : dcF f n l k = f ∧ dcG f n l k = n ∧ dcL f n l k = less l k.toNat := by simp [dcF, dcG, dcL, h]
set_option maxRecDepth 20000 in
theorem hasClue_any (w : World) (f n : Int) (gb : Nat) (cap : Nat) (l : List Clu) (N : Nat) (k : Int) (HN : Hid (N = l.length)) (hN : N ≤ 1048576) (hc : N ≤ cap) (Hc : CluesAt w (some ⟨gb, 0, none⟩) l) :
    Calls Try.prog 89 #[.agg #[.int .i64 f, .int .i64 n, .slice (some ⟨gb, 0, none⟩) N cap], .int .i64 k] w fun e w' => e = .returned (.bool (ixB f n l k)) ∧ Below w.heap.size w w' := by
  obtain ⟨W0, hW, hbW, hsW, rX⟩ := box1 w #[.int .i64 f, .int .i64 n, .slice (some ⟨gb, 0, none⟩) N cap] 35
  have HW := Lib.hid hW
  have HX := Lib.hid rX
  have HbW := Lib.hid hbW
  have Hc0 := Lib.hid (Hc.kept hbW)
  have c0 : W0.cell? ⟨w.heap.size, 0, none⟩ = some (.int .i64 f) := cell_of_row _ _ _ _ _ _ rX
  have c1 : W0.cell? ⟨w.heap.size, 1, none⟩ = some (.int .i64 n) := cell_of_row _ _ _ _ _ _ rX
  have c2 : W0.cell? ⟨w.heap.size, 2, none⟩ = some (.slice (some ⟨gb, 0, none⟩) N cap) := cell_of_row _ _ _ _ _ _ rX
  clear hW rX hbW Hc
  have HI := Lib.hid (implIsPuzzle_any W0 f n (some ⟨gb, 0, none⟩) cap l N HN hN hc Hc0.out)
  cases hg : goodB f n l
  · have HH : Hid (ixB f n l k = false) := Lib.hid (by unfold ixB; rw [hg]; rfl)
    rw [hg] at HI
    clear hg c0 c1
    go_enter Try.func89, Try.ntmps89
    go_wp2_with fail
    rw [HW.out]
    refine HI.out.mono ?_
    rintro e w1 ⟨rfl, hb1⟩
    have HB := Lib.hid (HbW.out.trans (hb1.mono HbW.out.size))
    clear hb1
    go_wp2_with fail
    go_ret
    exact ⟨by rw [HH.out]; rfl, HB.out⟩
  · rw [hg] at HI
    by_cases h0 : 0 ≤ k
    · have h0d : decide ((0 : Int) ≤ k) = true := by simpa using h0
      by_cases h1 : k < (N : Int)
      · have h1d : decide (k < (N : Int)) = true := by simpa using h1
        have HH : Hid (ixB f n l k = true) := Lib.hid (by unfold ixB; rw [hg, ← HN.out]; simp; omega)
        clear hg
        go_enter Try.func89, Try.ntmps89
        go_wp2_with fail
        rw [HW.out]
        refine HI.out.mono ?_
        rintro e w1 ⟨rfl, hb1⟩
        have HB := Lib.hid (HbW.out.trans (hb1.mono HbW.out.size))
        have c2 := cell_old hb1 c2
        clear hb1
        go_wp2_with fail
        go_ret
        exact ⟨by rw [HH.out]; rfl, HB.out⟩
      · have h1d : decide (k < (N : Int)) = false := by simpa using h1
        have HH : Hid (ixB f n l k = false) := Lib.hid (by unfold ixB; rw [hg, ← HN.out]; simp; omega)
        clear hg
        go_enter Try.func89, Try.ntmps89
        go_wp2_with fail
        rw [HW.out]
        refine HI.out.mono ?_
        rintro e w1 ⟨rfl, hb1⟩
        have HB := Lib.hid (HbW.out.trans (hb1.mono HbW.out.size))
        have c2 := cell_old hb1 c2
        clear hb1
        go_wp2_with fail
        go_ret
        exact ⟨by rw [HH.out]; rfl, HB.out⟩
    · have h0d : decide ((0 : Int) ≤ k) = false := by simpa using h0
      have HH : Hid (ixB f n l k = false) := Lib.hid (by unfold ixB; rw [hg]; simp; omega)
      clear hg
      go_enter Try.func89, Try.ntmps89
      go_wp2_with fail
      rw [HW.out]
      refine HI.out.mono ?_
      rintro e w1 ⟨rfl, hb1⟩
      have HB := Lib.hid (HbW.out.trans (hb1.mono HbW.out.size))
      clear hb1
      go_wp2_with fail
      go_ret
      exact ⟨by rw [HH.out]; rfl, HB.out⟩
set_option maxHeartbeats 1600000 in
set_option maxRecDepth 20000 in
theorem implDC_any (w : World) (f n : Int) (gb : Nat) (cap : Nat) (l : List Clu) (N : Nat) (k : Int) (HN : Hid (N = l.length)) (hN : N ≤ 1048576) (hc : N ≤ cap) (Hc : CluesAt w (some ⟨gb, 0, none⟩) l) :
    Calls Try.prog 53 #[.agg #[.int .i64 f, .int .i64 n, .slice (some ⟨gb, 0, none⟩) N cap], .int .i64 k] w fun e w' => ∃ v, e = .returned (.tuple #[.agg #[.int .i64 (dcF f n l k), .int .i64 (dcG f n l k), v], .bool (ixB f n l k)]) ∧ w'.ownsRow w.heap.size 25 4 v (dcL f n l k).length (ks (dcL f n l k)) ∧ Below w.heap.size w w' := by
  obtain ⟨W, hW, hbW, hsW, rX, rY⟩ := box2 w #[.int .i64 f, .int .i64 n, .slice (some ⟨gb, 0, none⟩) N cap] 35 #[.int .i64 0, .int .i64 0, .slice none 0 0] 35
  have HW := Lib.hid hW
  have HbW := Lib.hid hbW
  have HcW := Lib.hid (Hc.kept hbW)
  have x0 : W.cell? ⟨w.heap.size, 0, none⟩ = some (.int .i64 f) := cell_of_row _ _ _ _ _ _ rX
  have x1 : W.cell? ⟨w.heap.size, 1, none⟩ = some (.int .i64 n) := cell_of_row _ _ _ _ _ _ rX
  have x2 : W.cell? ⟨w.heap.size, 2, none⟩ = some (.slice (some ⟨gb, 0, none⟩) N cap) := cell_of_row _ _ _ _ _ _ rX
  have y0 : W.cell? ⟨w.heap.size + 1, 0, none⟩ = some (.int .i64 0) := cell_of_row _ _ _ _ _ _ rY
  have y1 : W.cell? ⟨w.heap.size + 1, 1, none⟩ = some (.int .i64 0) := cell_of_row _ _ _ _ _ _ rY
  have y2 : W.cell? ⟨w.heap.size + 1, 2, none⟩ = some (.slice none 0 0) := cell_of_row _ _ _ _ _ _ rY
  have gy : ∀ j, W.frozen? ⟨w.heap.size + 1, j, none⟩ = false := fun j => frozen_of_row _ _ _ _ _ rY
  clear hW rX rY hbW Hc
  have HI := Lib.hid (hasClue_any W f n gb cap l N k HN hN hc HcW.out)
  cases hh : ixB f n l k
  · have HH := Lib.hid hh
    have HF := Lib.hid (ixB_false hh)
    rw [hh] at HI
    clear hh
    go_enter Try.func53, Try.ntmps53
    go_wp2_with fail
    rw [HW.out]
    refine HI.out.mono ?_
    rintro e w5 ⟨rfl, hb1⟩
    have x0 := cell_old hb1 x0
    have x1 := cell_old hb1 x1
    have x2 := cell_old hb1 x2
    have y0 := cell_old hb1 y0
    have y1 := cell_old hb1 y1
    have y2 := cell_old hb1 y2
    have gy : ∀ j, w5.frozen? ⟨w.heap.size + 1, j, none⟩ = false := fun j => by rw [hb1.frozen (by show w.heap.size + 1 < W.heap.size; omega)]; exact gy j
    have hb5 := HbW.out.trans (hb1.mono HbW.out.size)
    have Own0 : Hid (w5.ownsRow (w.heap.size + 2) 25 4 (.slice none 0 0) 0 (ks [])) := Lib.hid (World.ownsRow_nil _ _ _ _)
    clear hb1
    go_wp2_with fail
    have HB := Lib.hid (((hb5.setCell (p := ⟨w.heap.size + 1, 0, none⟩) (by show w.heap.size ≤ w.heap.size + 1; omega) (.int .i64 0)).setCell (p := ⟨w.heap.size + 1, 1, none⟩) (by show w.heap.size ≤ w.heap.size + 1; omega) (.int .i64 0)).setCell (p := ⟨w.heap.size + 1, 2, none⟩) (by show w.heap.size ≤ w.heap.size + 1; omega) (.slice none 0 0))
    have HO := Lib.hid (ownsRow_setCell_below (ownsRow_setCell_below (ownsRow_setCell_below Own0.out (a := ⟨w.heap.size + 1, 0, none⟩) (by show w.heap.size + 1 < w.heap.size + 2; omega) (.int .i64 0)) (a := ⟨w.heap.size + 1, 1, none⟩) (by show w.heap.size + 1 < w.heap.size + 2; omega) (.int .i64 0)) (a := ⟨w.heap.size + 1, 2, none⟩) (by show w.heap.size + 1 < w.heap.size + 2; omega) (.slice none 0 0))
    obtain ⟨V, hV⟩ : ∃ V, ((w5.setCell ⟨w.heap.size + 1, 0, none⟩ (.int .i64 0)).setCell ⟨w.heap.size + 1, 1, none⟩ (.int .i64 0)).setCell ⟨w.heap.size + 1, 2, none⟩ (.slice none 0 0) = V := ⟨_, rfl⟩
    have z0 : V.cell? ⟨w.heap.size + 1, 0, none⟩ = some (.int .i64 0) := by rw [← hV]; simp [go_sem, y0]
    have z1 : V.cell? ⟨w.heap.size + 1, 1, none⟩ = some (.int .i64 0) := by rw [← hV]; simp [go_sem, y1]
    have z2 : V.cell? ⟨w.heap.size + 1, 2, none⟩ = some (.slice none 0 0) := by rw [← hV]; simp [go_sem, y2]
    rw [hV] at HB HO
    try rw [hV]
    clear hV hb5
    go_wp2_with fail
    refine bodyPost_ret (v := .tuple #[.agg #[.int .i64 0, .int .i64 0, .slice none 0 0], .bool false]) ?_ rfl ⟨.slice none 0 0, by rw [HF.out.1, HF.out.2.1], by rw [HF.out.2.2]; exact own_base (by omega) HO.out, HB.out⟩
    simp [results, Try.results53, go_sem, z0, z1, z2]
  · have HH := Lib.hid hh
    have HF := Lib.hid (ixB_true hh)
    have hg : goodB f n l = true := by unfold ixB at hh; simp at hh; exact hh.1
    obtain ⟨q, rfl, hq⟩ : ∃ q : Nat, k = (q : Int) ∧ q < N := by
      unfold ixB at hh
      rw [← HN.out] at hh
      simp at hh
      exact ⟨k.toNat, by omega, by omega⟩
    have hN6 : N ≤ 6 := by rw [HN.out]; exact good_len6 hg
    have Hlen : Hid (N - 1 = (less l q).length) := Lib.hid (by rw [less_len (by rw [← HN.out]; exact hq), ← HN.out])
    rw [Int.toNat_natCast] at HF
    rw [hh] at HI
    clear hh hg
    go_enter Try.func53, Try.ntmps53
    go_wp2_with fail
    rw [HW.out]
    refine HI.out.mono ?_
    rintro e w4 ⟨rfl, hb1⟩
    have x0 := cell_old hb1 x0
    have x1 := cell_old hb1 x1
    have x2 := cell_old hb1 x2
    have y0 := cell_old hb1 y0
    have y1 := cell_old hb1 y1
    have y2 := cell_old hb1 y2
    have gy : ∀ j, w4.frozen? ⟨w.heap.size + 1, j, none⟩ = false := fun j => by rw [hb1.frozen (by show w.heap.size + 1 < W.heap.size; omega)]; exact gy j
    have Hc4 := Lib.hid (clues_sat (HcW.out.kept hb1) HN.out)
    go_wp2_with fail
    refine (drop_any f n gb 0 l N cap q w4 HN hq hN6 hc Hc4).mono ?_
    rintro e w5 ⟨v5, rfl, own5, hb2⟩
    obtain ⟨a5, c5, rfl, _⟩ := kown_shape own5 Hlen.out
    have hbb : Below W.heap.size W w5 := hb1.trans (hb2.mono hb1.size)
    have y0 := cell_old hb2 y0
    have y1 := cell_old hb2 y1
    have y2 := cell_old hb2 y2
    have gy2 : ∀ j, w5.frozen? ⟨w.heap.size + 1, j, none⟩ = false := fun j => by rw [hb2.frozen (by show w.heap.size + 1 < w4.heap.size; have := hb1.size; omega)]; exact gy j
    have hb5 := HbW.out.trans (hbb.mono HbW.out.size)
    have Own5 : Hid (w5.ownsRow (w.heap.size + 2) 25 4 (.slice a5 (N - 1) c5) (N - 1) (ks (less l q))) := Lib.hid (own_base (by have := hb1.size; omega) own5)
    clear hb1 hb2 hbb own5 x0 x1 x2 gy
    go_wp2_with fail
    have HB := Lib.hid (((hb5.setCell (p := ⟨w.heap.size + 1, 0, none⟩) (by show w.heap.size ≤ w.heap.size + 1; omega) (.int .i64 f)).setCell (p := ⟨w.heap.size + 1, 1, none⟩) (by show w.heap.size ≤ w.heap.size + 1; omega) (.int .i64 n)).setCell (p := ⟨w.heap.size + 1, 2, none⟩) (by show w.heap.size ≤ w.heap.size + 1; omega) (.slice a5 (N - 1) c5))
    have HO := Lib.hid (ownsRow_setCell_below (ownsRow_setCell_below (ownsRow_setCell_below Own5.out (a := ⟨w.heap.size + 1, 0, none⟩) (by show w.heap.size + 1 < w.heap.size + 2; omega) (.int .i64 f)) (a := ⟨w.heap.size + 1, 1, none⟩) (by show w.heap.size + 1 < w.heap.size + 2; omega) (.int .i64 n)) (a := ⟨w.heap.size + 1, 2, none⟩) (by show w.heap.size + 1 < w.heap.size + 2; omega) (.slice a5 (N - 1) c5))
    obtain ⟨V, hV⟩ : ∃ V, ((w5.setCell ⟨w.heap.size + 1, 0, none⟩ (.int .i64 f)).setCell ⟨w.heap.size + 1, 1, none⟩ (.int .i64 n)).setCell ⟨w.heap.size + 1, 2, none⟩ (.slice a5 (N - 1) c5) = V := ⟨_, rfl⟩
    have z0 : V.cell? ⟨w.heap.size + 1, 0, none⟩ = some (.int .i64 f) := by rw [← hV]; simp [go_sem, y0]
    have z1 : V.cell? ⟨w.heap.size + 1, 1, none⟩ = some (.int .i64 n) := by rw [← hV]; simp [go_sem, y1]
    have z2 : V.cell? ⟨w.heap.size + 1, 2, none⟩ = some (.slice a5 (N - 1) c5) := by rw [← hV]; simp [go_sem, y2]
    rw [hV] at HB HO
    have HO2 : Hid (V.ownsRow (w.heap.size + 2) 25 4 (.slice a5 (N - 1) c5) (less l q).length (ks (less l q))) := Lib.hid (by have h := HO.out; rw [← Hlen.out]; exact h)
    try rw [hV]
    clear hV hb5
    go_wp2_with fail
    refine bodyPost_ret (v := .tuple #[.agg #[.int .i64 f, .int .i64 n, .slice a5 (N - 1) c5], .bool true]) ?_ rfl ⟨.slice a5 (N - 1) c5, by rw [HF.out.1, HF.out.2.1], by rw [HF.out.2.2]; exact own_base (by omega) HO2.out, HB.out⟩
    simp [results, Try.results53, go_sem, z0, z1, z2]

end Go.Proofs.Ytmgmkgjefplfdaa
