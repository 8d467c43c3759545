/- MakePuzzle by the model. -/
import Derived.Test.YtmgmkgjefplfdaaMkq
namespace Go.Proofs.Ytmgmkgjefplfdaa
open Go.ChangeShapes Go.WideShapes Go.ChangeAt Go.RowKit
set_option linter.unusedVariables false

set_option maxHeartbeats 1600000 in
set_option maxRecDepth 20000 in
theorem specMk_no (w : World) (f : Int) (ao : Option Addr) (cap : Nat) (l : List (Int × Int)) (n : Nat) (q z : Int) (Hn : Hid (n = l.length)) (hs : n ≤ 1048576) (hcap : n ≤ cap) (Hc : CallsAt w ao l) (hh : mkB f l q z = false) :
    Calls Try.prog 63 #[.int .i64 f, .slice ao n cap, .int .i64 q, .int .i64 z] w fun e w' => ∃ v, e = .returned (.tuple #[.agg #[.int .i64 (mkF f l q z), .int .i64 (mkG f l q z), v], .bool (mkB f l q z)]) ∧ w'.ownsRow w.heap.size 25 4 v (mkL f l q z).length (ks (mkL f l q z)) ∧ Below w.heap.size w w' := by
  obtain ⟨W, hW, hbW, hsW, rY⟩ := box1 w #[.int .i64 0, .int .i64 0, .slice none 0 0] 35
  have HW := Lib.hid hW
  have HbW := Lib.hid hbW
  have HcW := Lib.hid (Hc.kept hbW)
  have HRY := Lib.hid rY
  have HI := Lib.hid (pzHidden_any f ao cap l n W Hn hs HcW)
  have HF := Lib.hid (mkB_false hh)
  clear hW rY hbW Hc
  cases hg : hidB f l
  · rw [hg] at HI
    rw [hh]
    clear hh hg
    go_enter Try.func63, Try.ntmps63
    go_wp2_with fail
    rw [HW.out]
    refine HI.out.mono ?_
    rintro e w5 ⟨rfl, hb1⟩
    have y0 : w5.cell? ⟨w.heap.size, 0, none⟩ = some (.int .i64 0) := cell_of_row _ _ _ _ _ _ (row_later HRY.out hb1)
    have y1 : w5.cell? ⟨w.heap.size, 1, none⟩ = some (.int .i64 0) := cell_of_row _ _ _ _ _ _ (row_later HRY.out hb1)
    have y2 : w5.cell? ⟨w.heap.size, 2, none⟩ = some (.slice none 0 0) := cell_of_row _ _ _ _ _ _ (row_later HRY.out hb1)
    have gy : ∀ j, w5.frozen? ⟨w.heap.size, j, none⟩ = false := fun j => frozen_of_row _ _ _ _ _ (row_later HRY.out hb1)
    have hb5 := HbW.out.trans (hb1.mono HbW.out.size)
    have Own0 : Hid (w5.ownsRow (w.heap.size + 1) 25 4 (.slice none 0 0) 0 (ks [])) := Lib.hid (World.ownsRow_nil _ _ _ _)
    clear hb1
    have HB := Lib.hid (((hb5.setCell (p := ⟨w.heap.size, 0, none⟩) (Nat.le_refl _) (.int .i64 0)).setCell (p := ⟨w.heap.size, 1, none⟩) (Nat.le_refl _) (.int .i64 0)).setCell (p := ⟨w.heap.size, 2, none⟩) (Nat.le_refl _) (.slice none 0 0))
    have HO := Lib.hid (ownsRow_setCell_below (ownsRow_setCell_below (ownsRow_setCell_below Own0.out (a := ⟨w.heap.size, 0, none⟩) (by show w.heap.size < w.heap.size + 1; omega) (.int .i64 0)) (a := ⟨w.heap.size, 1, none⟩) (by show w.heap.size < w.heap.size + 1; omega) (.int .i64 0)) (a := ⟨w.heap.size, 2, none⟩) (by show w.heap.size < w.heap.size + 1; omega) (.slice none 0 0))
    obtain ⟨V_, hV⟩ : ∃ V_, ((w5.setCell ⟨w.heap.size, 0, none⟩ (.int .i64 0)).setCell ⟨w.heap.size, 1, none⟩ (.int .i64 0)).setCell ⟨w.heap.size, 2, none⟩ (.slice none 0 0) = V_ := ⟨_, rfl⟩
    have z0 : V_.cell? ⟨w.heap.size, 0, none⟩ = some (.int .i64 0) := by rw [← hV]; simp [go_sem, y0]
    have z1 : V_.cell? ⟨w.heap.size, 1, none⟩ = some (.int .i64 0) := by rw [← hV]; simp [go_sem, y1]
    have z2 : V_.cell? ⟨w.heap.size, 2, none⟩ = some (.slice none 0 0) := by rw [← hV]; simp [go_sem, y2]
    rw [hV] at HB HO
    have HVV := Lib.hid hV
    clear hV hb5
    go_wp2_with fail
    try rw [HVV.out]
    refine bodyPost_ret (v := .tuple #[.agg #[.int .i64 0, .int .i64 0, .slice none 0 0], .bool false]) ?_ rfl ⟨.slice none 0 0, by rw [HF.out.1, HF.out.2.1], by rw [HF.out.2.2]; exact own_base (by omega) HO.out, HB.out⟩
    simp [results, Try.results63, go_sem, z0, z1, z2]
  · rw [hg] at HI
    have hqz : ¬ ((0 ≤ q ∧ q ≤ 6) ∧ (0 ≤ z ∧ z ≤ 9999)) := by
      intro h
      unfold mkB at hh
      rw [hg] at hh
      simp [inB] at hh
      omega
    rw [hh]
    clear hh hg
    by_cases h1 : 0 ≤ q ∧ q ≤ 6
    · have h2 : ¬ (0 ≤ z ∧ z ≤ 9999) := fun h => hqz ⟨h1, h⟩
      clear hqz
      go_enter Try.func63, Try.ntmps63
      go_wp2_with fail
      rw [HW.out]
      refine HI.out.mono ?_
      rintro e w5 ⟨rfl, hb1⟩
      go_wp2_with fail
      refine (l1In_yes q 0 6 w5 h1).mono ?_
      rintro e w6 ⟨rfl, rfl⟩
      go_wp2_with fail
      refine (l1In_no z 0 9999 w5 h2).mono ?_
      rintro e w6 ⟨rfl, rfl⟩
      clear h1 h2
      have y0 : w5.cell? ⟨w.heap.size, 0, none⟩ = some (.int .i64 0) := cell_of_row _ _ _ _ _ _ (row_later HRY.out hb1)
      have y1 : w5.cell? ⟨w.heap.size, 1, none⟩ = some (.int .i64 0) := cell_of_row _ _ _ _ _ _ (row_later HRY.out hb1)
      have y2 : w5.cell? ⟨w.heap.size, 2, none⟩ = some (.slice none 0 0) := cell_of_row _ _ _ _ _ _ (row_later HRY.out hb1)
      have gy : ∀ j, w5.frozen? ⟨w.heap.size, j, none⟩ = false := fun j => frozen_of_row _ _ _ _ _ (row_later HRY.out hb1)
      have hb5 := HbW.out.trans (hb1.mono HbW.out.size)
      have Own0 : Hid (w5.ownsRow (w.heap.size + 1) 25 4 (.slice none 0 0) 0 (ks [])) := Lib.hid (World.ownsRow_nil _ _ _ _)
      clear hb1
      have HB := Lib.hid (((hb5.setCell (p := ⟨w.heap.size, 0, none⟩) (Nat.le_refl _) (.int .i64 0)).setCell (p := ⟨w.heap.size, 1, none⟩) (Nat.le_refl _) (.int .i64 0)).setCell (p := ⟨w.heap.size, 2, none⟩) (Nat.le_refl _) (.slice none 0 0))
      have HO := Lib.hid (ownsRow_setCell_below (ownsRow_setCell_below (ownsRow_setCell_below Own0.out (a := ⟨w.heap.size, 0, none⟩) (by show w.heap.size < w.heap.size + 1; omega) (.int .i64 0)) (a := ⟨w.heap.size, 1, none⟩) (by show w.heap.size < w.heap.size + 1; omega) (.int .i64 0)) (a := ⟨w.heap.size, 2, none⟩) (by show w.heap.size < w.heap.size + 1; omega) (.slice none 0 0))
      obtain ⟨V_, hV⟩ : ∃ V_, ((w5.setCell ⟨w.heap.size, 0, none⟩ (.int .i64 0)).setCell ⟨w.heap.size, 1, none⟩ (.int .i64 0)).setCell ⟨w.heap.size, 2, none⟩ (.slice none 0 0) = V_ := ⟨_, rfl⟩
      have z0 : V_.cell? ⟨w.heap.size, 0, none⟩ = some (.int .i64 0) := by rw [← hV]; simp [go_sem, y0]
      have z1 : V_.cell? ⟨w.heap.size, 1, none⟩ = some (.int .i64 0) := by rw [← hV]; simp [go_sem, y1]
      have z2 : V_.cell? ⟨w.heap.size, 2, none⟩ = some (.slice none 0 0) := by rw [← hV]; simp [go_sem, y2]
      rw [hV] at HB HO
      have HVV := Lib.hid hV
      clear hV hb5
      go_wp2_with fail
      try rw [HVV.out]
      refine bodyPost_ret (v := .tuple #[.agg #[.int .i64 0, .int .i64 0, .slice none 0 0], .bool false]) ?_ rfl ⟨.slice none 0 0, by rw [HF.out.1, HF.out.2.1], by rw [HF.out.2.2]; exact own_base (by omega) HO.out, HB.out⟩
      simp [results, Try.results63, go_sem, z0, z1, z2]
    · clear hqz
      go_enter Try.func63, Try.ntmps63
      go_wp2_with fail
      rw [HW.out]
      refine HI.out.mono ?_
      rintro e w5 ⟨rfl, hb1⟩
      go_wp2_with fail
      refine (l1In_no q 0 6 w5 h1).mono ?_
      rintro e w6 ⟨rfl, rfl⟩
      clear h1
      have y0 : w5.cell? ⟨w.heap.size, 0, none⟩ = some (.int .i64 0) := cell_of_row _ _ _ _ _ _ (row_later HRY.out hb1)
      have y1 : w5.cell? ⟨w.heap.size, 1, none⟩ = some (.int .i64 0) := cell_of_row _ _ _ _ _ _ (row_later HRY.out hb1)
      have y2 : w5.cell? ⟨w.heap.size, 2, none⟩ = some (.slice none 0 0) := cell_of_row _ _ _ _ _ _ (row_later HRY.out hb1)
      have gy : ∀ j, w5.frozen? ⟨w.heap.size, j, none⟩ = false := fun j => frozen_of_row _ _ _ _ _ (row_later HRY.out hb1)
      have hb5 := HbW.out.trans (hb1.mono HbW.out.size)
      have Own0 : Hid (w5.ownsRow (w.heap.size + 1) 25 4 (.slice none 0 0) 0 (ks [])) := Lib.hid (World.ownsRow_nil _ _ _ _)
      clear hb1
      have HB := Lib.hid (((hb5.setCell (p := ⟨w.heap.size, 0, none⟩) (Nat.le_refl _) (.int .i64 0)).setCell (p := ⟨w.heap.size, 1, none⟩) (Nat.le_refl _) (.int .i64 0)).setCell (p := ⟨w.heap.size, 2, none⟩) (Nat.le_refl _) (.slice none 0 0))
      have HO := Lib.hid (ownsRow_setCell_below (ownsRow_setCell_below (ownsRow_setCell_below Own0.out (a := ⟨w.heap.size, 0, none⟩) (by show w.heap.size < w.heap.size + 1; omega) (.int .i64 0)) (a := ⟨w.heap.size, 1, none⟩) (by show w.heap.size < w.heap.size + 1; omega) (.int .i64 0)) (a := ⟨w.heap.size, 2, none⟩) (by show w.heap.size < w.heap.size + 1; omega) (.slice none 0 0))
      obtain ⟨V_, hV⟩ : ∃ V_, ((w5.setCell ⟨w.heap.size, 0, none⟩ (.int .i64 0)).setCell ⟨w.heap.size, 1, none⟩ (.int .i64 0)).setCell ⟨w.heap.size, 2, none⟩ (.slice none 0 0) = V_ := ⟨_, rfl⟩
      have z0 : V_.cell? ⟨w.heap.size, 0, none⟩ = some (.int .i64 0) := by rw [← hV]; simp [go_sem, y0]
      have z1 : V_.cell? ⟨w.heap.size, 1, none⟩ = some (.int .i64 0) := by rw [← hV]; simp [go_sem, y1]
      have z2 : V_.cell? ⟨w.heap.size, 2, none⟩ = some (.slice none 0 0) := by rw [← hV]; simp [go_sem, y2]
      rw [hV] at HB HO
      have HVV := Lib.hid hV
      clear hV hb5
      go_wp2_with fail
      try rw [HVV.out]
      refine bodyPost_ret (v := .tuple #[.agg #[.int .i64 0, .int .i64 0, .slice none 0 0], .bool false]) ?_ rfl ⟨.slice none 0 0, by rw [HF.out.1, HF.out.2.1], by rw [HF.out.2.2]; exact own_base (by omega) HO.out, HB.out⟩
      simp [results, Try.results63, go_sem, z0, z1, z2]
set_option maxHeartbeats 1600000 in
set_option maxRecDepth 20000 in
theorem specMk_yes (w : World) (F : Nat) (ao : Option Addr) (cap : Nat) (l : List (Int × Int)) (n : Nat) (Q Z : Nat) (Hn : Hid (n = l.length)) (hs3 : n ≤ 3) (hcap : n ≤ cap) (Hc : CallsAt w ao l) (hh : mkB (F : Int) l (Q : Int) (Z : Int) = true) (hg : hidB (F : Int) l = true) (Hg : Hid (gdB (F : Int) l = true)) (hF : 2 ≤ F ∧ F ≤ 4) (hQ : Q ≤ 6) (hZ : Z ≤ 9999) :
    Calls Try.prog 63 #[.int .i64 (F : Int), .slice ao n cap, .int .i64 (Q : Int), .int .i64 (Z : Int)] w fun e w' => ∃ v, e = .returned (.tuple #[.agg #[.int .i64 (mkF (F : Int) l (Q : Int) (Z : Int)), .int .i64 (mkG (F : Int) l (Q : Int) (Z : Int)), v], .bool (mkB (F : Int) l (Q : Int) (Z : Int))]) ∧ w'.ownsRow w.heap.size 25 4 v (mkL (F : Int) l (Q : Int) (Z : Int)).length (ks (mkL (F : Int) l (Q : Int) (Z : Int))) ∧ Below w.heap.size w w' := by
  have HF := Lib.hid (mkB_true hh)
  rw [Int.toNat_natCast, Int.toNat_natCast, Int.toNat_natCast, ← Hn.out] at HF
  obtain ⟨i0, hi, hz0, hz1', hz2⟩ := info_parts infoCL
  obtain ⟨W, hW, hbW, hsW, rY⟩ := box1 w #[.int .i64 0, .int .i64 0, .slice none 0 0] 35
  have HW := Lib.hid hW
  have HbW := Lib.hid hbW
  have HcW := Lib.hid (Hc.kept hbW)
  have HRY := Lib.hid rY
  have HI := pzHidden_any (F : Int) ao cap l n W Hn (by omega) HcW
  rw [hg] at HI
  have HI := Lib.hid HI
  have d1 : (0 : Int) ≤ (Q : Int) ∧ (Q : Int) ≤ 6 := by omega
  have d2 : (0 : Int) ≤ (Z : Int) ∧ (Z : Int) ≤ 9999 := by omega
  obtain ⟨R, hR⟩ : ∃ R, mkA F l Z = R := ⟨_, rfl⟩
  obtain ⟨S, hS⟩ : ∃ S, zz Z = S := ⟨_, rfl⟩
  have HS0 : Hid (S 0 = Z) := Lib.hid (by rw [← hS]; rfl)
  have HSs : Hid (∀ k, S (k + 1) = nxN (nxN (S k))) := Lib.hid (fun k => by rw [← hS]; rfl)
  have HSl : Hid (∀ k, S k ≤ 10006) := Lib.hid (fun k => by rw [← hS]; exact zz_le (by omega) k)
  have HR0 : Hid (R 0 = []) := Lib.hid (by rw [← hR]; rfl)
  have HRs : Hid (∀ k, R (k + 1) = R k ++ [mkC F l (nxN (S k)) (S (k + 1))]) := Lib.hid (fun k => by rw [← hR, ← hS]; rfl)
  have HRl : Hid (∀ k, (R k).length = k) := Lib.hid (fun k => by rw [← hR]; exact mkA_len F l Z k)
  rw [hR] at HF
  rw [hh]
  clear hW rY hbW Hc hh hg hR hS
  go_enter Try.func63, Try.ntmps63
  go_wp2_with fail
  rw [HW.out]
  refine HI.out.mono ?_
  rintro e w1 ⟨rfl, hb1⟩
  go_wp2_with fail
  refine (l1In_yes (Q : Int) 0 6 w1 d1).mono ?_
  rintro e w6 ⟨rfl, rfl⟩
  go_wp2_with fail
  refine (l1In_yes (Z : Int) 0 9999 w1 d2).mono ?_
  rintro e w6 ⟨rfl, rfl⟩
  obtain ⟨wp, hwp, hbp, hsp, rP⟩ := box1 w1 #[.int .i64 (F : Int), .int .i64 (n : Int), .slice none 0 0] 35
  have HWP := Lib.hid hwp
  have HRP := Lib.hid rP
  have hs1 := hb1.size
  have HB1 := Lib.hid hb1
  have Hb1 := Lib.hid (hb1.trans (hbp.mono hb1.size))
  have Hbp := Lib.hid hbp
  have hw1 : w.heap.size < w1.heap.size := by omega
  clear hb1 hwp rP hbp d1 d2
  go_upto_region 4 with (fail)
  rw [HWP.out]
  go_wp2_with fail
  rw [← HS0.out]
  go_loopw [2, 11] (fun i z wr => ∃ k m : Nat, k + m = Q ∧ i = .int .i64 (m : Int) ∧ z = .int .i64 (S k : Int) ∧ ∃ v, wr.heap[w1.heap.size]? = some (.cells #[.int .i64 (F : Int), .int .i64 (n : Int), v] 35 (0, 0)) ∧ wr.ownsRow (w1.heap.size + 1) 25 4 v k (ks (R k)) ∧ Below w1.heap.size w1 wr) (fun i _ _ => (intOf i).toNat)
  case atStart => exact ⟨0, Q, by omega, rfl, rfl, _, HRP.out, by rw [HR0.out]; exact World.ownsRow_nil _ _ _ _, Hbp.out⟩
  case round =>
    obtain ⟨k, m, hk, rfl, rfl, v, hrow, hor, hbel⟩ := hrel
    have hsz := hbel.size
    by_cases hlt : 0 < m
    · have hz := HSl.out k
      have hnx := nxN_le (S k)
      have HSk := Lib.hid (HSs.out k)
      have HRk := Lib.hid (HRs.out k)
      have Hor := Lib.hid hor
      have Hrow := Lib.hid hrow
      have Hbel := Lib.hid hbel
      have hx0 : (0 : Int) ≤ ((nxN (S k) : Nat) : Int) := by omega
      have hlt2 : (0 : Int) < (m : Int) := by omega
      have hkQ : k < Q := by omega
      have hm6 : (m : Int) ≤ 6 := by omega
      have Hk := Lib.hid hk
      clear hor hrow hbel hk
      go_wp2_with fail
      refine (pzNext_any (S k) wr hz).mono ?_
      rintro e w' ⟨rfl, rfl⟩
      go_wp2_with fail
      refine (pzNext_any (nxN (S k)) wr hnx).mono ?_
      rintro e w' ⟨rfl, rfl⟩
      rw [← HSk.out]
      go_upto_region 10 with (fail)
      have c2 : wr.cell? ⟨w1.heap.size, 2, none⟩ = some v := cell_of_row _ _ _ _ _ _ Hrow.out
      have f2 : wr.frozen? ⟨w1.heap.size, 2, none⟩ = false := frozen_of_row _ _ _ _ _ Hrow.out
      have Hb1w := Lib.hid (HB1.out.trans (Hbel.out.mono hs1))
      have hz1 := HSl.out (k + 1)
      have HMC := fun (w3 : World) (h : CallsAt w3 ao l) => pzOf_any w3 F ao cap l n Hn hs3 hcap (Lib.hid h) Hg hF (nxN (S k)) (S (k + 1)) hz1
      obtain ⟨C, hC⟩ : ∃ C, mkC F l (nxN (S k)) (S (k + 1)) = C := ⟨_, rfl⟩
      rw [hC] at HMC HRk
      have HMC := Lib.hid HMC
      have Hcr := Lib.hid (HcW.out.kept Hb1w.out)
      clear hC
      have HLn : Hid (k + 1 = (R k ++ [C]).length) := Lib.hid (by rw [List.length_append, HRl.out k]; rfl)
      go_region_law (first
          | (refine step_go_call (by rfl) 97 _ (HMC.out wr.drew (Hcr.out.kept (Below.refl _ _).drew)) (by kernel_rfl) ?_; rintro e w4 ⟨rfl, hb4⟩; refine ⟨_, rfl, ?_⟩; have hb4r : Below wr.heap.size wr w4 := (Below.refl wr.heap.size wr).drew.trans hb4; have Hrow4 := Lib.hid (row_later Hrow.out hb4r); have c4 : w4.cell? ⟨w1.heap.size, 2, none⟩ = some v := cell_of_row _ _ _ _ _ _ Hrow4.out; have Ho5 := Lib.hid ((own_later Hor.out hb4r).alloc (.cells #[.int .i64 C.1, .int .i64 C.2.1, .int .i64 C.2.2.1, .int .i64 C.2.2.2] 25)); have Hr5 := Lib.hid (heap_alloc_new w4 (.cells #[.int .i64 C.1, .int .i64 C.2.1, .int .i64 C.2.2.1, .int .i64 C.2.2.2] 25)); have Hb5 := Lib.hid ((Hbel.out.trans (hb4r.mono hsz)).alloc (Nat.le_trans hsz hb4r.size) (.cells #[.int .i64 C.1, .int .i64 C.2.1, .int .i64 C.2.2.1, .int .i64 C.2.2.2] 25)); have hs5 := Hb5.out.size; have hs4 : w1.heap.size < w4.heap.size := World.block_lt_of_cell? w4 _ c4; clear hb4 hb4r)
          | (refine step_append_mine _ (by rfl) _ _ _ (by rfl) (w1.heap.size + 1) 25 i0 _ 4 32 Try.underlying33 hi hz0 hz1' hz2 rfl (by omega) _ k (ks (R k)) (by rfl) Ho5.out ⟨w4.heap.size, 0, none⟩ 1 1 [.int .i64 C.1, .int .i64 C.2.1, .int .i64 C.2.2.1, .int .i64 C.2.2.2] (by rfl) (by rfl) (World.news_of_block Hr5.out) (mkC_one C) (by unfold maxLen; omega) (by omega) (by simp; omega) ?_; intro v9 w9 own9 gr9; rw [show ks (R k) ++ [.int .i64 C.1, .int .i64 C.2.1, .int .i64 C.2.2.1, .int .i64 C.2.2.2] = ks (R k ++ [C]) by rw [ks_append]; rfl] at own9; obtain ⟨a9, cp9, rfl, _⟩ := kown_shape own9 HLn.out; have Hrow9 : Hid (w9.heap[w1.heap.size]? = some (.cells #[.int .i64 (F : Int), .int .i64 (n : Int), v] 35 (0, 0))) := Lib.hid (by rw [gr9.block _ (by simp; omega) (fun e => by have := (Ho5.out.lt _ e.symm).1; omega)]; rw [Below.heap_alloc _ _ _ hs4]; exact Hrow4.out); have c9 : w9.cell? ⟨w1.heap.size, 2, none⟩ = some v := cell_of_row _ _ _ _ _ _ Hrow9.out; have f9 : w9.frozen? ⟨w1.heap.size, 2, none⟩ = false := frozen_of_row _ _ _ _ _ Hrow9.out; have Hb9 := Lib.hid (Hb5.out.grown gr9 hs5 (fun bb hb => by have := (Ho5.out.lt bb hb).1; omega)); have Ho9 := Lib.hid own9; clear own9 gr9)
          | fail)
      all_goals (
        have HR2 := Lib.hid (row3_set Hrow9.out (.slice a9 (k + 1) cp9))
        have HO2 : Hid ((w9.setCell ⟨w1.heap.size, 2, none⟩ (.slice a9 (k + 1) cp9)).ownsRow (w1.heap.size + 1) 25 4 (.slice a9 (k + 1) cp9) (k + 1) (ks (R (k + 1)))) := Lib.hid (by rw [HRk.out]; exact own_far Ho9.out (fun kk hk => by have := (Ho9.out.lt kk hk).1; show kk ≠ w1.heap.size; omega))
        have HB2 := Lib.hid (Hb9.out.setCell (p := ⟨w1.heap.size, 2, none⟩) (Nat.le_refl _) (.slice a9 (k + 1) cp9))
        clear c2 f2 c4 c9 f9
        go_wp2_with fail
        go_roundw
        case rel => exact ⟨k + 1, m - 1, by have := Hk.out; omega, by go_num, rfl, _, HR2.out, HO2.out, HB2.out⟩
        case measure => simp [intOf]; omega)
    · obtain rfl : m = 0 := by omega
      obtain rfl : k = Q := by omega
      clear hk hlt
      have HK : Hid (k = (R k).length) := Lib.hid (HRl.out k).symm
      obtain ⟨V, C, rfl, _⟩ := own_lies hor HK.out
      have c0 : wr.cell? ⟨w1.heap.size, 0, none⟩ = some (.int .i64 (F : Int)) := cell_of_row _ _ _ _ _ _ hrow
      have c1 : wr.cell? ⟨w1.heap.size, 1, none⟩ = some (.int .i64 (n : Int)) := cell_of_row _ _ _ _ _ _ hrow
      have c2 : wr.cell? ⟨w1.heap.size, 2, none⟩ = some (.slice V k C) := cell_of_row _ _ _ _ _ _ hrow
      have Hb1w := Lib.hid (HB1.out.trans (hbel.mono hs1))
      have Own5 := Lib.hid (own_base (show w.heap.size + 1 ≤ w1.heap.size + 1 by omega) hor)
      have hb5 := HbW.out.trans (Hb1w.out.mono HbW.out.size)
      clear hor hrow hbel
      have y0 : wr.cell? ⟨w.heap.size, 0, none⟩ = some (.int .i64 0) := cell_of_row _ _ _ _ _ _ (row_later HRY.out Hb1w.out)
      have y1 : wr.cell? ⟨w.heap.size, 1, none⟩ = some (.int .i64 0) := cell_of_row _ _ _ _ _ _ (row_later HRY.out Hb1w.out)
      have y2 : wr.cell? ⟨w.heap.size, 2, none⟩ = some (.slice none 0 0) := cell_of_row _ _ _ _ _ _ (row_later HRY.out Hb1w.out)
      have gy : ∀ j, wr.frozen? ⟨w.heap.size, j, none⟩ = false := fun j => frozen_of_row _ _ _ _ _ (row_later HRY.out Hb1w.out)
      have HB := Lib.hid (((hb5.setCell (p := ⟨w.heap.size, 0, none⟩) (Nat.le_refl _) (.int .i64 (F : Int))).setCell (p := ⟨w.heap.size, 1, none⟩) (Nat.le_refl _) (.int .i64 (n : Int))).setCell (p := ⟨w.heap.size, 2, none⟩) (Nat.le_refl _) (.slice V k C))
      have HO := Lib.hid (ownsRow_setCell_below (ownsRow_setCell_below (ownsRow_setCell_below Own5.out (a := ⟨w.heap.size, 0, none⟩) (by show w.heap.size < w.heap.size + 1; omega) (.int .i64 (F : Int))) (a := ⟨w.heap.size, 1, none⟩) (by show w.heap.size < w.heap.size + 1; omega) (.int .i64 (n : Int))) (a := ⟨w.heap.size, 2, none⟩) (by show w.heap.size < w.heap.size + 1; omega) (.slice V k C))
      obtain ⟨V_, hV⟩ : ∃ V_, ((wr.setCell ⟨w.heap.size, 0, none⟩ (.int .i64 (F : Int))).setCell ⟨w.heap.size, 1, none⟩ (.int .i64 (n : Int))).setCell ⟨w.heap.size, 2, none⟩ (.slice V k C) = V_ := ⟨_, rfl⟩
      have z0 : V_.cell? ⟨w.heap.size, 0, none⟩ = some (.int .i64 (F : Int)) := by rw [← hV]; simp [go_sem, y0]
      have z1 : V_.cell? ⟨w.heap.size, 1, none⟩ = some (.int .i64 (n : Int)) := by rw [← hV]; simp [go_sem, y1]
      have z2 : V_.cell? ⟨w.heap.size, 2, none⟩ = some (.slice V k C) := by rw [← hV]; simp [go_sem, y2]
      rw [hV] at HB HO
      have HVV := Lib.hid hV
      clear hV hb5
      have HO2 : Hid (V_.ownsRow (w.heap.size + 1) 25 4 (.slice V k C) (R k).length (ks (R k))) := Lib.hid (by have h := HO.out; rw [← HK.out]; exact h)
      go_wp2_with fail
      try rw [HVV.out]
      refine bodyPost_ret (v := .tuple #[.agg #[.int .i64 (F : Int), .int .i64 (n : Int), .slice V k C], .bool true]) ?_ rfl ⟨.slice V k C, by rw [HF.out.1, HF.out.2.1], by rw [HF.out.2.2]; exact own_base (by omega) HO2.out, HB.out⟩
      simp [results, Try.results63, go_sem, z0, z1, z2]

theorem specMk_any (w : World) (f : Int) (ao : Option Addr) (cap : Nat) (l : List (Int × Int)) (n : Nat) (Hn : Hid (n = l.length)) (hs : n ≤ 1048576) (hcap : n ≤ cap) (Hc : CallsAt w ao l) (q z : Int) :
    Calls Try.prog 63 #[.int .i64 f, .slice ao n cap, .int .i64 q, .int .i64 z] w fun e w' => ∃ v, e = .returned (.tuple #[.agg #[.int .i64 (mkF f l q z), .int .i64 (mkG f l q z), v], .bool (mkB f l q z)]) ∧ w'.ownsRow w.heap.size 25 4 v (mkL f l q z).length (ks (mkL f l q z)) ∧ Below w.heap.size w w' := by
  cases hh : mkB f l q z
  · rw [← hh]; exact specMk_no w f ao cap l n q z Hn hs hcap Hc hh
  · have h := hh
    unfold mkB at h
    simp only [Bool.and_eq_true] at h
    obtain ⟨hg, hq, hz⟩ := h
    have h2 := hg
    unfold hidB szB at h2
    simp only [Bool.and_eq_true] at h2
    simp [inB] at h2 hq hz
    obtain ⟨F, rfl⟩ := Int.eq_ofNat_of_zero_le (show 0 ≤ f by omega)
    obtain ⟨Q, rfl⟩ := Int.eq_ofNat_of_zero_le (show 0 ≤ q by omega)
    obtain ⟨Z, rfl⟩ := Int.eq_ofNat_of_zero_le (show 0 ≤ z by omega)
    rw [← hh]
    exact specMk_yes w F ao cap l n Q Z Hn (by rw [Hn.out]; omega) hcap Hc hh hg (Lib.hid h2.2) (by omega) (by omega) (by omega)

theorem implMk_any (w : World) (f : Int) (ao : Option Addr) (cap : Nat) (l : List (Int × Int)) (n : Nat) (Hn : Hid (n = l.length)) (hs : n ≤ 1048576) (hcap : n ≤ cap) (Hc : CallsAt w ao l) (q z : Int) :
    Calls Try.prog 64 #[.int .i64 f, .slice ao n cap, .int .i64 q, .int .i64 z] w fun e w' => ∃ v, e = .returned (.tuple #[.agg #[.int .i64 (mkF f l q z), .int .i64 (mkG f l q z), v], .bool (mkB f l q z)]) ∧ w'.ownsRow w.heap.size 25 4 v (mkL f l q z).length (ks (mkL f l q z)) ∧ Below w.heap.size w w' := by
  cases hh : mkB f l q z
  · rw [← hh]; exact implMk_no w f ao cap l n q z Hn hs hcap Hc hh
  · have h := hh
    unfold mkB at h
    simp only [Bool.and_eq_true] at h
    obtain ⟨hg, hq, hz⟩ := h
    have h2 := hg
    unfold hidB szB at h2
    simp only [Bool.and_eq_true] at h2
    simp [inB] at h2 hq hz
    obtain ⟨F, rfl⟩ := Int.eq_ofNat_of_zero_le (show 0 ≤ f by omega)
    obtain ⟨Q, rfl⟩ := Int.eq_ofNat_of_zero_le (show 0 ≤ q by omega)
    obtain ⟨Z, rfl⟩ := Int.eq_ofNat_of_zero_le (show 0 ≤ z by omega)
    rw [← hh]
    exact implMk_yes w F ao cap l n Q Z Hn (by rw [Hn.out]; omega) hcap Hc hh hg (Lib.hid h2.2) (by omega) (by omega) (by omega)

end Go.Proofs.Ytmgmkgjefplfdaa
