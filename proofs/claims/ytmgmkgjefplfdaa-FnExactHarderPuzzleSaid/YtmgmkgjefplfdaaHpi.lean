/- HarderPuzzle by the program. -/
import Derived.Test.YtmgmkgjefplfdaaHpp
namespace Go.Proofs.Ytmgmkgjefplfdaa
open Go.ChangeShapes Go.WideShapes Go.ChangeAt Go.RowKit
set_option linter.unusedVariables false

set_option maxHeartbeats 1600000 in
set_option maxRecDepth 20000 in
theorem implHp_any (w : World) (f n : Int) (gb : Nat) (cap : Nat) (l : List Clu) (N : Nat) (HN : Hid (N = l.length)) (hN : N ≤ 1048576) (hc : N ≤ cap) (Hc : CluesAt w (some ⟨gb, 0, none⟩) l) :
    Calls Try.prog 62 #[.agg #[.int .i64 f, .int .i64 n, .slice (some ⟨gb, 0, none⟩) N cap]] w fun e w' => ∃ v, e = .returned (.tuple #[.agg #[.int .i64 (hpF f n l), .int .i64 (hpG f n l), v], .bool (hpB f n l)]) ∧ w'.ownsRow w.heap.size 25 4 v (hpL f n l).length (ks (hpL f n l)) ∧ Below w.heap.size w w' := by
  obtain ⟨W, hW, hbW, hsW, rX, rY⟩ := box2 w #[.int .i64 f, .int .i64 n, .slice (some ⟨gb, 0, none⟩) N cap] 35 #[.int .i64 0, .int .i64 0, .slice none 0 0] 35
  have HW := Lib.hid hW
  have HbW := Lib.hid hbW
  have HcW := Lib.hid (Hc.kept hbW)
  have x0 : W.cell? ⟨w.heap.size, 0, none⟩ = some (.int .i64 f) := cell_of_row _ _ _ _ _ _ rX
  have x1 : W.cell? ⟨w.heap.size, 1, none⟩ = some (.int .i64 n) := cell_of_row _ _ _ _ _ _ rX
  have x2 : W.cell? ⟨w.heap.size, 2, none⟩ = some (.slice (some ⟨gb, 0, none⟩) N cap) := cell_of_row _ _ _ _ _ _ rX
  have y0 : W.cell? ⟨w.heap.size + 1, 0, none⟩ = some (.int .i64 0) := cell_of_row _ _ _ _ _ _ rY
  have y1 : W.cell? ⟨w.heap.size + 1, 1, none⟩ = some (.int .i64 0) := cell_of_row _ _ _ _ _ _ rY
  have y2 : W.cell? ⟨w.heap.size + 1, 2, none⟩ = some (.slice none 0 0) := cell_of_row _ _ _ _ _ _ rY
  have gy : ∀ j, W.frozen? ⟨w.heap.size + 1, j, none⟩ = false := fun j => frozen_of_row _ _ _ _ _ rY
  have HRX := Lib.hid rX
  have HRY := Lib.hid rY
  clear hW rX rY hbW Hc
  have HI := Lib.hid (implIsPuzzle_any W f n (some ⟨gb, 0, none⟩) cap l N HN hN hc HcW.out)
  cases hg : goodB f n l
  · have hh : hpB f n l = false := by unfold hpB; rw [hg]; rfl
    have HF := Lib.hid (hpB_false hh)
    rw [hg] at HI
    rw [hh]
    clear hh hg
    go_enter Try.func62, Try.ntmps62
    go_wp2_with fail
    rw [HW.out]
    refine HI.out.mono ?_
    rintro e w5 ⟨rfl, hb1⟩
    have x0 := cell_old hb1 x0
    have x1 := cell_old hb1 x1
    have x2 := cell_old hb1 x2
    have y0 := cell_old hb1 y0
    have y1 := cell_old hb1 y1
    have y2 := cell_old hb1 y2
    have gy : ∀ j, w5.frozen? ⟨w.heap.size + 1, j, none⟩ = false := fun j => by rw [hb1.frozen (by show w.heap.size + 1 < W.heap.size; omega)]; exact gy j
    have hb5 := HbW.out.trans (hb1.mono HbW.out.size)
    have Own0 : Hid (w5.ownsRow (w.heap.size + 2) 25 4 (.slice none 0 0) 0 (ks [])) := Lib.hid (World.ownsRow_nil _ _ _ _)
    clear hb1
    go_wp2_with fail
    have HB := Lib.hid (((hb5.setCell (p := ⟨w.heap.size + 1, 0, none⟩) (by show w.heap.size ≤ w.heap.size + 1; omega) (.int .i64 0)).setCell (p := ⟨w.heap.size + 1, 1, none⟩) (by show w.heap.size ≤ w.heap.size + 1; omega) (.int .i64 0)).setCell (p := ⟨w.heap.size + 1, 2, none⟩) (by show w.heap.size ≤ w.heap.size + 1; omega) (.slice none 0 0))
    have HO := Lib.hid (ownsRow_setCell_below (ownsRow_setCell_below (ownsRow_setCell_below Own0.out (a := ⟨w.heap.size + 1, 0, none⟩) (by show w.heap.size + 1 < w.heap.size + 2; omega) (.int .i64 0)) (a := ⟨w.heap.size + 1, 1, none⟩) (by show w.heap.size + 1 < w.heap.size + 2; omega) (.int .i64 0)) (a := ⟨w.heap.size + 1, 2, none⟩) (by show w.heap.size + 1 < w.heap.size + 2; omega) (.slice none 0 0))
    obtain ⟨V, hV⟩ : ∃ V, ((w5.setCell ⟨w.heap.size + 1, 0, none⟩ (.int .i64 0)).setCell ⟨w.heap.size + 1, 1, none⟩ (.int .i64 0)).setCell ⟨w.heap.size + 1, 2, none⟩ (.slice none 0 0) = V := ⟨_, rfl⟩
    have z0 : V.cell? ⟨w.heap.size + 1, 0, none⟩ = some (.int .i64 0) := by rw [← hV]; simp [go_sem, y0]
    have z1 : V.cell? ⟨w.heap.size + 1, 1, none⟩ = some (.int .i64 0) := by rw [← hV]; simp [go_sem, y1]
    have z2 : V.cell? ⟨w.heap.size + 1, 2, none⟩ = some (.slice none 0 0) := by rw [← hV]; simp [go_sem, y2]
    rw [hV] at HB HO
    try rw [hV]
    clear hV hb5
    go_wp2_with fail
    refine bodyPost_ret (v := .tuple #[.agg #[.int .i64 0, .int .i64 0, .slice none 0 0], .bool false]) ?_ rfl ⟨.slice none 0 0, by rw [HF.out.1, HF.out.2.1], by rw [HF.out.2.2]; exact own_base (by omega) HO.out, HB.out⟩
    simp [results, Try.results62, go_sem, z0, z1, z2]
  · have HG := Lib.hid hg
    obtain ⟨F, M, rfl, rfl, hF, hM, h6, hm⟩ := good_parts hg
    have hN6 : N ≤ 6 := by rw [HN.out]; exact h6
    have Hm := Lib.hid hm
    rw [hg] at HI
    have HS := Lib.hid (fun (w3 : World) (h : CluesAt w3 (some ⟨gb, 0, none⟩) l) => implSlv0 w3 F M (some ⟨gb, 0, none⟩) cap l N hF hM HN hN h hm)
    cases hs : ((sol F M l).length : Int) == 1
    · have hh : hpB (F : Int) (M : Int) l = false := by unfold hpB; rw [hg, Int.toNat_natCast, Int.toNat_natCast, hs]; rfl
      have HF := Lib.hid (hpB_false hh)
      rw [hs] at HS
      rw [hh]
      clear hh hg hs hm h6
      go_enter Try.func62, Try.ntmps62
      go_wp2_with fail
      rw [HW.out]
      refine HI.out.mono ?_
      rintro e w4 ⟨rfl, hb1⟩
      have x0 := cell_old hb1 x0
      have x1 := cell_old hb1 x1
      have x2 := cell_old hb1 x2
      have y0 := cell_old hb1 y0
      have y1 := cell_old hb1 y1
      have y2 := cell_old hb1 y2
      have gy : ∀ j, w4.frozen? ⟨w.heap.size + 1, j, none⟩ = false := fun j => by rw [hb1.frozen (by show w.heap.size + 1 < W.heap.size; omega)]; exact gy j
      have Hc4 := Lib.hid (HcW.out.kept hb1)
      go_wp2_with fail
      refine (HS.out w4 Hc4.out).mono ?_
      rintro e w5 ⟨rfl, hb2⟩
      have y0 := cell_old hb2 y0
      have y1 := cell_old hb2 y1
      have y2 := cell_old hb2 y2
      have hs1 := hb1.size
      have gy2 : ∀ j, w5.frozen? ⟨w.heap.size + 1, j, none⟩ = false := fun j => by rw [hb2.frozen (by show w.heap.size + 1 < w4.heap.size; omega)]; exact gy j
      have hb5 := HbW.out.trans ((hb1.trans (hb2.mono hb1.size)).mono HbW.out.size)
      have Own0 : Hid (w5.ownsRow (w.heap.size + 2) 25 4 (.slice none 0 0) 0 (ks [])) := Lib.hid (World.ownsRow_nil _ _ _ _)
      clear hb1 hb2 x0 x1 x2 gy hs1
      go_wp2_with fail
      have HB := Lib.hid (((hb5.setCell (p := ⟨w.heap.size + 1, 0, none⟩) (by show w.heap.size ≤ w.heap.size + 1; omega) (.int .i64 0)).setCell (p := ⟨w.heap.size + 1, 1, none⟩) (by show w.heap.size ≤ w.heap.size + 1; omega) (.int .i64 0)).setCell (p := ⟨w.heap.size + 1, 2, none⟩) (by show w.heap.size ≤ w.heap.size + 1; omega) (.slice none 0 0))
      have HO := Lib.hid (ownsRow_setCell_below (ownsRow_setCell_below (ownsRow_setCell_below Own0.out (a := ⟨w.heap.size + 1, 0, none⟩) (by show w.heap.size + 1 < w.heap.size + 2; omega) (.int .i64 0)) (a := ⟨w.heap.size + 1, 1, none⟩) (by show w.heap.size + 1 < w.heap.size + 2; omega) (.int .i64 0)) (a := ⟨w.heap.size + 1, 2, none⟩) (by show w.heap.size + 1 < w.heap.size + 2; omega) (.slice none 0 0))
      obtain ⟨V, hV⟩ : ∃ V, ((w5.setCell ⟨w.heap.size + 1, 0, none⟩ (.int .i64 0)).setCell ⟨w.heap.size + 1, 1, none⟩ (.int .i64 0)).setCell ⟨w.heap.size + 1, 2, none⟩ (.slice none 0 0) = V := ⟨_, rfl⟩
      have z0 : V.cell? ⟨w.heap.size + 1, 0, none⟩ = some (.int .i64 0) := by rw [← hV]; simp [go_sem, y0]
      have z1 : V.cell? ⟨w.heap.size + 1, 1, none⟩ = some (.int .i64 0) := by rw [← hV]; simp [go_sem, y1]
      have z2 : V.cell? ⟨w.heap.size + 1, 2, none⟩ = some (.slice none 0 0) := by rw [← hV]; simp [go_sem, y2]
      rw [hV] at HB HO
      try rw [hV]
      clear hV hb5
      go_wp2_with fail
      refine bodyPost_ret (v := .tuple #[.agg #[.int .i64 0, .int .i64 0, .slice none 0 0], .bool false]) ?_ rfl ⟨.slice none 0 0, by rw [HF.out.1, HF.out.2.1], by rw [HF.out.2.2]; exact own_base (by omega) HO.out, HB.out⟩
      simp [results, Try.results62, go_sem, z0, z1, z2]
    · have hh : hpB (F : Int) (M : Int) l = true := by unfold hpB; rw [hg, Int.toNat_natCast, Int.toNat_natCast, hs]; rfl
      have HF := Lib.hid (hpB_true hh)
      rw [Int.toNat_natCast, Int.toNat_natCast, ← HN.out] at HF
      rw [hs] at HS
      rw [hh]
      obtain ⟨R, hR⟩ : ∃ R, hpA F M l = R := ⟨_, rfl⟩
      have HR0 : Hid (R 0 = []) := Lib.hid (by rw [← hR]; rfl)
      have HRs : Hid (∀ k, R (k + 1) = if (sol F M (R k ++ l.drop (k + 1))).length = 1 then R k else R k ++ [(k0 l k, k1 l k, k2 l k, k3 l k)]) := Lib.hid (fun k => by rw [← hR]; rfl)
      have HRl : Hid (∀ k, (R k).length ≤ k) := Lib.hid (fun k => by rw [← hR]; exact hpA_len F M l k)
      have HRa : Hid (∀ k m, k ≤ l.length → (R k ++ l.drop m).all (mB (F : Int) (M : Int)) = true) := Lib.hid (fun k m hk => by rw [← hR]; exact hpA_rest hm k m hk)
      rw [hR] at HF
      obtain ⟨i0, hi, hz0, hz1, hz2⟩ := info_parts infoCL
      clear hh hg hs hm h6 hR
      go_enter Try.func62, Try.ntmps62
      go_wp2_with fail
      rw [HW.out]
      refine HI.out.mono ?_
      rintro e w4 ⟨rfl, hb1⟩
      have x0 := cell_old hb1 x0
      have x1 := cell_old hb1 x1
      have x2 := cell_old hb1 x2
      have y0 := cell_old hb1 y0
      have y1 := cell_old hb1 y1
      have y2 := cell_old hb1 y2
      have gy : ∀ j, w4.frozen? ⟨w.heap.size + 1, j, none⟩ = false := fun j => by rw [hb1.frozen (by show w.heap.size + 1 < W.heap.size; omega)]; exact gy j
      have Hc4 := Lib.hid (HcW.out.kept hb1)
      have hs41 := hb1.size
      go_wp2_with fail
      refine (HS.out w4 Hc4.out).mono ?_
      rintro e w1 ⟨rfl, hb2⟩
      have hs12 := hb2.size
      have HbW1 := Lib.hid (hb1.trans (hb2.mono hb1.size))
      have Hc1 := Lib.hid (HcW.out.kept HbW1.out)
      have x2 := cell_old hb2 x2
      have hs1W : W.heap.size ≤ w1.heap.size := HbW1.out.size
      clear x0 x1 y0 y1 y2 gy hb1 hb2
      go_wp2_with fail
      clear x2
      go_loopw [4, 19] (fun v i wr => ∃ k K : Nat, k ≤ N ∧ i = .int .i64 k ∧ Hid (K = (R k).length) ∧ wr.ownsRow w1.heap.size 25 4 v K (ks (R k)) ∧ Below w1.heap.size w1 wr) (fun _ i _ => N - (intOf i).toNat)
      case atStart => exact ⟨0, 0, Nat.zero_le _, rfl, Lib.hid (by rw [HR0.out]; rfl), by rw [HR0.out]; exact World.ownsRow_nil _ _ _ _, Below.refl _ _⟩
      case round =>
        obtain ⟨k, K, hk, rfl, HK, hor, hbel⟩ := hrel
        have hKk : K ≤ k := by rw [HK.out]; exact HRl.out k
        have hsz := hbel.size
        have HbWr := Lib.hid (HbW1.out.trans (hbel.mono hs1W))
        by_cases hlt : k < N
        · have hkl : k < l.length := by rw [← HN.out]; exact hlt
          obtain ⟨V, C, rfl, hlie⟩ := own_lies hor HK.out
          have c0 : wr.cell? ⟨gb, k * 4, none⟩ = some (.int .i64 (k0 l k)) := by have h := (clues_sat (Hc1.out.kept hbel) HN.out k hlt).1; rw [Nat.zero_add] at h; exact h
          have c1 : wr.cell? ⟨gb, k * 4 + 1, none⟩ = some (.int .i64 (k1 l k)) := by have h := (clues_sat (Hc1.out.kept hbel) HN.out k hlt).2.1; rw [Nat.zero_add] at h; exact h
          have c2 : wr.cell? ⟨gb, k * 4 + 2, none⟩ = some (.int .i64 (k2 l k)) := by have h := (clues_sat (Hc1.out.kept hbel) HN.out k hlt).2.2.1; rw [Nat.zero_add] at h; exact h
          have c3 : wr.cell? ⟨gb, k * 4 + 3, none⟩ = some (.int .i64 (k3 l k)) := by have h := (clues_sat (Hc1.out.kept hbel) HN.out k hlt).2.2.2; rw [Nat.zero_add] at h; exact h
          obtain ⟨wx, hwx, hbx, hsx, rC⟩ := box1 wr #[.int .i64 (k0 l k), .int .i64 (k1 l k), .int .i64 (k2 l k), .int .i64 (k3 l k)] 25
          have HWX := Lib.hid hwx
          have HRC := Lib.hid rC
          have Horx := Lib.hid (own_later hor hbx)
          have Hbelx := Lib.hid (hbel.trans (hbx.mono hsz))
          have hszx := Hbelx.out.size
          have HbWx := Lib.hid (HbW1.out.trans (Hbelx.out.mono hs1W))
          have HLx : Hid ((V = none ∧ K = 0 ∧ C = 0) ∨ ∃ b, V = some ⟨b, 0, none⟩ ∧ ∀ i, i < (R k).length → Sat4 wx b 0 (R k) i) := Lib.hid (by
            rcases hlie with h | ⟨b, h, hs⟩
            · exact .inl h
            · exact .inr ⟨b, h, fun i hi => (hs i hi).kept hbx⟩)
          have Hcx := Lib.hid (Hc1.out.kept Hbelx.out)
          clear hor hbel hwx rC hbx hlie
          go_upto_region 7 with (fail)
          rw [HWX.out]
          clear c0 c1 c2 c3
          obtain ⟨off2, hif, hoff⟩ := tail_at gb 0 cap N k hc hlt
          rw [Nat.zero_add] at hif
          clear hsx
          obtain ⟨m, hm⟩ : ∃ m, (R k ++ l.drop (k + 1)).length = m := ⟨_, rfl⟩
          have Hm4 : Hid (m = (R k ++ l.drop (k + 1)).length) := Lib.hid hm.symm
          have hm7 : m ≤ 1048576 := by rw [← hm, List.length_append, List.length_drop, ← HK.out, ← HN.out]; omega
          have bd : Below wx.heap.size wx (wx.alloc (.cells #[.slice V K C, .slice (some ⟨gb, off2, none⟩) (N - (k + 1)) (cap - (k + 1))] 33)).drew := ((Below.refl _ _).alloc (Nat.le_refl _) _).drew
          have h10 : (wx.alloc (.cells #[.slice V K C, .slice (some ⟨gb, off2, none⟩) (N - (k + 1)) (cap - (k + 1))] 33)).drew.cell? ⟨wx.heap.size, 0, none⟩ = some (.slice V K C) := by
            show (wx.alloc _).cell? _ = _
            rw [cell_of_row _ _ _ _ _ _ (heap_alloc_new wx _)]; rfl
          have h11 : (wx.alloc (.cells #[.slice V K C, .slice (some ⟨gb, off2, none⟩) (N - (k + 1)) (cap - (k + 1))] 33)).drew.cell? ⟨wx.heap.size, 1, none⟩ = some (.slice (some ⟨gb, off2, none⟩) (N - (k + 1)) (cap - (k + 1))) := by
            show (wx.alloc _).cell? _ = _
            rw [cell_of_row _ _ _ _ _ _ (heap_alloc_new wx _)]; rfl
          have HCC := concat2_any _ wx.heap.size 2 (R k) (l.drop (k + 1)) (fun q => if q = 0 then V else some ⟨gb, off2, none⟩) (two K (N - (k + 1))) (two C (cap - (k + 1))) (Nat.le_refl _)
            (Lib.hid (fun q hq => by
              obtain rfl | rfl : q = 0 ∨ q = 1 := by omega
              · exact ⟨HK.out, by show K ≤ 20; omega⟩
              · exact ⟨by show N - (k + 1) = (l.drop (k + 1)).length; rw [List.length_drop, ← HN.out], by show N - (k + 1) ≤ 20; omega⟩))
            (Lib.hid (fun q hq => by
              obtain rfl | rfl : q = 0 ∨ q = 1 := by omega
              · exact h10
              · exact h11))
            (Lib.hid (fun q hq => by
              obtain rfl | rfl : q = 0 ∨ q = 1 := by omega
              · rcases HLx.out with ⟨h1, h2, h3⟩ | ⟨b, h1, h2⟩
                · exact .inl ⟨h1, h2, h3⟩
                · exact .inr ⟨b, 0, h1, fun i hi => (h2 i hi).kept bd⟩
              · exact .inr ⟨gb, off2, rfl, tail_cells HN.out hoff (fun i hi => (clues_sat Hcx.out HN.out i hi).kept bd)⟩))
          rw [hm] at HCC
          have HCC := Lib.hid HCC
          have Hbd := Lib.hid bd
          have hWC := Lib.hid (fun (w3 : World) a m c => withClues_any (F : Int) (M : Int) (some ⟨gb, 0, none⟩) N cap a m c w3)
          have HSv := Lib.hid (fun (w3 : World) a c (h : CluesAt w3 a (R k ++ l.drop (k + 1))) => implSlv0 w3 F M a c (R k ++ l.drop (k + 1)) m hF hM Hm4.out hm7 h (HRa.out k (k + 1) (by omega)))
          have x0 : wx.cell? ⟨w.heap.size, 0, none⟩ = some (.int .i64 (F : Int)) := cell_of_row _ _ _ _ _ _ (row_later HRX.out HbWx.out)
          have x1 : wx.cell? ⟨w.heap.size, 1, none⟩ = some (.int .i64 (M : Int)) := cell_of_row _ _ _ _ _ _ (row_later HRX.out HbWx.out)
          have x2 : wx.cell? ⟨w.heap.size, 2, none⟩ = some (.slice (some ⟨gb, 0, none⟩) N cap) := cell_of_row _ _ _ _ _ _ (row_later HRX.out HbWx.out)
          have HRk := Lib.hid (HRs.out k)
          have hk0 : (0 : Int) ≤ (k : Int) := by omega
          have hk3 : (0 : Int) ≤ (k : Int) + 1 := by omega
          have hk4 : (k : Int) + 1 ≤ (N : Int) := by omega
          have hk5 : (N : Int) ≤ (cap : Int) := by omega
          have hw1 : IntKind.i64.wrap ((k : Int) + 1) = (k : Int) + 1 := IntWalk.i64_in _ (by omega)
          have hw2 : ((k : Int) + 1).toNat = k + 1 := by omega
          cases hB : ((sol F M (R k ++ l.drop (k + 1))).length : Int) == 1
          · rw [hB] at HSv
            have HR1 : Hid (R (k + 1) = R k ++ [(k0 l k, k1 l k, k2 l k, k3 l k)]) := Lib.hid (by rw [HRk.out, if_neg (by intro h; rw [h] at hB; simp at hB)])
            clear hm h10 h11 bd hoff hB
            go_region_held3 (fun w' => w'.cell? ⟨w.heap.size, 0, none⟩ = some (.int .i64 (F : Int)) ∧ w'.cell? ⟨w.heap.size, 1, none⟩ = some (.int .i64 (M : Int)) ∧ w'.cell? ⟨w.heap.size, 2, none⟩ = some (.slice (some ⟨gb, 0, none⟩) N cap))
              (first
                | exact ⟨x0, x1, x2⟩
                | go_keep
                | (go_split_ands
                   refine ⟨?_, ?_, ?_⟩
                   all_goals first | assumption | exact cell_old hb4 (by assumption) | exact cell_old hb5 (by assumption) | exact cell_old hb6 (by assumption))
                | (go_split_ands
                   refine ⟨?_, ?_, ?_⟩
                   all_goals (simp [go_sem, *]; done)))
              (first
                | (go_at_call 95; (with_reducible refine HCC.out.mono ?_); rintro e w4 ⟨v4, rfl, own4, hb4⟩; obtain ⟨a4, c4, rfl, hat4, _⟩ := kown_shape own4 Hm4.out)
                | (go_at_call 92; (with_reducible refine (hWC.out w4 a4 m c4).mono ?_); rintro e w5 ⟨rfl, hb5⟩; have hat5 := hat4.kept hb5)
                | (go_at_call 84; (with_reducible refine (HSv.out w5 a4 c4 hat5).mono ?_); rintro e w6 ⟨rfl, hb6⟩; have hbw : Below wx.heap.size wx w6 := Hbd.out.trans ((hb4.trans ((hb5.trans (hb6.mono hb5.size)).mono hb4.size)).mono Hbd.out.size))
                | fail)
            all_goals (
              clear hw1 hw2 hif hk3 hk4 hk5
              have Hbw := Lib.hid hbw
              have Ho6 := Lib.hid (own_later Horx.out hbw)
              have Hb6 := Lib.hid (Hbelx.out.trans (hbw.mono hszx))
              have hs6 := Hb6.out.size
              have HRC6 := Lib.hid (row_later HRC.out hbw)
              clear own4 hb4 hb5 hb6 hbw hat4 hat5 x0 x1 x2
              have c0 : w6.cell? ⟨wr.heap.size, 0, none⟩ = some (.int .i64 (k0 l k)) := cell_of_row _ _ _ _ _ _ HRC6.out
              have c1 : w6.cell? ⟨wr.heap.size, 1, none⟩ = some (.int .i64 (k1 l k)) := cell_of_row _ _ _ _ _ _ HRC6.out
              have c2 : w6.cell? ⟨wr.heap.size, 2, none⟩ = some (.int .i64 (k2 l k)) := cell_of_row _ _ _ _ _ _ HRC6.out
              have c3 : w6.cell? ⟨wr.heap.size, 3, none⟩ = some (.int .i64 (k3 l k)) := cell_of_row _ _ _ _ _ _ HRC6.out
              have Ho7 := Lib.hid (Ho6.out.alloc (.cells #[.int .i64 (k0 l k), .int .i64 (k1 l k), .int .i64 (k2 l k), .int .i64 (k3 l k)] 25))
              have Hb7 := Lib.hid (Hb6.out.alloc hs6 (.cells #[.int .i64 (k0 l k), .int .i64 (k1 l k), .int .i64 (k2 l k), .int .i64 (k3 l k)] 25))
              have Hr7 := Lib.hid (heap_alloc_new w6 (.cells #[.int .i64 (k0 l k), .int .i64 (k1 l k), .int .i64 (k2 l k), .int .i64 (k3 l k)] 25))
              go_wp2_with (at_builtin; refine push_clue _ rfl _ _ 33 rfl w1.heap.size i0 Try.underlying33 hi hz0 hz1 hz2 _ (R k) K rfl Ho7.out (by omega) (k0 l k, k1 l k, k2 l k, k3 l k) 1 w6.heap.size rfl Hr7.out (by simp; omega) ?_)
              intro v9 w9 own9 gr9
              have Ho9 : Hid (w9.ownsRow w1.heap.size 25 4 v9 (K + 1) (ks (R (k + 1)))) := Lib.hid (by rw [HR1.out]; exact own9)
              have Hb9 := Lib.hid (Hb7.out.grown gr9 (by simp; omega) (fun bb hb => (Ho7.out.lt bb hb).1))
              clear own9 gr9 c0 c1 c2 c3
              go_wp2_with fail
              go_roundw
              case rel => exact ⟨k + 1, K + 1, by omega, by go_num, Lib.hid (by rw [HR1.out, List.length_append, ← HK.out]; rfl), Ho9.out, Hb9.out⟩
              case measure => simp [intOf]; omega)
          · rw [hB] at HSv
            have HR1 : Hid (R (k + 1) = R k) := Lib.hid (by rw [HRk.out, if_pos (by simp at hB; omega)])
            clear hm h10 h11 bd hoff hB
            go_region_held3 (fun w' => w'.cell? ⟨w.heap.size, 0, none⟩ = some (.int .i64 (F : Int)) ∧ w'.cell? ⟨w.heap.size, 1, none⟩ = some (.int .i64 (M : Int)) ∧ w'.cell? ⟨w.heap.size, 2, none⟩ = some (.slice (some ⟨gb, 0, none⟩) N cap))
              (first
                | exact ⟨x0, x1, x2⟩
                | go_keep
                | (go_split_ands
                   refine ⟨?_, ?_, ?_⟩
                   all_goals first | assumption | exact cell_old hb4 (by assumption) | exact cell_old hb5 (by assumption) | exact cell_old hb6 (by assumption))
                | (go_split_ands
                   refine ⟨?_, ?_, ?_⟩
                   all_goals (simp [go_sem, *]; done)))
              (first
                | (go_at_call 95; (with_reducible refine HCC.out.mono ?_); rintro e w4 ⟨v4, rfl, own4, hb4⟩; obtain ⟨a4, c4, rfl, hat4, _⟩ := kown_shape own4 Hm4.out)
                | (go_at_call 92; (with_reducible refine (hWC.out w4 a4 m c4).mono ?_); rintro e w5 ⟨rfl, hb5⟩; have hat5 := hat4.kept hb5)
                | (go_at_call 84; (with_reducible refine (HSv.out w5 a4 c4 hat5).mono ?_); rintro e w6 ⟨rfl, hb6⟩; have hbw : Below wx.heap.size wx w6 := Hbd.out.trans ((hb4.trans ((hb5.trans (hb6.mono hb5.size)).mono hb4.size)).mono Hbd.out.size))
                | fail)
            all_goals (
              clear hw1 hw2 hif hk3 hk4 hk5
              have Ho6 := Lib.hid (own_later Horx.out hbw)
              have Hb6 := Lib.hid (Hbelx.out.trans (hbw.mono hszx))
              clear own4 hb4 hb5 hb6 hbw hat4 hat5 x0 x1 x2
              go_wp2_with fail
              go_roundw
              case rel => exact ⟨k + 1, K, by omega, by go_num, Lib.hid (by rw [HR1.out]; exact HK.out), by rw [HR1.out]; exact Ho6.out, Hb6.out⟩
              case measure => simp [intOf]; omega)
        · obtain rfl : k = N := by omega
          have hnk : ¬ k < k := Nat.lt_irrefl k
          obtain ⟨V, C, rfl, _⟩ := own_lies hor HK.out
          have hWC := Lib.hid (fun (w1 : World) a m c => withClues_any (F : Int) (M : Int) (some ⟨gb, 0, none⟩) k cap a m c w1)
          have Hor := Lib.hid (own_base (show w.heap.size + 2 ≤ w1.heap.size by omega) hor)
          have x0 : wr.cell? ⟨w.heap.size, 0, none⟩ = some (.int .i64 (F : Int)) := cell_of_row _ _ _ _ _ _ (row_later HRX.out HbWr.out)
          have x1 : wr.cell? ⟨w.heap.size, 1, none⟩ = some (.int .i64 (M : Int)) := cell_of_row _ _ _ _ _ _ (row_later HRX.out HbWr.out)
          have x2 : wr.cell? ⟨w.heap.size, 2, none⟩ = some (.slice (some ⟨gb, 0, none⟩) k cap) := cell_of_row _ _ _ _ _ _ (row_later HRX.out HbWr.out)
          clear hor hbel
          go_wp2_with fail
          refine (hWC.out wr V K C).mono ?_
          rintro e w5 ⟨rfl, hb5r⟩
          have hbb : Below W.heap.size W w5 := HbWr.out.trans (hb5r.mono HbWr.out.size)
          have y0 : w5.cell? ⟨w.heap.size + 1, 0, none⟩ = some (.int .i64 0) := cell_of_row _ _ _ _ _ _ (row_later HRY.out hbb)
          have y1 : w5.cell? ⟨w.heap.size + 1, 1, none⟩ = some (.int .i64 0) := cell_of_row _ _ _ _ _ _ (row_later HRY.out hbb)
          have y2 : w5.cell? ⟨w.heap.size + 1, 2, none⟩ = some (.slice none 0 0) := cell_of_row _ _ _ _ _ _ (row_later HRY.out hbb)
          have gy : ∀ j, w5.frozen? ⟨w.heap.size + 1, j, none⟩ = false := fun j => frozen_of_row _ _ _ _ _ (row_later HRY.out hbb)
          have Own5 := Lib.hid (own_later Hor.out hb5r)
          have hb5 := HbW.out.trans (hbb.mono HbW.out.size)
          clear hb5r hbb x0 x1 x2
          go_wp2_with fail
          have HB := Lib.hid (((hb5.setCell (p := ⟨w.heap.size + 1, 0, none⟩) (by show w.heap.size ≤ w.heap.size + 1; omega) (.int .i64 (F : Int))).setCell (p := ⟨w.heap.size + 1, 1, none⟩) (by show w.heap.size ≤ w.heap.size + 1; omega) (.int .i64 (M : Int))).setCell (p := ⟨w.heap.size + 1, 2, none⟩) (by show w.heap.size ≤ w.heap.size + 1; omega) (.slice V K C))
          have HO := Lib.hid (ownsRow_setCell_below (ownsRow_setCell_below (ownsRow_setCell_below Own5.out (a := ⟨w.heap.size + 1, 0, none⟩) (by show w.heap.size + 1 < w.heap.size + 2; omega) (.int .i64 (F : Int))) (a := ⟨w.heap.size + 1, 1, none⟩) (by show w.heap.size + 1 < w.heap.size + 2; omega) (.int .i64 (M : Int))) (a := ⟨w.heap.size + 1, 2, none⟩) (by show w.heap.size + 1 < w.heap.size + 2; omega) (.slice V K C))
          obtain ⟨V_, hV⟩ : ∃ V_, ((w5.setCell ⟨w.heap.size + 1, 0, none⟩ (.int .i64 (F : Int))).setCell ⟨w.heap.size + 1, 1, none⟩ (.int .i64 (M : Int))).setCell ⟨w.heap.size + 1, 2, none⟩ (.slice V K C) = V_ := ⟨_, rfl⟩
          have z0 : V_.cell? ⟨w.heap.size + 1, 0, none⟩ = some (.int .i64 (F : Int)) := by rw [← hV]; simp [go_sem, y0]
          have z1 : V_.cell? ⟨w.heap.size + 1, 1, none⟩ = some (.int .i64 (M : Int)) := by rw [← hV]; simp [go_sem, y1]
          have z2 : V_.cell? ⟨w.heap.size + 1, 2, none⟩ = some (.slice V K C) := by rw [← hV]; simp [go_sem, y2]
          rw [hV] at HB HO
          have HO2 : Hid (V_.ownsRow (w.heap.size + 2) 25 4 (.slice V K C) (R k).length (ks (R k))) := Lib.hid (by have h := HO.out; rw [← HK.out]; exact h)
          try rw [hV]
          clear hV hb5
          go_wp2_with fail
          refine bodyPost_ret (v := .tuple #[.agg #[.int .i64 (F : Int), .int .i64 (M : Int), .slice V K C], .bool true]) ?_ rfl ⟨.slice V K C, by rw [HF.out.1, HF.out.2.1], by rw [HF.out.2.2]; exact own_base (by omega) HO2.out, HB.out⟩
          simp [results, Try.results62, go_sem, z0, z1, z2]

end Go.Proofs.Ytmgmkgjefplfdaa
