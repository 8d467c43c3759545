/- Whether a list fits a clue: by model and program. -/
import Derived.Test.YtmgmkgjefplfdaaDfp
namespace Go.Proofs.Ytmgmkgjefplfdaa
open Go.ChangeShapes Go.WideShapes Go.ChangeAt Go.RowKit
set_option linter.unusedVariables false


theorem df_no1 {f : Int} {c : Clu} {l : List (Int × Int)} (h : hidB f l = false) : dfB f c l = false ∧ dfR f c l = false := by simp [dfR, dfB, h]
theorem df_no2 {f : Int} {c : Clu} {l : List (Int × Int)} (h : mB f (l.length : Int) c = false) : dfB f c l = false ∧ dfR f c l = false := by simp [dfR, dfB, h]
theorem df_yes {f : Int} {c : Clu} {l : List (Int × Int)} (h : hidB f l = true) (hm : mB f (l.length : Int) c = true) : ∃ F : Nat, f = F ∧ (2 ≤ F ∧ F ≤ 4) ∧ l.length ≤ 3 ∧ gdB (F : Int) l = true ∧ dfB f c l = true ∧ dfR f c l = pf F c l := by
  have hh := h
  simp only [hidB, Bool.and_eq_true] at h
  obtain ⟨hf, hn⟩ := sz_of h.1
  obtain ⟨F, rfl⟩ := Int.eq_ofNat_of_zero_le (show 0 ≤ f by omega)
  exact ⟨F, rfl, by omega, by omega, h.2, by simp [dfB, hh, hm], by simp [dfR, dfB, hh, hm]⟩
set_option maxRecDepth 20000 in
theorem specDF_any (w : World) (f : Int) (c : Clu) (ao : Option Addr) (cap : Nat) (l : List (Int × Int)) (n : Nat) (Hn : Hid (n = l.length)) (hs : n ≤ 1048576) (hcap : n ≤ cap) (Hc : CallsAt w ao l) :
    Calls Try.prog 29 #[.int .i64 f, .agg #[.int .i64 c.1, .int .i64 c.2.1, .int .i64 c.2.2.1, .int .i64 c.2.2.2], .slice ao n cap] w fun e w' => e = .returned (.tuple #[.bool (dfR f c l), .bool (dfB f c l)]) ∧ Below w.heap.size w w' := by
  obtain ⟨W0, hW, hbW, hsW, rX⟩ := box1 w #[.int .i64 c.1, .int .i64 c.2.1, .int .i64 c.2.2.1, .int .i64 c.2.2.2] 25
  have HW := Lib.hid hW
  have HX := Lib.hid rX
  have HbW := Lib.hid hbW
  have Hc0 := Lib.hid (Hc.kept hbW)
  clear hW rX hbW Hc
  cases hh : hidB f l
  · have HH := Lib.hid hh
    obtain ⟨e1, e2⟩ := df_no1 (c := c) hh
    rw [e1, e2]
    clear hh e1 e2
    go_enter Try.func29, Try.ntmps29
    go_wp2_with fail
    rw [HW.out]
    refine (pzHidden_any f ao cap l n W0 Hn hs Hc0).mono ?_
    rintro e w1 ⟨rfl, hb1⟩
    have HB1 := Lib.hid (HbW.out.trans (hb1.mono HbW.out.size))
    have Hc1 := Lib.hid (Hc0.out.kept hb1)
    have HX1 := Lib.hid (row_later HX.out hb1)
    have x0 : w1.cell? ⟨w.heap.size, 0, none⟩ = some (.int .i64 c.1) := cell_of_row _ _ _ _ _ _ HX1.out
    have x1 : w1.cell? ⟨w.heap.size, 1, none⟩ = some (.int .i64 c.2.1) := cell_of_row _ _ _ _ _ _ HX1.out
    have x2 : w1.cell? ⟨w.heap.size, 2, none⟩ = some (.int .i64 c.2.2.1) := cell_of_row _ _ _ _ _ _ HX1.out
    have x3 : w1.cell? ⟨w.heap.size, 3, none⟩ = some (.int .i64 c.2.2.2) := cell_of_row _ _ _ _ _ _ HX1.out
    have hs1 := HB1.out.size
    clear hb1
    rw [HH.out]
    go_wp2_with fail
    go_ret2
    exact ⟨rfl, HB1.out⟩
  · have HH := Lib.hid hh
    have Hsz : Hid (szB f (n : Int) = true) := by
      show _ = _
      simp only [hidB, Bool.and_eq_true] at hh
      rw [Hn.out]; exact hh.1
    cases hm : mB f (l.length : Int) c
    · obtain ⟨e1, e2⟩ := df_no2 hm
      rw [e1, e2]
      have Hm : Hid (mB f (n : Int) c = false) := by show _ = _; rw [Hn.out]; exact hm
      have Hcl : Hid (clueB f (n : Int) c = false) := by show _ = _; unfold clueB; rw [Hm.out]; simp
      clear hh hm e1 e2
      go_enter Try.func29, Try.ntmps29
      go_wp2_with fail
      rw [HW.out]
      refine (pzHidden_any f ao cap l n W0 Hn hs Hc0).mono ?_
      rintro e w1 ⟨rfl, hb1⟩
      have HB1 := Lib.hid (HbW.out.trans (hb1.mono HbW.out.size))
      have Hc1 := Lib.hid (Hc0.out.kept hb1)
      have HX1 := Lib.hid (row_later HX.out hb1)
      have x0 : w1.cell? ⟨w.heap.size, 0, none⟩ = some (.int .i64 c.1) := cell_of_row _ _ _ _ _ _ HX1.out
      have x1 : w1.cell? ⟨w.heap.size, 1, none⟩ = some (.int .i64 c.2.1) := cell_of_row _ _ _ _ _ _ HX1.out
      have x2 : w1.cell? ⟨w.heap.size, 2, none⟩ = some (.int .i64 c.2.2.1) := cell_of_row _ _ _ _ _ _ HX1.out
      have x3 : w1.cell? ⟨w.heap.size, 3, none⟩ = some (.int .i64 c.2.2.2) := cell_of_row _ _ _ _ _ _ HX1.out
      have hs1 := HB1.out.size
      clear hb1
      rw [HH.out]
      go_wp2_with fail
      refine (pzClue_any f (n : Int) c w1 Hsz.out).mono ?_
      rintro e w2 ⟨rfl, hb2⟩
      have HB := Lib.hid (HB1.out.trans (hb2.mono hs1))
      rw [Hm.out]
      clear hb2 x0 x1 x2 x3
      go_wp2_with fail
      go_ret2
      exact ⟨rfl, HB.out⟩
    · obtain ⟨F, rfl, hF, hl3, hg, e1, e2⟩ := df_yes hh hm
      rw [e1, e2]
      have Hm : Hid (mB (F : Int) (n : Int) c = true) := by show _ = _; rw [Hn.out]; exact hm
      have Hcl : Hid (clueB (F : Int) (n : Int) c = true) := by show _ = _; unfold clueB; rw [Hm.out, Hsz.out]; rfl
      have hn3 : n ≤ 3 := by rw [Hn.out]; exact hl3
      have Hg := Lib.hid hg
      clear hh hm e1 e2 hl3 hg
      go_enter Try.func29, Try.ntmps29
      go_wp2_with fail
      rw [HW.out]
      refine (pzHidden_any (F : Int) ao cap l n W0 Hn hs Hc0).mono ?_
      rintro e w1 ⟨rfl, hb1⟩
      have HB1 := Lib.hid (HbW.out.trans (hb1.mono HbW.out.size))
      have Hc1 := Lib.hid (Hc0.out.kept hb1)
      have HX1 := Lib.hid (row_later HX.out hb1)
      have x0 : w1.cell? ⟨w.heap.size, 0, none⟩ = some (.int .i64 c.1) := cell_of_row _ _ _ _ _ _ HX1.out
      have x1 : w1.cell? ⟨w.heap.size, 1, none⟩ = some (.int .i64 c.2.1) := cell_of_row _ _ _ _ _ _ HX1.out
      have x2 : w1.cell? ⟨w.heap.size, 2, none⟩ = some (.int .i64 c.2.2.1) := cell_of_row _ _ _ _ _ _ HX1.out
      have x3 : w1.cell? ⟨w.heap.size, 3, none⟩ = some (.int .i64 c.2.2.2) := cell_of_row _ _ _ _ _ _ HX1.out
      have hs1 := HB1.out.size
      clear hb1
      rw [HH.out]
      go_wp2_with fail
      refine (pzClue_any (F : Int) (n : Int) c w1 Hsz.out).mono ?_
      rintro e w2 ⟨rfl, hb2⟩
      have HB2 := Lib.hid (HB1.out.trans (hb2.mono hs1))
      have Hc2 := Lib.hid (Hc1.out.kept hb2)
      have x0 := cell_old hb2 x0
      have x1 := cell_old hb2 x1
      have x2 := cell_old hb2 x2
      have x3 := cell_old hb2 x3
      have hs2 := HB2.out.size
      have HFt := Lib.hid (pzFits_any w2 F ao cap l n Hn (by omega) hcap Hc2.out Hg c.1 c.2.1 c.2.2.1 c.2.2.2 Hm.out)
      rw [Hm.out]
      clear hb2
      go_wp2_with fail
      refine HFt.out.mono ?_
      rintro e w3 ⟨rfl, hb3⟩
      have HB := Lib.hid (HB2.out.trans (hb3.mono hs2))
      clear hb3 x0 x1 x2 x3
      go_wp2_with fail
      go_ret2
      exact ⟨rfl, HB.out⟩
set_option maxRecDepth 20000 in
theorem implDF_any (w : World) (f : Int) (c : Clu) (ao : Option Addr) (cap : Nat) (l : List (Int × Int)) (n : Nat) (Hn : Hid (n = l.length)) (hs : n ≤ 1048576) (hcap : n ≤ cap) (Hc : CallsAt w ao l) :
    Calls Try.prog 31 #[.int .i64 f, .agg #[.int .i64 c.1, .int .i64 c.2.1, .int .i64 c.2.2.1, .int .i64 c.2.2.2], .slice ao n cap] w fun e w' => e = .returned (.tuple #[.bool (dfR f c l), .bool (dfB f c l)]) ∧ Below w.heap.size w w' := by
  obtain ⟨W0, hW, hbW, hsW, rX, rY⟩ := box2 w #[.int .i64 c.1, .int .i64 c.2.1, .int .i64 c.2.2.1, .int .i64 c.2.2.2] 25 #[.int .i64 f, .slice ao n cap] 87
  have HW := Lib.hid hW
  have HX := Lib.hid rX
  have HbW := Lib.hid hbW
  have Hc0 := Lib.hid (Hc.kept hbW)
  have HY := Lib.hid rY
  have y0 : W0.cell? ⟨w.heap.size + 1, 0, none⟩ = some (.int .i64 f) := cell_of_row _ _ _ _ _ _ rY
  have y1 : W0.cell? ⟨w.heap.size + 1, 1, none⟩ = some (.slice ao n cap) := cell_of_row _ _ _ _ _ _ rY
  clear hW rX hbW Hc rY
  cases hh : hidB f l
  · have HH := Lib.hid hh
    obtain ⟨e1, e2⟩ := df_no1 (c := c) hh
    rw [e1, e2]
    clear hh e1 e2
    go_enter Try.func31, Try.ntmps31
    go_wp2_with fail
    rw [HW.out]
    refine (isHidden_any f ao cap l n W0 Hn hs Hc0).mono ?_
    rintro e w1 ⟨rfl, hb1⟩
    have HB1 := Lib.hid (HbW.out.trans (hb1.mono HbW.out.size))
    have Hc1 := Lib.hid (Hc0.out.kept hb1)
    have HX1 := Lib.hid (row_later HX.out hb1)
    have HY1 := Lib.hid (row_later HY.out hb1)
    have y0 := cell_old hb1 y0
    have y1 := cell_old hb1 y1
    have x0 : w1.cell? ⟨w.heap.size, 0, none⟩ = some (.int .i64 c.1) := cell_of_row _ _ _ _ _ _ HX1.out
    have x1 : w1.cell? ⟨w.heap.size, 1, none⟩ = some (.int .i64 c.2.1) := cell_of_row _ _ _ _ _ _ HX1.out
    have x2 : w1.cell? ⟨w.heap.size, 2, none⟩ = some (.int .i64 c.2.2.1) := cell_of_row _ _ _ _ _ _ HX1.out
    have x3 : w1.cell? ⟨w.heap.size, 3, none⟩ = some (.int .i64 c.2.2.2) := cell_of_row _ _ _ _ _ _ HX1.out
    have hs1 := HB1.out.size
    clear hb1
    rw [HH.out]
    go_wp2_with fail
    go_ret2
    exact ⟨rfl, HB1.out⟩
  · have HH := Lib.hid hh
    have Hsz : Hid (szB f (n : Int) = true) := by
      show _ = _
      simp only [hidB, Bool.and_eq_true] at hh
      rw [Hn.out]; exact hh.1
    cases hm : mB f (l.length : Int) c
    · obtain ⟨e1, e2⟩ := df_no2 hm
      rw [e1, e2]
      have Hm : Hid (mB f (n : Int) c = false) := by show _ = _; rw [Hn.out]; exact hm
      have Hcl : Hid (clueB f (n : Int) c = false) := by show _ = _; unfold clueB; rw [Hm.out]; simp
      clear hh hm e1 e2
      go_enter Try.func31, Try.ntmps31
      go_wp2_with fail
      rw [HW.out]
      refine (isHidden_any f ao cap l n W0 Hn hs Hc0).mono ?_
      rintro e w1 ⟨rfl, hb1⟩
      have HB1 := Lib.hid (HbW.out.trans (hb1.mono HbW.out.size))
      have Hc1 := Lib.hid (Hc0.out.kept hb1)
      have HX1 := Lib.hid (row_later HX.out hb1)
      have HY1 := Lib.hid (row_later HY.out hb1)
      have y0 := cell_old hb1 y0
      have y1 := cell_old hb1 y1
      have x0 : w1.cell? ⟨w.heap.size, 0, none⟩ = some (.int .i64 c.1) := cell_of_row _ _ _ _ _ _ HX1.out
      have x1 : w1.cell? ⟨w.heap.size, 1, none⟩ = some (.int .i64 c.2.1) := cell_of_row _ _ _ _ _ _ HX1.out
      have x2 : w1.cell? ⟨w.heap.size, 2, none⟩ = some (.int .i64 c.2.2.1) := cell_of_row _ _ _ _ _ _ HX1.out
      have x3 : w1.cell? ⟨w.heap.size, 3, none⟩ = some (.int .i64 c.2.2.2) := cell_of_row _ _ _ _ _ _ HX1.out
      have hs1 := HB1.out.size
      clear hb1
      rw [HH.out]
      go_wp2_with fail
      refine (implIsClue_any w1 f (n : Int) c).mono ?_
      rintro e w2 ⟨rfl, hb2⟩
      have HB := Lib.hid (HB1.out.trans (hb2.mono hs1))
      rw [Hcl.out]
      clear hb2 x0 x1 x2 x3 y0 y1
      go_wp2_with fail
      go_ret2
      exact ⟨rfl, HB.out⟩
    · obtain ⟨F, rfl, hF, hl3, hg, e1, e2⟩ := df_yes hh hm
      rw [e1, e2]
      have Hm : Hid (mB (F : Int) (n : Int) c = true) := by show _ = _; rw [Hn.out]; exact hm
      have Hcl : Hid (clueB (F : Int) (n : Int) c = true) := by show _ = _; unfold clueB; rw [Hm.out, Hsz.out]; rfl
      have hn3 : n ≤ 3 := by rw [Hn.out]; exact hl3
      have Hg := Lib.hid hg
      clear hh hm e1 e2 hl3 hg
      go_enter Try.func31, Try.ntmps31
      go_wp2_with fail
      rw [HW.out]
      refine (isHidden_any (F : Int) ao cap l n W0 Hn hs Hc0).mono ?_
      rintro e w1 ⟨rfl, hb1⟩
      have HB1 := Lib.hid (HbW.out.trans (hb1.mono HbW.out.size))
      have Hc1 := Lib.hid (Hc0.out.kept hb1)
      have HX1 := Lib.hid (row_later HX.out hb1)
      have HY1 := Lib.hid (row_later HY.out hb1)
      have y0 := cell_old hb1 y0
      have y1 := cell_old hb1 y1
      have x0 : w1.cell? ⟨w.heap.size, 0, none⟩ = some (.int .i64 c.1) := cell_of_row _ _ _ _ _ _ HX1.out
      have x1 : w1.cell? ⟨w.heap.size, 1, none⟩ = some (.int .i64 c.2.1) := cell_of_row _ _ _ _ _ _ HX1.out
      have x2 : w1.cell? ⟨w.heap.size, 2, none⟩ = some (.int .i64 c.2.2.1) := cell_of_row _ _ _ _ _ _ HX1.out
      have x3 : w1.cell? ⟨w.heap.size, 3, none⟩ = some (.int .i64 c.2.2.2) := cell_of_row _ _ _ _ _ _ HX1.out
      have hs1 := HB1.out.size
      clear hb1
      rw [HH.out]
      go_wp2_with fail
      refine (implIsClue_any w1 (F : Int) (n : Int) c).mono ?_
      rintro e w2 ⟨rfl, hb2⟩
      have HB2 := Lib.hid (HB1.out.trans (hb2.mono hs1))
      have Hc2 := Lib.hid (Hc1.out.kept hb2)
      have x0 := cell_old hb2 x0
      have x1 := cell_old hb2 x1
      have x2 := cell_old hb2 x2
      have x3 := cell_old hb2 x3
      have y0 := cell_old hb2 y0
      have y1 := cell_old hb2 y1
      have hs2 := HB2.out.size
      have bd : Below w2.heap.size w2 (w2.alloc (Obj.cells #[.int .i64 c.1, .int .i64 c.2.1, .int .i64 c.2.2.1, .int .i64 c.2.2.2] 25)) := (Below.refl _ _).alloc (Nat.le_refl _) _
      have hone := one_clue (heap_alloc_new w2 (Obj.cells #[.int .i64 c.1, .int .i64 c.2.1, .int .i64 c.2.2.1, .int .i64 c.2.2.2] 25))
      have HFt := Lib.hid (fits_any _ F ao cap l n (some ⟨w2.heap.size, 0, none⟩) 1 1 [c] Hn hn3 hcap (Lib.hid (Hc2.out.kept bd)) Hg.out hF rfl (by omega) (Lib.hid hone) (by simp only [List.all_cons, List.all_nil, Bool.and_true]; exact Hm.out))
      have hpf : fitsB (pf F) [c] l = pf F c l := by simp [fitsB]
      rw [hpf] at HFt
      have Hbd := Lib.hid (HB2.out.trans (bd.mono hs2))
      rw [Hcl.out]
      clear hb2 bd hone hpf
      go_wp2_with fail
      refine HFt.out.mono ?_
      rintro e w3 ⟨rfl, hb3⟩
      have HB := Lib.hid (Hbd.out.trans (hb3.mono Hbd.out.size))
      clear hb3 x0 x1 x2 x3 y0 y1
      go_wp2_with fail
      go_ret2
      exact ⟨rfl, HB.out⟩

end Go.Proofs.Ytmgmkgjefplfdaa
