/- The first solution: by model and program. -/
import Derived.Test.YtmgmkgjefplfdaaSlc
namespace Go.Proofs.Ytmgmkgjefplfdaa
open Go.ChangeShapes Go.WideShapes Go.ChangeAt Go.RowKit
set_option linter.unusedVariables false

theorem fst_none {f n : Int} {l : List Clu} (h : solL f n l = []) : fstB f n l = false ∧ fstL f n l = [] := by
  constructor
  · unfold fstB; rw [h]; simp
  · unfold fstL; rw [h]; rfl
theorem fst_some {f n : Int} {l : List Clu} (hg : goodB f n l = true) (h : 0 < (solL f n l).length) : fstB f n l = true := by
  unfold fstB
  rw [hg]
  simp
  intro e
  rw [e] at h
  simp at h
set_option maxRecDepth 20000 in
theorem specFst_any (w : World) (f n : Int) (ao : Option Addr) (cap : Nat) (l : List Clu) (N : Nat) (HN : Hid (N = l.length)) (hN : N ≤ 1048576) (hc : N ≤ cap) (Hc : CluesAt w ao l) :
    Calls Try.prog 41 #[.agg #[.int .i64 f, .int .i64 n, .slice ao N cap]] w fun e w' => ∃ v, e = .returned (.tuple #[v, .bool (fstB f n l)]) ∧ w'.ownsRow w.heap.size 83 2 v (fstL f n l).length (cs (fstL f n l)) ∧ Below w.heap.size w w' := by
  obtain ⟨W0, hW, hbW, hsW, rX⟩ := box1 w #[.int .i64 f, .int .i64 n, .slice ao N cap] 35
  have HW := Lib.hid hW
  have HX := Lib.hid rX
  have HbW := Lib.hid hbW
  have Hc0 := Lib.hid (Hc.kept hbW)
  have c0 : W0.cell? ⟨w.heap.size, 0, none⟩ = some (.int .i64 f) := cell_of_row _ _ _ _ _ _ rX
  have c1 : W0.cell? ⟨w.heap.size, 1, none⟩ = some (.int .i64 n) := cell_of_row _ _ _ _ _ _ rX
  have c2 : W0.cell? ⟨w.heap.size, 2, none⟩ = some (.slice ao N cap) := cell_of_row _ _ _ _ _ _ rX
  clear hW rX hbW Hc
  cases hg : goodB f n l
  · have HG := Lib.hid hg
    obtain ⟨e1, e2⟩ := fst_none (f := f) (n := n) (l := l) (by simp [solL, hg])
    rw [e1, e2]
    clear hg e1 e2
    go_enter Try.func41, Try.ntmps41
    go_wp2_with fail
    rw [HW.out]
    refine (pzGood_any f n ao cap l N W0 HN hN Hc0).mono ?_
    rintro e w1 ⟨rfl, hb1⟩
    have HB := Lib.hid (HbW.out.trans (hb1.mono HbW.out.size))
    rw [HG.out]
    clear hb1 c0 c1 c2
    go_wp2_with fail
    go_ret2
    exact ⟨_, rfl, World.ownsRow_nil _ _ _ _, HB.out⟩
  · have HG := Lib.hid hg
    obtain ⟨F, M, rfl, rfl, hF, hM, _, hm⟩ := good_parts hg
    have hsl : solL (F : Int) (M : Int) l = sol F M l := by simp [solL, hg]
    have HA := Lib.hid (fun (w1 : World) (h : CluesAt w1 ao l) => pzAll_any w1 F M ao N cap ao cap N l (pf F) hF hM HN hN (Lib.hid h) (Lib.hid (fitOk_any w1 F M l hF hM hm)))
    by_cases h0 : sol F M l = []
    · obtain ⟨e1, e2⟩ := fst_none (hsl.trans h0)
      rw [e1, e2]
      have HE : Hid (lk (fitsB (pf F) l) (chs F) M [] = []) := h0
      rw [HE.out] at HA
      clear hg hsl h0 e1 e2
      go_enter Try.func41, Try.ntmps41
      go_wp2_with fail
      rw [HW.out]
      refine (pzGood_any (F : Int) (M : Int) ao cap l N W0 HN hN Hc0).mono ?_
      rintro e w1 ⟨rfl, hb1⟩
      have HB1 := Lib.hid (HbW.out.trans (hb1.mono HbW.out.size))
      have Hc1 := Lib.hid (Hc0.out.kept hb1)
      have c0 := cell_old hb1 c0
      have c1 := cell_old hb1 c1
      have c2 := cell_old hb1 c2
      have hs1 : w.heap.size ≤ w1.heap.size := HB1.out.size
      rw [HG.out]
      clear hb1
      go_wp2_with fail
      refine (HA.out w1 Hc1.out).mono ?_
      rintro e w2 ⟨v2, X2, rfl, hO, hb2⟩
      obtain ⟨a2, cc2, rfl, _⟩ := hO.reads
      have HB := Lib.hid (HB1.out.trans (hb2.mono hs1))
      clear hO hb2 c0 c1 c2
      go_wp2_with fail
      go_ret2
      exact ⟨_, rfl, World.ownsRow_nil _ _ _ _, HB.out⟩
    · have hpos : 0 < (sol F M l).length := List.length_pos_iff.2 h0
      rw [fst_some hg (by rw [hsl]; exact hpos)]
      have HF : Hid (fstL (F : Int) (M : Int) l = crow (sol F M l) 0) := by show _ = _; unfold fstL; rw [hsl]
      rw [HF.out]
      have HE : Hid (lk (fitsB (pf F) l) (chs F) M [] = sol F M l) := rfl
      rw [HE.out] at HA
      obtain ⟨S, hS⟩ : ∃ S, sol F M l = S := ⟨_, rfl⟩
      rw [hS] at HA hpos ⊢
      obtain ⟨Q, hQ⟩ : ∃ Q, S.length = Q := ⟨_, rfl⟩
      have HQ := Lib.hid hQ
      rw [hQ] at hpos
      have hq0 : ((Q : Int) == 0) = false := by simp; omega
      clear h0 hg hS hQ hsl
      go_enter Try.func41, Try.ntmps41
      go_wp2_with fail
      rw [HW.out]
      refine (pzGood_any (F : Int) (M : Int) ao cap l N W0 HN hN Hc0).mono ?_
      rintro e w1 ⟨rfl, hb1⟩
      have HB1 := Lib.hid (HbW.out.trans (hb1.mono HbW.out.size))
      have Hc1 := Lib.hid (Hc0.out.kept hb1)
      have c0 := cell_old hb1 c0
      have c1 := cell_old hb1 c1
      have c2 := cell_old hb1 c2
      have hs1 : w.heap.size ≤ w1.heap.size := HB1.out.size
      rw [HG.out]
      clear hb1
      go_wp2_with fail
      refine (HA.out w1 Hc1.out).mono ?_
      rintro e w2 ⟨v2, X2, rfl, hO, hb2⟩
      obtain ⟨g2, cc2, hv, _⟩ := hO.outer (by rw [HQ.out]; exact hpos)
      rw [HQ.out] at hv
      subst hv
      obtain ⟨a3, c3, _, hcell, hown⟩ := hO.cellOf HQ.out.symm 0 (by rw [HQ.out]; exact hpos)
      have HR := Lib.hid (own_base hs1 hown)
      have HB := Lib.hid (HB1.out.trans (hb2.mono hs1))
      clear hO hb2 c0 c1 c2 hown
      go_wp2_with fail
      go_ret2
      exact ⟨_, rfl, HR.out, HB.out⟩
set_option maxRecDepth 20000 in
theorem implFst_any (w : World) (f n : Int) (ao : Option Addr) (cap : Nat) (l : List Clu) (N : Nat) (HN : Hid (N = l.length)) (hN : N ≤ 1048576) (hc : N ≤ cap) (Hc : CluesAt w ao l) :
    Calls Try.prog 42 #[.agg #[.int .i64 f, .int .i64 n, .slice ao N cap]] w fun e w' => ∃ v, e = .returned (.tuple #[v, .bool (fstB f n l)]) ∧ w'.ownsRow w.heap.size 83 2 v (fstL f n l).length (cs (fstL f n l)) ∧ Below w.heap.size w w' := by
  obtain ⟨W0, hW, hbW, hsW, rX⟩ := box1 w #[.int .i64 f, .int .i64 n, .slice ao N cap] 35
  have HW := Lib.hid hW
  have HX := Lib.hid rX
  have HbW := Lib.hid hbW
  have Hc0 := Lib.hid (Hc.kept hbW)
  have c0 : W0.cell? ⟨w.heap.size, 0, none⟩ = some (.int .i64 f) := cell_of_row _ _ _ _ _ _ rX
  have c1 : W0.cell? ⟨w.heap.size, 1, none⟩ = some (.int .i64 n) := cell_of_row _ _ _ _ _ _ rX
  have c2 : W0.cell? ⟨w.heap.size, 2, none⟩ = some (.slice ao N cap) := cell_of_row _ _ _ _ _ _ rX
  clear hW rX hbW Hc
  have HS := Lib.hid (implSol_any W0 f n ao cap l N HN hN hc Hc0.out)
  by_cases h0 : solL f n l = []
  · obtain ⟨e1, e2⟩ := fst_none h0
    rw [e1, e2]
    rw [h0] at HS
    clear h0 e1 e2
    cases hg : goodB f n l
    · rw [hg] at HS
      clear hg
      go_enter Try.func42, Try.ntmps42
      go_wp2_with fail
      rw [HW.out]
      refine HS.out.mono ?_
      rintro e w2 ⟨v2, X2, rfl, hO, hb2⟩
      obtain ⟨a2, cc2, rfl, _⟩ := hO.reads
      have HB := Lib.hid (HbW.out.trans (hb2.mono HbW.out.size))
      clear hO hb2 c0 c1 c2
      go_wp2_with fail
      go_ret2
      exact ⟨_, rfl, World.ownsRow_nil _ _ _ _, HB.out⟩
    · rw [hg] at HS
      clear hg
      go_enter Try.func42, Try.ntmps42
      go_wp2_with fail
      rw [HW.out]
      refine HS.out.mono ?_
      rintro e w2 ⟨v2, X2, rfl, hO, hb2⟩
      obtain ⟨a2, cc2, rfl, _⟩ := hO.reads
      have HB := Lib.hid (HbW.out.trans (hb2.mono HbW.out.size))
      clear hO hb2 c0 c1 c2
      go_wp2_with fail
      go_ret2
      exact ⟨_, rfl, World.ownsRow_nil _ _ _ _, HB.out⟩
  · have hpos : 0 < (solL f n l).length := List.length_pos_iff.2 h0
    have hg : goodB f n l = true := by
      cases hg : goodB f n l
      · exact absurd (by simp [solL, hg]) h0
      · rfl
    rw [fst_some hg hpos]
    rw [hg] at HS
    have HF : Hid (fstL f n l = crow (solL f n l) 0) := rfl
    rw [HF.out]
    obtain ⟨S, hS⟩ : ∃ S, solL f n l = S := ⟨_, rfl⟩
    rw [hS] at HS hpos ⊢
    obtain ⟨Q, hQ⟩ : ∃ Q, S.length = Q := ⟨_, rfl⟩
    have HQ := Lib.hid hQ
    rw [hQ] at hpos
    have hq0 : ((Q : Int) == 0) = false := by simp; omega
    clear h0 hg hS hQ
    go_enter Try.func42, Try.ntmps42
    go_wp2_with fail
    rw [HW.out]
    refine HS.out.mono ?_
    rintro e w2 ⟨v2, X2, rfl, hO, hb2⟩
    obtain ⟨g2, cc2, hv, _⟩ := hO.outer (by rw [HQ.out]; exact hpos)
    rw [HQ.out] at hv
    subst hv
    obtain ⟨a3, c3, _, hcell, hown⟩ := hO.cellOf HQ.out.symm 0 (by rw [HQ.out]; exact hpos)
    have HR := Lib.hid (own_base HbW.out.size hown)
    have HB := Lib.hid (HbW.out.trans (hb2.mono HbW.out.size))
    clear hO hb2 c0 c1 c2 hown
    go_wp2_with fail
    go_ret2
    exact ⟨_, rfl, HR.out, HB.out⟩

end Go.Proofs.Ytmgmkgjefplfdaa
