/- Solutions, how many, whether one alone: by model and program. -/
import Derived.Test.YtmgmkgjefplfdaaSol
import Derived.Test.YtmgmkgjefplfdaaVs3
import Derived.Test.YtmgmkgjefplfdaaHal
import Derived.Test.YtmgmkgjefplfdaaRc
namespace Go.Proofs.Ytmgmkgjefplfdaa
open Go.ChangeShapes Go.WideShapes Go.ChangeAt Go.RowKit
set_option linter.unusedVariables false


def solL (f n : Int) (l : List Clu) : List (List (Int × Int)) := if goodB f n l then sol f.toNat n.toNat l else []
theorem good_parts {f n : Int} {l : List Clu} (h : goodB f n l = true) : ∃ F N : Nat, f = F ∧ n = N ∧ (2 ≤ F ∧ F ≤ 4) ∧ N ≤ 3 ∧ l.length ≤ 6 ∧ l.all (mB (F : Int) (N : Int)) = true := by
  simp only [goodB, Bool.and_eq_true, decide_eq_true_eq] at h
  obtain ⟨hz, h6, hm⟩ := h
  obtain ⟨hf, hn⟩ := sz_of hz
  obtain ⟨F, rfl⟩ := Int.eq_ofNat_of_zero_le (show 0 ≤ f by omega)
  obtain ⟨N, rfl⟩ := Int.eq_ofNat_of_zero_le (show 0 ≤ n by omega)
  exact ⟨F, N, rfl, rfl, by omega, by omega, h6, hm⟩
theorem solL_len (f n : Int) (l : List Clu) : (solL f n l).length ≤ 216 := by
  unfold solL
  cases hg : goodB f n l
  · simp
  · obtain ⟨F, N, rfl, rfl, hF, hN, _, _⟩ := good_parts hg
    simpa using sol_len F N l hF.2 hN
theorem solL_rows (f n : Int) (l : List Clu) : ∀ i, (crow (solL f n l) i).length ≤ 1048576 := by
  intro i
  by_cases hi : i < (solL f n l).length
  · cases hg : goodB f n l
    · simp [solL, hg] at hi
    · obtain ⟨F, N, rfl, rfl, hF, hN, _, _⟩ := good_parts hg
      have e : solL (F : Int) (N : Int) l = sol F N l := by simp [solL, hg]
      rw [e] at hi ⊢
      have := (sol_rows F N l i hi).1
      omega
  · have e : crow (solL f n l) i = [] := by simp [crow, List.getD_eq_getElem?_getD, Nat.le_of_not_lt hi]
    rw [e]; simp
def cntSol (f n : Int) (l : List Clu) : Int := ((solL f n l).length : Int)
def slvB (f n : Int) (l : List Clu) : Bool := ((solL f n l).length : Int) == 1
def fstL (f n : Int) (l : List Clu) : List (Int × Int) := crow (solL f n l) 0
def fstB (f n : Int) (l : List Clu) : Bool := goodB f n l && !((solL f n l).length == 0)
theorem fstL_len (f n : Int) (l : List Clu) : (fstL f n l).length ≤ 1048576 := solL_rows f n l 0
set_option maxRecDepth 20000 in
theorem specSol_any (w : World) (f n : Int) (ao : Option Addr) (cap : Nat) (l : List Clu) (N : Nat) (HN : Hid (N = l.length)) (hN : N ≤ 1048576) (hc : N ≤ cap) (Hc : CluesAt w ao l) :
    Calls Try.prog 33 #[.agg #[.int .i64 f, .int .i64 n, .slice ao N cap]] w fun e w' => ∃ v X, e = .returned (.tuple #[v, .bool (goodB f n l)]) ∧ OwnCS w' w.heap.size v X (solL f n l) ∧ Below w.heap.size w w' := by
  obtain ⟨W0, hW, hbW, hsW, rX⟩ := box1 w #[.int .i64 f, .int .i64 n, .slice ao N cap] 35
  have HW := Lib.hid hW
  have HX := Lib.hid rX
  have HbW := Lib.hid hbW
  have Hc0 := Lib.hid (Hc.kept hbW)
  have c0 : W0.cell? ⟨w.heap.size, 0, none⟩ = some (.int .i64 f) := cell_of_row _ _ _ _ _ _ rX
  have c1 : W0.cell? ⟨w.heap.size, 1, none⟩ = some (.int .i64 n) := cell_of_row _ _ _ _ _ _ rX
  have c2 : W0.cell? ⟨w.heap.size, 2, none⟩ = some (.slice ao N cap) := cell_of_row _ _ _ _ _ _ rX
  clear hW rX hbW Hc
  cases hg : goodB f n l
  · have HG := Lib.hid hg
    rw [show solL f n l = [] by simp [solL, hg]]
    clear hg
    go_enter Try.func33, Try.ntmps33
    go_wp2_with fail
    rw [HW.out]
    refine (pzGood_any f n ao cap l N W0 HN hN Hc0).mono ?_
    rintro e w1 ⟨rfl, hb1⟩
    have HB := Lib.hid (HbW.out.trans (hb1.mono HbW.out.size))
    rw [HG.out]
    clear hb1 c0 c1 c2
    go_wp2_with fail
    go_ret2
    first | exact ⟨_, [], rfl, OwnCS.nil _ _, HB.out⟩ | exact ⟨_, rfl, ⟨[], OwnCS.nil _ _⟩, HB.out⟩
  · have HG := Lib.hid hg
    obtain ⟨F, M, rfl, rfl, hF, hM, _, hm⟩ := good_parts hg
    rw [show solL (F : Int) (M : Int) l = sol F M l by simp [solL, hg]]
    clear hg
    go_enter Try.func33, Try.ntmps33
    go_wp2_with fail
    rw [HW.out]
    refine (pzGood_any (F : Int) (M : Int) ao cap l N W0 HN hN Hc0).mono ?_
    rintro e w1 ⟨rfl, hb1⟩
    have HB1 := Lib.hid (HbW.out.trans (hb1.mono HbW.out.size))
    have Hc1 := Lib.hid (Hc0.out.kept hb1)
    have c0 := cell_old hb1 c0
    have c1 := cell_old hb1 c1
    have c2 := cell_old hb1 c2
    have hs1 : w.heap.size ≤ w1.heap.size := HB1.out.size
    rw [HG.out]
    clear hb1
    go_wp2_with fail
    refine (pzAll_any w1 F M ao N cap ao cap N l (pf F) hF hM HN hN Hc1 (Lib.hid (fitOk_any w1 F M l hF hM hm))).mono ?_
    rintro e w2 ⟨v2, X2, rfl, hO, hb2⟩
    have HO : Hid (OwnCS w2 w.heap.size v2 X2 (sol F M l)) := Lib.hid (hO.weaken hs1)
    have HB := Lib.hid (HB1.out.trans (hb2.mono hs1))
    clear hO hb2 c0 c1 c2
    go_wp2_with fail
    go_ret2
    first | exact ⟨_, X2, rfl, HO.out, HB.out⟩ | exact ⟨_, rfl, ⟨X2, HO.out⟩, HB.out⟩
set_option maxRecDepth 20000 in
theorem implSol_any (w : World) (f n : Int) (ao : Option Addr) (cap : Nat) (l : List Clu) (N : Nat) (HN : Hid (N = l.length)) (hN : N ≤ 1048576) (hc : N ≤ cap) (Hc : CluesAt w ao l) :
    Calls Try.prog 34 #[.agg #[.int .i64 f, .int .i64 n, .slice ao N cap]] w fun e w' => ∃ v X, e = .returned (.tuple #[v, .bool (goodB f n l)]) ∧ OwnCS w' w.heap.size v X (solL f n l) ∧ Below w.heap.size w w' := by
  obtain ⟨W0, hW, hbW, hsW, rX⟩ := box1 w #[.int .i64 f, .int .i64 n, .slice ao N cap] 35
  have HW := Lib.hid hW
  have HX := Lib.hid rX
  have HbW := Lib.hid hbW
  have Hc0 := Lib.hid (Hc.kept hbW)
  have c0 : W0.cell? ⟨w.heap.size, 0, none⟩ = some (.int .i64 f) := cell_of_row _ _ _ _ _ _ rX
  have c1 : W0.cell? ⟨w.heap.size, 1, none⟩ = some (.int .i64 n) := cell_of_row _ _ _ _ _ _ rX
  have c2 : W0.cell? ⟨w.heap.size, 2, none⟩ = some (.slice ao N cap) := cell_of_row _ _ _ _ _ _ rX
  clear hW rX hbW Hc
  cases hg : goodB f n l
  · have HG := Lib.hid hg
    rw [show solL f n l = [] by simp [solL, hg]]
    clear hg
    go_enter Try.func34, Try.ntmps34
    go_wp2_with fail
    rw [HW.out]
    refine (implIsPuzzle_any W0 f n ao cap l N HN hN hc Hc0.out).mono ?_
    rintro e w1 ⟨rfl, hb1⟩
    have HB := Lib.hid (HbW.out.trans (hb1.mono HbW.out.size))
    rw [HG.out]
    clear hb1 c0 c1 c2
    go_wp2_with fail
    go_ret2
    first | exact ⟨_, [], rfl, OwnCS.nil _ _, HB.out⟩ | exact ⟨_, rfl, ⟨[], OwnCS.nil _ _⟩, HB.out⟩
  · have HG := Lib.hid hg
    obtain ⟨F, M, rfl, rfl, hF, hM, _, hm⟩ := good_parts hg
    rw [show solL (F : Int) (M : Int) l = sol F M l by simp [solL, hg]]
    clear hg
    go_enter Try.func34, Try.ntmps34
    go_wp2_with fail
    rw [HW.out]
    refine (implIsPuzzle_any W0 (F : Int) (M : Int) ao cap l N HN hN hc Hc0.out).mono ?_
    rintro e w1 ⟨rfl, hb1⟩
    have HB1 := Lib.hid (HbW.out.trans (hb1.mono HbW.out.size))
    have Hc1 := Lib.hid (Hc0.out.kept hb1)
    have c0 := cell_old hb1 c0
    have c1 := cell_old hb1 c1
    have c2 := cell_old hb1 c2
    have hs1 : w.heap.size ≤ w1.heap.size := HB1.out.size
    rw [HG.out]
    clear hb1
    go_wp2_with fail
    refine (solOf_any w1 F M ao cap N l hF hM HN hN Hc1 hm).mono ?_
    rintro e w2 ⟨v2, X2, rfl, hO, hb2⟩
    have HO := Lib.hid (hO.weaken hs1)
    have HB := Lib.hid (HB1.out.trans (hb2.mono hs1))
    clear hO hb2 c0 c1 c2
    go_wp2_with fail
    go_ret2
    first | exact ⟨_, X2, rfl, HO.out, HB.out⟩ | exact ⟨_, rfl, ⟨X2, HO.out⟩, HB.out⟩
set_option maxRecDepth 20000 in
theorem specCnt_any (w : World) (f n : Int) (ao : Option Addr) (cap : Nat) (l : List Clu) (N : Nat) (HN : Hid (N = l.length)) (hN : N ≤ 1048576) (hc : N ≤ cap) (Hc : CluesAt w ao l) :
    Calls Try.prog 39 #[.agg #[.int .i64 f, .int .i64 n, .slice ao N cap]] w fun e w' => e = .returned (.tuple #[.int .i64 (cntSol f n l), .bool (goodB f n l)]) ∧ Below w.heap.size w w' := by
  obtain ⟨W0, hW, hbW, hsW, rX⟩ := box1 w #[.int .i64 f, .int .i64 n, .slice ao N cap] 35
  have HW := Lib.hid hW
  have HX := Lib.hid rX
  have HbW := Lib.hid hbW
  have Hc0 := Lib.hid (Hc.kept hbW)
  have c0 : W0.cell? ⟨w.heap.size, 0, none⟩ = some (.int .i64 f) := cell_of_row _ _ _ _ _ _ rX
  have c1 : W0.cell? ⟨w.heap.size, 1, none⟩ = some (.int .i64 n) := cell_of_row _ _ _ _ _ _ rX
  have c2 : W0.cell? ⟨w.heap.size, 2, none⟩ = some (.slice ao N cap) := cell_of_row _ _ _ _ _ _ rX
  clear hW rX hbW Hc
  cases hg : goodB f n l
  · have HG := Lib.hid hg
    rw [show cntSol f n l = 0 by simp [cntSol, solL, hg]]
    clear hg
    go_enter Try.func39, Try.ntmps39
    go_wp2_with fail
    rw [HW.out]
    refine (pzGood_any f n ao cap l N W0 HN hN Hc0).mono ?_
    rintro e w1 ⟨rfl, hb1⟩
    have HB := Lib.hid (HbW.out.trans (hb1.mono HbW.out.size))
    rw [HG.out]
    clear hb1 c0 c1 c2
    go_wp2_with fail
    go_ret2
    exact ⟨rfl, HB.out⟩
  · have HG := Lib.hid hg
    obtain ⟨F, M, rfl, rfl, hF, hM, _, hm⟩ := good_parts hg
    obtain ⟨Q, hQ⟩ : ∃ Q, (sol F M l).length = Q := ⟨_, rfl⟩
    rw [show cntSol (F : Int) (M : Int) l = (Q : Int) by unfold cntSol; rw [show solL (F : Int) (M : Int) l = sol F M l by simp [solL, hg], hQ]]
    have HQ := Lib.hid hQ
    clear hQ
    clear hg
    go_enter Try.func39, Try.ntmps39
    go_wp2_with fail
    rw [HW.out]
    refine (pzGood_any (F : Int) (M : Int) ao cap l N W0 HN hN Hc0).mono ?_
    rintro e w1 ⟨rfl, hb1⟩
    have HB1 := Lib.hid (HbW.out.trans (hb1.mono HbW.out.size))
    have Hc1 := Lib.hid (Hc0.out.kept hb1)
    have c0 := cell_old hb1 c0
    have c1 := cell_old hb1 c1
    have c2 := cell_old hb1 c2
    have hs1 : w.heap.size ≤ w1.heap.size := HB1.out.size
    rw [HG.out]
    clear hb1
    go_wp2_with fail
    refine (pzAll_any w1 F M ao N cap ao cap N l (pf F) hF hM HN hN Hc1 (Lib.hid (fitOk_any w1 F M l hF hM hm))).mono ?_
    rintro e w2 ⟨v2, X2, rfl, hO, hb2⟩
    have HO : Hid (OwnCS w2 w.heap.size v2 X2 (sol F M l)) := Lib.hid (hO.weaken hs1)
    have HB := Lib.hid (HB1.out.trans (hb2.mono hs1))
    obtain ⟨a2, cc2, hv, _⟩ := HO.out.reads
    rw [HQ.out] at hv
    subst hv
    clear hO hb2 c0 c1 c2
    go_wp2_with fail
    go_ret2
    exact ⟨rfl, HB.out⟩
set_option maxRecDepth 20000 in
theorem implCnt_any (w : World) (f n : Int) (ao : Option Addr) (cap : Nat) (l : List Clu) (N : Nat) (HN : Hid (N = l.length)) (hN : N ≤ 1048576) (hc : N ≤ cap) (Hc : CluesAt w ao l) :
    Calls Try.prog 40 #[.agg #[.int .i64 f, .int .i64 n, .slice ao N cap]] w fun e w' => e = .returned (.tuple #[.int .i64 (cntSol f n l), .bool (goodB f n l)]) ∧ Below w.heap.size w w' := by
  obtain ⟨W0, hW, hbW, hsW, rX⟩ := box1 w #[.int .i64 f, .int .i64 n, .slice ao N cap] 35
  have HW := Lib.hid hW
  have HX := Lib.hid rX
  have HbW := Lib.hid hbW
  have Hc0 := Lib.hid (Hc.kept hbW)
  have c0 : W0.cell? ⟨w.heap.size, 0, none⟩ = some (.int .i64 f) := cell_of_row _ _ _ _ _ _ rX
  have c1 : W0.cell? ⟨w.heap.size, 1, none⟩ = some (.int .i64 n) := cell_of_row _ _ _ _ _ _ rX
  have c2 : W0.cell? ⟨w.heap.size, 2, none⟩ = some (.slice ao N cap) := cell_of_row _ _ _ _ _ _ rX
  clear hW rX hbW Hc
  have HS := Lib.hid (implSol_any W0 f n ao cap l N HN hN hc Hc0.out)
  obtain ⟨S, hS⟩ : ∃ S, solL f n l = S := ⟨_, rfl⟩
  have hcn : cntSol f n l = (S.length : Int) := by unfold cntSol; rw [hS]
  rw [hcn]
  rw [hS] at HS
  obtain ⟨Q, hQ⟩ : ∃ Q, S.length = Q := ⟨_, rfl⟩
  rw [hQ]
  have HQ := Lib.hid hQ
  clear hS hcn hQ
  go_enter Try.func40, Try.ntmps40
  go_wp2_with fail
  rw [HW.out]
  refine HS.out.mono ?_
  rintro e w2 ⟨v2, X2, rfl, hO, hb2⟩
  obtain ⟨a2, cc2, hv, _⟩ := hO.reads
  rw [HQ.out] at hv
  subst hv
  have HB := Lib.hid (HbW.out.trans (hb2.mono HbW.out.size))
  clear hO hb2 c0 c1 c2
  go_wp2_with fail
  go_ret2
  exact ⟨rfl, HB.out⟩
set_option maxRecDepth 20000 in
theorem implSlv0 (w : World) (F M : Nat) (ao : Option Addr) (cap : Nat) (l : List Clu) (N : Nat) (hF : 2 ≤ F ∧ F ≤ 4) (hM : M ≤ 3) (HN : Hid (N = l.length)) (hN : N ≤ 1048576) (Hc : CluesAt w ao l) (hm : l.all (mB (F : Int) (M : Int)) = true) :
    Calls Try.prog 84 #[.agg #[.int .i64 (F : Int), .int .i64 (M : Int), .slice ao N cap]] w fun e w' => e = .returned (.bool (((sol F M l).length : Int) == 1)) ∧ Below w.heap.size w w' := by
  obtain ⟨W0, hW, hbW, hsW, rX⟩ := box1 w #[.int .i64 (F : Int), .int .i64 (M : Int), .slice ao N cap] 35
  have HW := Lib.hid hW
  have HbW := Lib.hid hbW
  have HA := Lib.hid (solOf_any W0 F M ao cap N l hF hM HN hN (Lib.hid (Hc.kept hbW)) hm)
  obtain ⟨Q, hQ⟩ : ∃ Q, (sol F M l).length = Q := ⟨_, rfl⟩
  rw [hQ]
  have HQ := Lib.hid hQ
  clear hW rX hbW Hc hm hQ
  go_enter Try.func84, Try.ntmps84
  go_wp2_with fail
  rw [HW.out]
  refine HA.out.mono ?_
  rintro e w2 ⟨v2, X2, rfl, hO, hb2⟩
  obtain ⟨a2, cc2, hv, _⟩ := hO.reads
  rw [HQ.out] at hv
  subst hv
  have HB := Lib.hid (HbW.out.trans (hb2.mono HbW.out.size))
  clear hO hb2
  go_wp2_with fail
  go_ret
  exact ⟨rfl, HB.out⟩
set_option maxRecDepth 20000 in
theorem specSlv0 (w : World) (F M : Nat) (pa : Option Addr) (pn pc : Nat) (ao : Option Addr) (cap : Nat) (l : List Clu) (N : Nat) (hF : 2 ≤ F ∧ F ≤ 4) (hM : M ≤ 3) (HN : Hid (N = l.length)) (hN : N ≤ 1048576) (Hc : CluesAt w ao l) (hm : l.all (mB (F : Int) (M : Int)) = true) :
    Calls Try.prog 83 #[.agg #[.int .i64 (F : Int), .int .i64 (M : Int), .slice pa pn pc], .slice ao N cap] w fun e w' => e = .returned (.bool (((sol F M l).length : Int) == 1)) ∧ Below w.heap.size w w' := by
  obtain ⟨W0, hW, hbW, hsW, rX⟩ := box1 w #[.int .i64 (F : Int), .int .i64 (M : Int), .slice pa pn pc] 35
  have HW := Lib.hid hW
  have HbW := Lib.hid hbW
  have hA := pzAll_any W0 F M pa pn pc ao cap N l (pf F) hF hM HN hN (Lib.hid (Hc.kept hbW)) (Lib.hid (fitOk_any W0 F M l hF hM hm))
  have HA := Lib.hid hA
  obtain ⟨Q, hQ⟩ : ∃ Q, (sol F M l).length = Q := ⟨_, rfl⟩
  rw [hQ]
  have HQ := Lib.hid hQ
  clear hW rX hbW Hc hm hA hQ
  go_enter Try.func83, Try.ntmps83
  go_wp2_with fail
  rw [HW.out]
  refine HA.out.mono ?_
  rintro e w2 ⟨v2, X2, rfl, hO, hb2⟩
  have hO2 : OwnCS w2 W0.heap.size v2 X2 (sol F M l) := hO
  obtain ⟨a2, cc2, hv, _⟩ := hO2.reads
  rw [HQ.out] at hv
  subst hv
  have HB := Lib.hid (HbW.out.trans (hb2.mono HbW.out.size))
  clear hO hO2 hb2
  go_wp2_with fail
  go_ret
  exact ⟨rfl, HB.out⟩
set_option maxRecDepth 20000 in
theorem specSlv_any (w : World) (f n : Int) (ao : Option Addr) (cap : Nat) (l : List Clu) (N : Nat) (HN : Hid (N = l.length)) (hN : N ≤ 1048576) (hc : N ≤ cap) (Hc : CluesAt w ao l) :
    Calls Try.prog 45 #[.agg #[.int .i64 f, .int .i64 n, .slice ao N cap]] w fun e w' => e = .returned (.tuple #[.bool (slvB f n l), .bool (goodB f n l)]) ∧ Below w.heap.size w w' := by
  obtain ⟨W0, hW, hbW, hsW, rX⟩ := box1 w #[.int .i64 f, .int .i64 n, .slice ao N cap] 35
  have HW := Lib.hid hW
  have HX := Lib.hid rX
  have HbW := Lib.hid hbW
  have Hc0 := Lib.hid (Hc.kept hbW)
  have c0 : W0.cell? ⟨w.heap.size, 0, none⟩ = some (.int .i64 f) := cell_of_row _ _ _ _ _ _ rX
  have c1 : W0.cell? ⟨w.heap.size, 1, none⟩ = some (.int .i64 n) := cell_of_row _ _ _ _ _ _ rX
  have c2 : W0.cell? ⟨w.heap.size, 2, none⟩ = some (.slice ao N cap) := cell_of_row _ _ _ _ _ _ rX
  clear hW rX hbW Hc
  cases hg : goodB f n l
  · have HG := Lib.hid hg
    rw [show slvB f n l = false by simp [slvB, solL, hg]]
    clear hg
    go_enter Try.func45, Try.ntmps45
    go_wp2_with fail
    rw [HW.out]
    refine (pzGood_any f n ao cap l N W0 HN hN Hc0).mono ?_
    rintro e w1 ⟨rfl, hb1⟩
    have HB := Lib.hid (HbW.out.trans (hb1.mono HbW.out.size))
    rw [HG.out]
    clear hb1 c0 c1 c2
    go_wp2_with fail
    go_ret2
    exact ⟨rfl, HB.out⟩
  · have HG := Lib.hid hg
    obtain ⟨F, M, rfl, rfl, hF, hM, _, hm⟩ := good_parts hg
    rw [show slvB (F : Int) (M : Int) l = (((sol F M l).length : Int) == 1) by unfold slvB; rw [show solL (F : Int) (M : Int) l = sol F M l by simp [solL, hg]]]
    clear hg
    go_enter Try.func45, Try.ntmps45
    go_wp2_with fail
    rw [HW.out]
    refine (pzGood_any (F : Int) (M : Int) ao cap l N W0 HN hN Hc0).mono ?_
    rintro e w1 ⟨rfl, hb1⟩
    have HB1 := Lib.hid (HbW.out.trans (hb1.mono HbW.out.size))
    have Hc1 := Lib.hid (Hc0.out.kept hb1)
    have c0 := cell_old hb1 c0
    have c1 := cell_old hb1 c1
    have c2 := cell_old hb1 c2
    have hs1 : w.heap.size ≤ w1.heap.size := HB1.out.size
    rw [HG.out]
    clear hb1
    go_wp2_with fail
    refine (specSlv0 w1 F M ao N cap ao cap l N hF hM HN hN Hc1.out hm).mono ?_
    rintro e w2 ⟨rfl, hb2⟩
    have HB := Lib.hid (HB1.out.trans (hb2.mono hs1))
    clear hb2 c0 c1 c2
    go_wp2_with fail
    go_ret2
    exact ⟨rfl, HB.out⟩
set_option maxRecDepth 20000 in
theorem implSlv_any (w : World) (f n : Int) (ao : Option Addr) (cap : Nat) (l : List Clu) (N : Nat) (HN : Hid (N = l.length)) (hN : N ≤ 1048576) (hc : N ≤ cap) (Hc : CluesAt w ao l) :
    Calls Try.prog 46 #[.agg #[.int .i64 f, .int .i64 n, .slice ao N cap]] w fun e w' => e = .returned (.tuple #[.bool (slvB f n l), .bool (goodB f n l)]) ∧ Below w.heap.size w w' := by
  obtain ⟨W0, hW, hbW, hsW, rX⟩ := box1 w #[.int .i64 f, .int .i64 n, .slice ao N cap] 35
  have HW := Lib.hid hW
  have HX := Lib.hid rX
  have HbW := Lib.hid hbW
  have Hc0 := Lib.hid (Hc.kept hbW)
  have c0 : W0.cell? ⟨w.heap.size, 0, none⟩ = some (.int .i64 f) := cell_of_row _ _ _ _ _ _ rX
  have c1 : W0.cell? ⟨w.heap.size, 1, none⟩ = some (.int .i64 n) := cell_of_row _ _ _ _ _ _ rX
  have c2 : W0.cell? ⟨w.heap.size, 2, none⟩ = some (.slice ao N cap) := cell_of_row _ _ _ _ _ _ rX
  clear hW rX hbW Hc
  cases hg : goodB f n l
  · have HG := Lib.hid hg
    rw [show slvB f n l = false by simp [slvB, solL, hg]]
    clear hg
    go_enter Try.func46, Try.ntmps46
    go_wp2_with fail
    rw [HW.out]
    refine (implIsPuzzle_any W0 f n ao cap l N HN hN hc Hc0.out).mono ?_
    rintro e w1 ⟨rfl, hb1⟩
    have HB := Lib.hid (HbW.out.trans (hb1.mono HbW.out.size))
    rw [HG.out]
    clear hb1 c0 c1 c2
    go_wp2_with fail
    go_ret2
    exact ⟨rfl, HB.out⟩
  · have HG := Lib.hid hg
    obtain ⟨F, M, rfl, rfl, hF, hM, _, hm⟩ := good_parts hg
    rw [show slvB (F : Int) (M : Int) l = (((sol F M l).length : Int) == 1) by unfold slvB; rw [show solL (F : Int) (M : Int) l = sol F M l by simp [solL, hg]]]
    clear hg
    go_enter Try.func46, Try.ntmps46
    go_wp2_with fail
    rw [HW.out]
    refine (implIsPuzzle_any W0 (F : Int) (M : Int) ao cap l N HN hN hc Hc0.out).mono ?_
    rintro e w1 ⟨rfl, hb1⟩
    have HB1 := Lib.hid (HbW.out.trans (hb1.mono HbW.out.size))
    have Hc1 := Lib.hid (Hc0.out.kept hb1)
    have c0 := cell_old hb1 c0
    have c1 := cell_old hb1 c1
    have c2 := cell_old hb1 c2
    have hs1 : w.heap.size ≤ w1.heap.size := HB1.out.size
    rw [HG.out]
    clear hb1
    go_wp2_with fail
    refine (implSlv0 w1 F M ao cap l N hF hM HN hN Hc1.out hm).mono ?_
    rintro e w2 ⟨rfl, hb2⟩
    have HB := Lib.hid (HB1.out.trans (hb2.mono hs1))
    clear hb2 c0 c1 c2
    go_wp2_with fail
    go_ret2
    exact ⟨rfl, HB.out⟩

end Go.Proofs.Ytmgmkgjefplfdaa
