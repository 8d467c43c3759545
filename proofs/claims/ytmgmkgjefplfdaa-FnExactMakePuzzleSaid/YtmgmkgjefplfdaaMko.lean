/- What MakePuzzle makes: pure; a clue that a list fits, by the model. -/
import Derived.Test.YtmgmkgjefplfdaaLc
import Derived.Test.YtmgmkgjefplfdaaDfp
import Derived.Test.YtmgmkgjefplfdaaVs3
namespace Go.Proofs.Ytmgmkgjefplfdaa
open Go.ChangeShapes Go.WideShapes Go.ChangeAt Go.RowKit
set_option linter.unusedVariables false

/-- Where the clues of a value lie that owns them, or that it holds none. -/
theorem own_lies {w : World} {base : Nat} {v : Value} {n : Nat} {l : List Clu} (h : w.ownsRow base 25 4 v n (ks l)) (hn : n = l.length) :
    ∃ V C, v = .slice V n C ∧ ((V = none ∧ n = 0 ∧ C = 0) ∨ ∃ b, V = some ⟨b, 0, none⟩ ∧ ∀ i, i < l.length → Sat4 w b 0 l i) := by
  obtain ⟨ao, ca, rfl, hc, h0, _⟩ := kown_shape h hn
  refine ⟨ao, ca, rfl, ?_⟩
  rcases h.2 with ⟨h', _⟩ | ⟨g, cap, cur, h', _⟩
  · simp only [Value.slice.injEq] at h'
    exact .inl ⟨h'.1, h'.2.1, h'.2.2⟩
  · simp only [Value.slice.injEq] at h'
    obtain ⟨rfl, _, rfl⟩ := h'
    exact .inr ⟨g, rfl, fun i hi => clues_sat hc hn i (by omega)⟩

/-- The next number. -/
def nxN (z : Nat) : Nat := (197 * z + 2531) % 10007
theorem nxN_le (z : Nat) : nxN z ≤ 10006 := by unfold nxN; omega
/-- The number behind k clues. -/
def zz (z : Nat) : Nat → Nat
  | 0 => z
  | k + 1 => nxN (nxN (zz z k))
theorem zz_le {z : Nat} (h : z ≤ 10006) : ∀ k, zz z k ≤ 10006
  | 0 => h
  | k + 1 => nxN_le _
/-- The kind that a number makes, and the two numbers. -/
def mkK (n x : Nat) : Nat := if x % 6 = 4 ∧ n = 0 then 0 else x % 6
def mkX (F n y k : Nat) : Nat := if k ≤ 2 then y % F else if k = 4 then y % n else 0
def mkY (F y k : Nat) : Nat := if k = 2 ∨ k = 4 then y / 7 % F else 0
/-- The clue of a list that two numbers make. -/
def mkC (F : Nat) (l : List (Int × Int)) (x y : Nat) : Clu :=
  ((mkK l.length x : Int), (mkX F l.length y (mkK l.length x) : Int), (mkY F y (mkK l.length x) : Int), vlB F l (mkK l.length x) (mkX F l.length y (mkK l.length x)) (mkY F y (mkK l.length x)))
/-- The first k clues. -/
def mkA (F : Nat) (l : List (Int × Int)) (z : Nat) : Nat → List Clu
  | 0 => []
  | k + 1 => mkA F l z k ++ [mkC F l (nxN (zz z k)) (zz z (k + 1))]
theorem mkA_len (F : Nat) (l : List (Int × Int)) (z : Nat) : ∀ k, (mkA F l z k).length = k
  | 0 => rfl
  | k + 1 => by simp [mkA, mkA_len F l z k]
def mkB (f : Int) (l : List (Int × Int)) (q z : Int) : Bool := hidB f l && (inB q 0 6 && inB z 0 9999)
def mkF (f : Int) (l : List (Int × Int)) (q z : Int) : Int := if mkB f l q z then f else 0
def mkG (f : Int) (l : List (Int × Int)) (q z : Int) : Int := if mkB f l q z then (l.length : Int) else 0
def mkL (f : Int) (l : List (Int × Int)) (q z : Int) : List Clu := if mkB f l q z then mkA f.toNat l z.toNat q.toNat else []
theorem mkL_len (f : Int) (l : List (Int × Int)) (q z : Int) : (mkL f l q z).length ≤ 1048576 := by
  unfold mkL
  split
  · rename_i h
    have hq : inB q 0 6 = true := by unfold mkB at h; simp at h; exact h.2.1
    simp [inB] at hq
    rw [mkA_len]; omega
  · simp
theorem mkB_false {f : Int} {l : List (Int × Int)} {q z : Int} (h : mkB f l q z = false) : mkF f l q z = 0 ∧ mkG f l q z = 0 ∧ mkL f l q z = [] := by simp [mkF, mkG, mkL, h]
theorem mkB_true {f : Int} {l : List (Int × Int)} {q z : Int} (h : mkB f l q z = true) : mkF f l q z = f ∧ mkG f l q z = (l.length : Int) ∧ mkL f l q z = mkA f.toNat l z.toNat q.toNat := by simp [mkF, mkG, mkL, h]
set_option maxRecDepth 20000 in
theorem pzOf_0 (w : World) (F : Nat) (ao : Option Addr) (cap : Nat) (l : List (Int × Int)) (n : Nat) (Hn : Hid (n = l.length)) (hs : n ≤ 3) (hcap : n ≤ cap) (HHc : Hid (CallsAt w ao l)) (Hg : Hid (gdB (F : Int) l = true)) (hF : 2 ≤ F ∧ F ≤ 4) (y : Nat) (hy : y ≤ 10006) :
    Calls Try.prog 97 #[.int .i64 (F : Int), .int .i64 0, .int .i64 (y : Int), .slice ao n cap] w fun e w' => e = .returned (.agg #[.int .i64 0, .int .i64 ((y : Int) % (F : Int)), .int .i64 (0), .int .i64 (vlB F l 0 ((y : Int) % (F : Int)) (0))]) ∧ Below w.heap.size w w' := by
  have hy0 : (0 : Int) ≤ (y : Int) := by omega
  have hF0 : ¬ (F : Int) = 0 := by omega
  have hF1 : (0 : Int) < (F : Int) := by omega
  have e1 : 0 ≤ (y : Int) % (F : Int) := Int.emod_nonneg _ hF0
  have e2 : (y : Int) % (F : Int) < (F : Int) := Int.emod_lt_of_pos _ hF1
  have e3 : 0 ≤ (y : Int) / 7 % (F : Int) := Int.emod_nonneg _ hF0
  have e4 : (y : Int) / 7 % (F : Int) < (F : Int) := Int.emod_lt_of_pos _ hF1
  obtain ⟨W, hW, hbW, hsW, rX, rY⟩ := box2 w #[.int .i64 0, .int .i64 0, .int .i64 0, .int .i64 0] 25 #[.int .i64 0, .int .i64 ((y : Int) % (F : Int)), .int .i64 (0), .int .i64 0] 25
  have HW := Lib.hid hW
  have HbW := Lib.hid hbW
  have HRX := Lib.hid rX
  have HRY := Lib.hid rY
  have HV := Lib.hid (value_any W F ao cap l n Hn (by omega) hcap (Lib.hid (HHc.out.kept hbW)) Hg 0 ((y : Int) % (F : Int)) (0) 0 (by simp [mB, inB]; try omega))
  clear hW hbW hsW rX rY
  go_enter Try.func97, Try.ntmps97
  go_wp2_with fail
  rw [HW.out]
  refine HV.out.mono ?_
  rintro e w2 ⟨rfl, hb2⟩
  obtain ⟨V, hV⟩ : ∃ V, vlB F l 0 ((y : Int) % (F : Int)) (0) = V := ⟨_, rfl⟩
  rw [hV]
  have HVV := Lib.hid hV
  clear hV
  have x0 : w2.cell? ⟨w.heap.size, 0, none⟩ = some (.int .i64 0) := cell_of_row _ _ _ _ _ _ (row_later HRX.out hb2)
  have x1 : w2.cell? ⟨w.heap.size, 1, none⟩ = some (.int .i64 0) := cell_of_row _ _ _ _ _ _ (row_later HRX.out hb2)
  have x2 : w2.cell? ⟨w.heap.size, 2, none⟩ = some (.int .i64 0) := cell_of_row _ _ _ _ _ _ (row_later HRX.out hb2)
  have x3 : w2.cell? ⟨w.heap.size, 3, none⟩ = some (.int .i64 0) := cell_of_row _ _ _ _ _ _ (row_later HRX.out hb2)
  have gx : ∀ j, w2.frozen? ⟨w.heap.size, j, none⟩ = false := fun j => frozen_of_row _ _ _ _ _ (row_later HRX.out hb2)
  have y0 : w2.cell? ⟨w.heap.size + 1, 0, none⟩ = some (.int .i64 0) := cell_of_row _ _ _ _ _ _ (row_later HRY.out hb2)
  have y1 : w2.cell? ⟨w.heap.size + 1, 1, none⟩ = some (.int .i64 ((y : Int) % (F : Int))) := cell_of_row _ _ _ _ _ _ (row_later HRY.out hb2)
  have y2 : w2.cell? ⟨w.heap.size + 1, 2, none⟩ = some (.int .i64 (0)) := cell_of_row _ _ _ _ _ _ (row_later HRY.out hb2)
  have y3 : w2.cell? ⟨w.heap.size + 1, 3, none⟩ = some (.int .i64 0) := cell_of_row _ _ _ _ _ _ (row_later HRY.out hb2)
  have gy : ∀ j, w2.frozen? ⟨w.heap.size + 1, j, none⟩ = false := fun j => frozen_of_row _ _ _ _ _ (row_later HRY.out hb2)
  have HB := Lib.hid (HbW.out.trans (hb2.mono HbW.out.size))
  have HBs := Lib.hid (((((HB.out.setCell (p := ⟨w.heap.size + 1, 3, none⟩) (by show w.heap.size ≤ w.heap.size + 1; omega) (.int .i64 V)).setCell (p := ⟨w.heap.size, 0, none⟩) (Nat.le_refl _) (.int .i64 0)).setCell (p := ⟨w.heap.size, 1, none⟩) (Nat.le_refl _) (.int .i64 ((y : Int) % (F : Int)))).setCell (p := ⟨w.heap.size, 2, none⟩) (Nat.le_refl _) (.int .i64 (0))).setCell (p := ⟨w.heap.size, 3, none⟩) (Nat.le_refl _) (.int .i64 V))
  obtain ⟨U, hU⟩ : ∃ U, ((((w2.setCell ⟨w.heap.size + 1, 3, none⟩ (.int .i64 V)).setCell ⟨w.heap.size, 0, none⟩ (.int .i64 0)).setCell ⟨w.heap.size, 1, none⟩ (.int .i64 ((y : Int) % (F : Int)))).setCell ⟨w.heap.size, 2, none⟩ (.int .i64 (0))).setCell ⟨w.heap.size, 3, none⟩ (.int .i64 V) = U := ⟨_, rfl⟩
  have z0 : U.cell? ⟨w.heap.size, 0, none⟩ = some (.int .i64 0) := by rw [← hU]; simp [go_sem, x0]
  have z1 : U.cell? ⟨w.heap.size, 1, none⟩ = some (.int .i64 ((y : Int) % (F : Int))) := by rw [← hU]; simp [go_sem, x1]
  have z2 : U.cell? ⟨w.heap.size, 2, none⟩ = some (.int .i64 (0)) := by rw [← hU]; simp [go_sem, x2]
  have z3 : U.cell? ⟨w.heap.size, 3, none⟩ = some (.int .i64 V) := by rw [← hU]; simp [go_sem, x3]
  rw [hU] at HBs
  have HU := Lib.hid hU
  clear hU hb2 e1 e2 e3 e4
  go_wp2_with fail
  rw [HU.out]
  refine bodyPost_ret (v := .agg #[.int .i64 0, .int .i64 ((y : Int) % (F : Int)), .int .i64 (0), .int .i64 V]) ?_ rfl ⟨by rw [HVV.out], HBs.out⟩
  simp [results, Try.results97, go_sem, z0, z1, z2, z3]
set_option maxRecDepth 20000 in
theorem pzOf_1 (w : World) (F : Nat) (ao : Option Addr) (cap : Nat) (l : List (Int × Int)) (n : Nat) (Hn : Hid (n = l.length)) (hs : n ≤ 3) (hcap : n ≤ cap) (HHc : Hid (CallsAt w ao l)) (Hg : Hid (gdB (F : Int) l = true)) (hF : 2 ≤ F ∧ F ≤ 4) (y : Nat) (hy : y ≤ 10006) :
    Calls Try.prog 97 #[.int .i64 (F : Int), .int .i64 1, .int .i64 (y : Int), .slice ao n cap] w fun e w' => e = .returned (.agg #[.int .i64 1, .int .i64 ((y : Int) % (F : Int)), .int .i64 (0), .int .i64 (vlB F l 1 ((y : Int) % (F : Int)) (0))]) ∧ Below w.heap.size w w' := by
  have hy0 : (0 : Int) ≤ (y : Int) := by omega
  have hF0 : ¬ (F : Int) = 0 := by omega
  have hF1 : (0 : Int) < (F : Int) := by omega
  have e1 : 0 ≤ (y : Int) % (F : Int) := Int.emod_nonneg _ hF0
  have e2 : (y : Int) % (F : Int) < (F : Int) := Int.emod_lt_of_pos _ hF1
  have e3 : 0 ≤ (y : Int) / 7 % (F : Int) := Int.emod_nonneg _ hF0
  have e4 : (y : Int) / 7 % (F : Int) < (F : Int) := Int.emod_lt_of_pos _ hF1
  obtain ⟨W, hW, hbW, hsW, rX, rY⟩ := box2 w #[.int .i64 0, .int .i64 0, .int .i64 0, .int .i64 0] 25 #[.int .i64 1, .int .i64 ((y : Int) % (F : Int)), .int .i64 (0), .int .i64 0] 25
  have HW := Lib.hid hW
  have HbW := Lib.hid hbW
  have HRX := Lib.hid rX
  have HRY := Lib.hid rY
  have HV := Lib.hid (value_any W F ao cap l n Hn (by omega) hcap (Lib.hid (HHc.out.kept hbW)) Hg 1 ((y : Int) % (F : Int)) (0) 1 (by simp [mB, inB]; try omega))
  clear hW hbW hsW rX rY
  go_enter Try.func97, Try.ntmps97
  go_wp2_with fail
  rw [HW.out]
  refine HV.out.mono ?_
  rintro e w2 ⟨rfl, hb2⟩
  obtain ⟨V, hV⟩ : ∃ V, vlB F l 1 ((y : Int) % (F : Int)) (0) = V := ⟨_, rfl⟩
  rw [hV]
  have HVV := Lib.hid hV
  clear hV
  have x0 : w2.cell? ⟨w.heap.size, 0, none⟩ = some (.int .i64 0) := cell_of_row _ _ _ _ _ _ (row_later HRX.out hb2)
  have x1 : w2.cell? ⟨w.heap.size, 1, none⟩ = some (.int .i64 0) := cell_of_row _ _ _ _ _ _ (row_later HRX.out hb2)
  have x2 : w2.cell? ⟨w.heap.size, 2, none⟩ = some (.int .i64 0) := cell_of_row _ _ _ _ _ _ (row_later HRX.out hb2)
  have x3 : w2.cell? ⟨w.heap.size, 3, none⟩ = some (.int .i64 0) := cell_of_row _ _ _ _ _ _ (row_later HRX.out hb2)
  have gx : ∀ j, w2.frozen? ⟨w.heap.size, j, none⟩ = false := fun j => frozen_of_row _ _ _ _ _ (row_later HRX.out hb2)
  have y0 : w2.cell? ⟨w.heap.size + 1, 0, none⟩ = some (.int .i64 1) := cell_of_row _ _ _ _ _ _ (row_later HRY.out hb2)
  have y1 : w2.cell? ⟨w.heap.size + 1, 1, none⟩ = some (.int .i64 ((y : Int) % (F : Int))) := cell_of_row _ _ _ _ _ _ (row_later HRY.out hb2)
  have y2 : w2.cell? ⟨w.heap.size + 1, 2, none⟩ = some (.int .i64 (0)) := cell_of_row _ _ _ _ _ _ (row_later HRY.out hb2)
  have y3 : w2.cell? ⟨w.heap.size + 1, 3, none⟩ = some (.int .i64 0) := cell_of_row _ _ _ _ _ _ (row_later HRY.out hb2)
  have gy : ∀ j, w2.frozen? ⟨w.heap.size + 1, j, none⟩ = false := fun j => frozen_of_row _ _ _ _ _ (row_later HRY.out hb2)
  have HB := Lib.hid (HbW.out.trans (hb2.mono HbW.out.size))
  have HBs := Lib.hid (((((HB.out.setCell (p := ⟨w.heap.size + 1, 3, none⟩) (by show w.heap.size ≤ w.heap.size + 1; omega) (.int .i64 V)).setCell (p := ⟨w.heap.size, 0, none⟩) (Nat.le_refl _) (.int .i64 1)).setCell (p := ⟨w.heap.size, 1, none⟩) (Nat.le_refl _) (.int .i64 ((y : Int) % (F : Int)))).setCell (p := ⟨w.heap.size, 2, none⟩) (Nat.le_refl _) (.int .i64 (0))).setCell (p := ⟨w.heap.size, 3, none⟩) (Nat.le_refl _) (.int .i64 V))
  obtain ⟨U, hU⟩ : ∃ U, ((((w2.setCell ⟨w.heap.size + 1, 3, none⟩ (.int .i64 V)).setCell ⟨w.heap.size, 0, none⟩ (.int .i64 1)).setCell ⟨w.heap.size, 1, none⟩ (.int .i64 ((y : Int) % (F : Int)))).setCell ⟨w.heap.size, 2, none⟩ (.int .i64 (0))).setCell ⟨w.heap.size, 3, none⟩ (.int .i64 V) = U := ⟨_, rfl⟩
  have z0 : U.cell? ⟨w.heap.size, 0, none⟩ = some (.int .i64 1) := by rw [← hU]; simp [go_sem, x0]
  have z1 : U.cell? ⟨w.heap.size, 1, none⟩ = some (.int .i64 ((y : Int) % (F : Int))) := by rw [← hU]; simp [go_sem, x1]
  have z2 : U.cell? ⟨w.heap.size, 2, none⟩ = some (.int .i64 (0)) := by rw [← hU]; simp [go_sem, x2]
  have z3 : U.cell? ⟨w.heap.size, 3, none⟩ = some (.int .i64 V) := by rw [← hU]; simp [go_sem, x3]
  rw [hU] at HBs
  have HU := Lib.hid hU
  clear hU hb2 e1 e2 e3 e4
  go_wp2_with fail
  rw [HU.out]
  refine bodyPost_ret (v := .agg #[.int .i64 1, .int .i64 ((y : Int) % (F : Int)), .int .i64 (0), .int .i64 V]) ?_ rfl ⟨by rw [HVV.out], HBs.out⟩
  simp [results, Try.results97, go_sem, z0, z1, z2, z3]
set_option maxRecDepth 20000 in
theorem pzOf_2 (w : World) (F : Nat) (ao : Option Addr) (cap : Nat) (l : List (Int × Int)) (n : Nat) (Hn : Hid (n = l.length)) (hs : n ≤ 3) (hcap : n ≤ cap) (HHc : Hid (CallsAt w ao l)) (Hg : Hid (gdB (F : Int) l = true)) (hF : 2 ≤ F ∧ F ≤ 4) (y : Nat) (hy : y ≤ 10006) :
    Calls Try.prog 97 #[.int .i64 (F : Int), .int .i64 2, .int .i64 (y : Int), .slice ao n cap] w fun e w' => e = .returned (.agg #[.int .i64 2, .int .i64 ((y : Int) % (F : Int)), .int .i64 ((y : Int) / 7 % (F : Int)), .int .i64 (vlB F l 2 ((y : Int) % (F : Int)) ((y : Int) / 7 % (F : Int)))]) ∧ Below w.heap.size w w' := by
  have hy0 : (0 : Int) ≤ (y : Int) := by omega
  have hF0 : ¬ (F : Int) = 0 := by omega
  have hF1 : (0 : Int) < (F : Int) := by omega
  have e1 : 0 ≤ (y : Int) % (F : Int) := Int.emod_nonneg _ hF0
  have e2 : (y : Int) % (F : Int) < (F : Int) := Int.emod_lt_of_pos _ hF1
  have e3 : 0 ≤ (y : Int) / 7 % (F : Int) := Int.emod_nonneg _ hF0
  have e4 : (y : Int) / 7 % (F : Int) < (F : Int) := Int.emod_lt_of_pos _ hF1
  obtain ⟨W, hW, hbW, hsW, rX, rY⟩ := box2 w #[.int .i64 0, .int .i64 0, .int .i64 0, .int .i64 0] 25 #[.int .i64 2, .int .i64 ((y : Int) % (F : Int)), .int .i64 ((y : Int) / 7 % (F : Int)), .int .i64 0] 25
  have HW := Lib.hid hW
  have HbW := Lib.hid hbW
  have HRX := Lib.hid rX
  have HRY := Lib.hid rY
  have HV := Lib.hid (value_any W F ao cap l n Hn (by omega) hcap (Lib.hid (HHc.out.kept hbW)) Hg 2 ((y : Int) % (F : Int)) ((y : Int) / 7 % (F : Int)) 0 (by simp [mB, inB]; try omega))
  clear hW hbW hsW rX rY
  go_enter Try.func97, Try.ntmps97
  go_wp2_with fail
  rw [HW.out]
  refine HV.out.mono ?_
  rintro e w2 ⟨rfl, hb2⟩
  obtain ⟨V, hV⟩ : ∃ V, vlB F l 2 ((y : Int) % (F : Int)) ((y : Int) / 7 % (F : Int)) = V := ⟨_, rfl⟩
  rw [hV]
  have HVV := Lib.hid hV
  clear hV
  have x0 : w2.cell? ⟨w.heap.size, 0, none⟩ = some (.int .i64 0) := cell_of_row _ _ _ _ _ _ (row_later HRX.out hb2)
  have x1 : w2.cell? ⟨w.heap.size, 1, none⟩ = some (.int .i64 0) := cell_of_row _ _ _ _ _ _ (row_later HRX.out hb2)
  have x2 : w2.cell? ⟨w.heap.size, 2, none⟩ = some (.int .i64 0) := cell_of_row _ _ _ _ _ _ (row_later HRX.out hb2)
  have x3 : w2.cell? ⟨w.heap.size, 3, none⟩ = some (.int .i64 0) := cell_of_row _ _ _ _ _ _ (row_later HRX.out hb2)
  have gx : ∀ j, w2.frozen? ⟨w.heap.size, j, none⟩ = false := fun j => frozen_of_row _ _ _ _ _ (row_later HRX.out hb2)
  have y0 : w2.cell? ⟨w.heap.size + 1, 0, none⟩ = some (.int .i64 2) := cell_of_row _ _ _ _ _ _ (row_later HRY.out hb2)
  have y1 : w2.cell? ⟨w.heap.size + 1, 1, none⟩ = some (.int .i64 ((y : Int) % (F : Int))) := cell_of_row _ _ _ _ _ _ (row_later HRY.out hb2)
  have y2 : w2.cell? ⟨w.heap.size + 1, 2, none⟩ = some (.int .i64 ((y : Int) / 7 % (F : Int))) := cell_of_row _ _ _ _ _ _ (row_later HRY.out hb2)
  have y3 : w2.cell? ⟨w.heap.size + 1, 3, none⟩ = some (.int .i64 0) := cell_of_row _ _ _ _ _ _ (row_later HRY.out hb2)
  have gy : ∀ j, w2.frozen? ⟨w.heap.size + 1, j, none⟩ = false := fun j => frozen_of_row _ _ _ _ _ (row_later HRY.out hb2)
  have HB := Lib.hid (HbW.out.trans (hb2.mono HbW.out.size))
  have HBs := Lib.hid (((((HB.out.setCell (p := ⟨w.heap.size + 1, 3, none⟩) (by show w.heap.size ≤ w.heap.size + 1; omega) (.int .i64 V)).setCell (p := ⟨w.heap.size, 0, none⟩) (Nat.le_refl _) (.int .i64 2)).setCell (p := ⟨w.heap.size, 1, none⟩) (Nat.le_refl _) (.int .i64 ((y : Int) % (F : Int)))).setCell (p := ⟨w.heap.size, 2, none⟩) (Nat.le_refl _) (.int .i64 ((y : Int) / 7 % (F : Int)))).setCell (p := ⟨w.heap.size, 3, none⟩) (Nat.le_refl _) (.int .i64 V))
  obtain ⟨U, hU⟩ : ∃ U, ((((w2.setCell ⟨w.heap.size + 1, 3, none⟩ (.int .i64 V)).setCell ⟨w.heap.size, 0, none⟩ (.int .i64 2)).setCell ⟨w.heap.size, 1, none⟩ (.int .i64 ((y : Int) % (F : Int)))).setCell ⟨w.heap.size, 2, none⟩ (.int .i64 ((y : Int) / 7 % (F : Int)))).setCell ⟨w.heap.size, 3, none⟩ (.int .i64 V) = U := ⟨_, rfl⟩
  have z0 : U.cell? ⟨w.heap.size, 0, none⟩ = some (.int .i64 2) := by rw [← hU]; simp [go_sem, x0]
  have z1 : U.cell? ⟨w.heap.size, 1, none⟩ = some (.int .i64 ((y : Int) % (F : Int))) := by rw [← hU]; simp [go_sem, x1]
  have z2 : U.cell? ⟨w.heap.size, 2, none⟩ = some (.int .i64 ((y : Int) / 7 % (F : Int))) := by rw [← hU]; simp [go_sem, x2]
  have z3 : U.cell? ⟨w.heap.size, 3, none⟩ = some (.int .i64 V) := by rw [← hU]; simp [go_sem, x3]
  rw [hU] at HBs
  have HU := Lib.hid hU
  clear hU hb2 e1 e2 e3 e4
  go_wp2_with fail
  rw [HU.out]
  refine bodyPost_ret (v := .agg #[.int .i64 2, .int .i64 ((y : Int) % (F : Int)), .int .i64 ((y : Int) / 7 % (F : Int)), .int .i64 V]) ?_ rfl ⟨by rw [HVV.out], HBs.out⟩
  simp [results, Try.results97, go_sem, z0, z1, z2, z3]
set_option maxRecDepth 20000 in
theorem pzOf_3 (w : World) (F : Nat) (ao : Option Addr) (cap : Nat) (l : List (Int × Int)) (n : Nat) (Hn : Hid (n = l.length)) (hs : n ≤ 3) (hcap : n ≤ cap) (HHc : Hid (CallsAt w ao l)) (Hg : Hid (gdB (F : Int) l = true)) (hF : 2 ≤ F ∧ F ≤ 4) (y : Nat) (hy : y ≤ 10006) :
    Calls Try.prog 97 #[.int .i64 (F : Int), .int .i64 3, .int .i64 (y : Int), .slice ao n cap] w fun e w' => e = .returned (.agg #[.int .i64 3, .int .i64 (0), .int .i64 (0), .int .i64 (vlB F l 3 (0) (0))]) ∧ Below w.heap.size w w' := by
  have hy0 : (0 : Int) ≤ (y : Int) := by omega
  have hF0 : ¬ (F : Int) = 0 := by omega
  have hF1 : (0 : Int) < (F : Int) := by omega
  have e1 : 0 ≤ (y : Int) % (F : Int) := Int.emod_nonneg _ hF0
  have e2 : (y : Int) % (F : Int) < (F : Int) := Int.emod_lt_of_pos _ hF1
  have e3 : 0 ≤ (y : Int) / 7 % (F : Int) := Int.emod_nonneg _ hF0
  have e4 : (y : Int) / 7 % (F : Int) < (F : Int) := Int.emod_lt_of_pos _ hF1
  obtain ⟨W, hW, hbW, hsW, rX, rY⟩ := box2 w #[.int .i64 0, .int .i64 0, .int .i64 0, .int .i64 0] 25 #[.int .i64 3, .int .i64 (0), .int .i64 (0), .int .i64 0] 25
  have HW := Lib.hid hW
  have HbW := Lib.hid hbW
  have HRX := Lib.hid rX
  have HRY := Lib.hid rY
  have HV := Lib.hid (value_any W F ao cap l n Hn (by omega) hcap (Lib.hid (HHc.out.kept hbW)) Hg 3 (0) (0) 0 (by simp [mB, inB]; try omega))
  clear hW hbW hsW rX rY
  go_enter Try.func97, Try.ntmps97
  go_wp2_with fail
  rw [HW.out]
  refine HV.out.mono ?_
  rintro e w2 ⟨rfl, hb2⟩
  obtain ⟨V, hV⟩ : ∃ V, vlB F l 3 (0) (0) = V := ⟨_, rfl⟩
  rw [hV]
  have HVV := Lib.hid hV
  clear hV
  have x0 : w2.cell? ⟨w.heap.size, 0, none⟩ = some (.int .i64 0) := cell_of_row _ _ _ _ _ _ (row_later HRX.out hb2)
  have x1 : w2.cell? ⟨w.heap.size, 1, none⟩ = some (.int .i64 0) := cell_of_row _ _ _ _ _ _ (row_later HRX.out hb2)
  have x2 : w2.cell? ⟨w.heap.size, 2, none⟩ = some (.int .i64 0) := cell_of_row _ _ _ _ _ _ (row_later HRX.out hb2)
  have x3 : w2.cell? ⟨w.heap.size, 3, none⟩ = some (.int .i64 0) := cell_of_row _ _ _ _ _ _ (row_later HRX.out hb2)
  have gx : ∀ j, w2.frozen? ⟨w.heap.size, j, none⟩ = false := fun j => frozen_of_row _ _ _ _ _ (row_later HRX.out hb2)
  have y0 : w2.cell? ⟨w.heap.size + 1, 0, none⟩ = some (.int .i64 3) := cell_of_row _ _ _ _ _ _ (row_later HRY.out hb2)
  have y1 : w2.cell? ⟨w.heap.size + 1, 1, none⟩ = some (.int .i64 (0)) := cell_of_row _ _ _ _ _ _ (row_later HRY.out hb2)
  have y2 : w2.cell? ⟨w.heap.size + 1, 2, none⟩ = some (.int .i64 (0)) := cell_of_row _ _ _ _ _ _ (row_later HRY.out hb2)
  have y3 : w2.cell? ⟨w.heap.size + 1, 3, none⟩ = some (.int .i64 0) := cell_of_row _ _ _ _ _ _ (row_later HRY.out hb2)
  have gy : ∀ j, w2.frozen? ⟨w.heap.size + 1, j, none⟩ = false := fun j => frozen_of_row _ _ _ _ _ (row_later HRY.out hb2)
  have HB := Lib.hid (HbW.out.trans (hb2.mono HbW.out.size))
  have HBs := Lib.hid (((((HB.out.setCell (p := ⟨w.heap.size + 1, 3, none⟩) (by show w.heap.size ≤ w.heap.size + 1; omega) (.int .i64 V)).setCell (p := ⟨w.heap.size, 0, none⟩) (Nat.le_refl _) (.int .i64 3)).setCell (p := ⟨w.heap.size, 1, none⟩) (Nat.le_refl _) (.int .i64 (0))).setCell (p := ⟨w.heap.size, 2, none⟩) (Nat.le_refl _) (.int .i64 (0))).setCell (p := ⟨w.heap.size, 3, none⟩) (Nat.le_refl _) (.int .i64 V))
  obtain ⟨U, hU⟩ : ∃ U, ((((w2.setCell ⟨w.heap.size + 1, 3, none⟩ (.int .i64 V)).setCell ⟨w.heap.size, 0, none⟩ (.int .i64 3)).setCell ⟨w.heap.size, 1, none⟩ (.int .i64 (0))).setCell ⟨w.heap.size, 2, none⟩ (.int .i64 (0))).setCell ⟨w.heap.size, 3, none⟩ (.int .i64 V) = U := ⟨_, rfl⟩
  have z0 : U.cell? ⟨w.heap.size, 0, none⟩ = some (.int .i64 3) := by rw [← hU]; simp [go_sem, x0]
  have z1 : U.cell? ⟨w.heap.size, 1, none⟩ = some (.int .i64 (0)) := by rw [← hU]; simp [go_sem, x1]
  have z2 : U.cell? ⟨w.heap.size, 2, none⟩ = some (.int .i64 (0)) := by rw [← hU]; simp [go_sem, x2]
  have z3 : U.cell? ⟨w.heap.size, 3, none⟩ = some (.int .i64 V) := by rw [← hU]; simp [go_sem, x3]
  rw [hU] at HBs
  have HU := Lib.hid hU
  clear hU hb2 e1 e2 e3 e4
  go_wp2_with fail
  rw [HU.out]
  refine bodyPost_ret (v := .agg #[.int .i64 3, .int .i64 (0), .int .i64 (0), .int .i64 V]) ?_ rfl ⟨by rw [HVV.out], HBs.out⟩
  simp [results, Try.results97, go_sem, z0, z1, z2, z3]
set_option maxRecDepth 20000 in
theorem pzOf_4 (w : World) (F : Nat) (ao : Option Addr) (cap : Nat) (l : List (Int × Int)) (n : Nat) (Hn : Hid (n = l.length)) (hs : n ≤ 3) (hcap : n ≤ cap) (HHc : Hid (CallsAt w ao l)) (Hg : Hid (gdB (F : Int) l = true)) (hF : 2 ≤ F ∧ F ≤ 4) (y : Nat) (hy : y ≤ 10006) (hn0 : 0 < n) :
    Calls Try.prog 97 #[.int .i64 (F : Int), .int .i64 4, .int .i64 (y : Int), .slice ao n cap] w fun e w' => e = .returned (.agg #[.int .i64 4, .int .i64 ((y : Int) % (n : Int)), .int .i64 ((y : Int) / 7 % (F : Int)), .int .i64 (vlB F l 4 ((y : Int) % (n : Int)) ((y : Int) / 7 % (F : Int)))]) ∧ Below w.heap.size w w' := by
  have hy0 : (0 : Int) ≤ (y : Int) := by omega
  have hF0 : ¬ (F : Int) = 0 := by omega
  have hF1 : (0 : Int) < (F : Int) := by omega
  have e1 : 0 ≤ (y : Int) % (F : Int) := Int.emod_nonneg _ hF0
  have e2 : (y : Int) % (F : Int) < (F : Int) := Int.emod_lt_of_pos _ hF1
  have e3 : 0 ≤ (y : Int) / 7 % (F : Int) := Int.emod_nonneg _ hF0
  have e4 : (y : Int) / 7 % (F : Int) < (F : Int) := Int.emod_lt_of_pos _ hF1
  have hn1 : ¬ (n : Int) = 0 := by omega
  have hn2 : (0 : Int) < (n : Int) := by omega
  have hn3 : ((n : Int) == 0) = false := by simp; omega
  have e5 : 0 ≤ (y : Int) % (n : Int) := Int.emod_nonneg _ hn1
  have e6 : (y : Int) % (n : Int) < (n : Int) := Int.emod_lt_of_pos _ hn2
  obtain ⟨W, hW, hbW, hsW, rX, rY⟩ := box2 w #[.int .i64 0, .int .i64 0, .int .i64 0, .int .i64 0] 25 #[.int .i64 4, .int .i64 ((y : Int) % (n : Int)), .int .i64 ((y : Int) / 7 % (F : Int)), .int .i64 0] 25
  have HW := Lib.hid hW
  have HbW := Lib.hid hbW
  have HRX := Lib.hid rX
  have HRY := Lib.hid rY
  have HV := Lib.hid (value_any W F ao cap l n Hn (by omega) hcap (Lib.hid (HHc.out.kept hbW)) Hg 4 ((y : Int) % (n : Int)) ((y : Int) / 7 % (F : Int)) 0 (by simp [mB, inB]; try omega))
  clear hW hbW hsW rX rY
  go_enter Try.func97, Try.ntmps97
  go_wp2_with fail
  rw [HW.out]
  refine HV.out.mono ?_
  rintro e w2 ⟨rfl, hb2⟩
  obtain ⟨V, hV⟩ : ∃ V, vlB F l 4 ((y : Int) % (n : Int)) ((y : Int) / 7 % (F : Int)) = V := ⟨_, rfl⟩
  rw [hV]
  have HVV := Lib.hid hV
  clear hV
  have x0 : w2.cell? ⟨w.heap.size, 0, none⟩ = some (.int .i64 0) := cell_of_row _ _ _ _ _ _ (row_later HRX.out hb2)
  have x1 : w2.cell? ⟨w.heap.size, 1, none⟩ = some (.int .i64 0) := cell_of_row _ _ _ _ _ _ (row_later HRX.out hb2)
  have x2 : w2.cell? ⟨w.heap.size, 2, none⟩ = some (.int .i64 0) := cell_of_row _ _ _ _ _ _ (row_later HRX.out hb2)
  have x3 : w2.cell? ⟨w.heap.size, 3, none⟩ = some (.int .i64 0) := cell_of_row _ _ _ _ _ _ (row_later HRX.out hb2)
  have gx : ∀ j, w2.frozen? ⟨w.heap.size, j, none⟩ = false := fun j => frozen_of_row _ _ _ _ _ (row_later HRX.out hb2)
  have y0 : w2.cell? ⟨w.heap.size + 1, 0, none⟩ = some (.int .i64 4) := cell_of_row _ _ _ _ _ _ (row_later HRY.out hb2)
  have y1 : w2.cell? ⟨w.heap.size + 1, 1, none⟩ = some (.int .i64 ((y : Int) % (n : Int))) := cell_of_row _ _ _ _ _ _ (row_later HRY.out hb2)
  have y2 : w2.cell? ⟨w.heap.size + 1, 2, none⟩ = some (.int .i64 ((y : Int) / 7 % (F : Int))) := cell_of_row _ _ _ _ _ _ (row_later HRY.out hb2)
  have y3 : w2.cell? ⟨w.heap.size + 1, 3, none⟩ = some (.int .i64 0) := cell_of_row _ _ _ _ _ _ (row_later HRY.out hb2)
  have gy : ∀ j, w2.frozen? ⟨w.heap.size + 1, j, none⟩ = false := fun j => frozen_of_row _ _ _ _ _ (row_later HRY.out hb2)
  have HB := Lib.hid (HbW.out.trans (hb2.mono HbW.out.size))
  have HBs := Lib.hid (((((HB.out.setCell (p := ⟨w.heap.size + 1, 3, none⟩) (by show w.heap.size ≤ w.heap.size + 1; omega) (.int .i64 V)).setCell (p := ⟨w.heap.size, 0, none⟩) (Nat.le_refl _) (.int .i64 4)).setCell (p := ⟨w.heap.size, 1, none⟩) (Nat.le_refl _) (.int .i64 ((y : Int) % (n : Int)))).setCell (p := ⟨w.heap.size, 2, none⟩) (Nat.le_refl _) (.int .i64 ((y : Int) / 7 % (F : Int)))).setCell (p := ⟨w.heap.size, 3, none⟩) (Nat.le_refl _) (.int .i64 V))
  obtain ⟨U, hU⟩ : ∃ U, ((((w2.setCell ⟨w.heap.size + 1, 3, none⟩ (.int .i64 V)).setCell ⟨w.heap.size, 0, none⟩ (.int .i64 4)).setCell ⟨w.heap.size, 1, none⟩ (.int .i64 ((y : Int) % (n : Int)))).setCell ⟨w.heap.size, 2, none⟩ (.int .i64 ((y : Int) / 7 % (F : Int)))).setCell ⟨w.heap.size, 3, none⟩ (.int .i64 V) = U := ⟨_, rfl⟩
  have z0 : U.cell? ⟨w.heap.size, 0, none⟩ = some (.int .i64 4) := by rw [← hU]; simp [go_sem, x0]
  have z1 : U.cell? ⟨w.heap.size, 1, none⟩ = some (.int .i64 ((y : Int) % (n : Int))) := by rw [← hU]; simp [go_sem, x1]
  have z2 : U.cell? ⟨w.heap.size, 2, none⟩ = some (.int .i64 ((y : Int) / 7 % (F : Int))) := by rw [← hU]; simp [go_sem, x2]
  have z3 : U.cell? ⟨w.heap.size, 3, none⟩ = some (.int .i64 V) := by rw [← hU]; simp [go_sem, x3]
  rw [hU] at HBs
  have HU := Lib.hid hU
  clear hU hb2 e1 e2 e3 e4
  go_wp2_with fail
  rw [HU.out]
  refine bodyPost_ret (v := .agg #[.int .i64 4, .int .i64 ((y : Int) % (n : Int)), .int .i64 ((y : Int) / 7 % (F : Int)), .int .i64 V]) ?_ rfl ⟨by rw [HVV.out], HBs.out⟩
  simp [results, Try.results97, go_sem, z0, z1, z2, z3]
set_option maxRecDepth 20000 in
theorem pzOf_5 (w : World) (F : Nat) (ao : Option Addr) (cap : Nat) (l : List (Int × Int)) (n : Nat) (Hn : Hid (n = l.length)) (hs : n ≤ 3) (hcap : n ≤ cap) (HHc : Hid (CallsAt w ao l)) (Hg : Hid (gdB (F : Int) l = true)) (hF : 2 ≤ F ∧ F ≤ 4) (y : Nat) (hy : y ≤ 10006) :
    Calls Try.prog 97 #[.int .i64 (F : Int), .int .i64 5, .int .i64 (y : Int), .slice ao n cap] w fun e w' => e = .returned (.agg #[.int .i64 5, .int .i64 (0), .int .i64 (0), .int .i64 (vlB F l 5 (0) (0))]) ∧ Below w.heap.size w w' := by
  have hy0 : (0 : Int) ≤ (y : Int) := by omega
  have hF0 : ¬ (F : Int) = 0 := by omega
  have hF1 : (0 : Int) < (F : Int) := by omega
  have e1 : 0 ≤ (y : Int) % (F : Int) := Int.emod_nonneg _ hF0
  have e2 : (y : Int) % (F : Int) < (F : Int) := Int.emod_lt_of_pos _ hF1
  have e3 : 0 ≤ (y : Int) / 7 % (F : Int) := Int.emod_nonneg _ hF0
  have e4 : (y : Int) / 7 % (F : Int) < (F : Int) := Int.emod_lt_of_pos _ hF1
  obtain ⟨W, hW, hbW, hsW, rX, rY⟩ := box2 w #[.int .i64 0, .int .i64 0, .int .i64 0, .int .i64 0] 25 #[.int .i64 5, .int .i64 (0), .int .i64 (0), .int .i64 0] 25
  have HW := Lib.hid hW
  have HbW := Lib.hid hbW
  have HRX := Lib.hid rX
  have HRY := Lib.hid rY
  have HV := Lib.hid (value_any W F ao cap l n Hn (by omega) hcap (Lib.hid (HHc.out.kept hbW)) Hg 5 (0) (0) 1 (by simp [mB, inB]; try omega))
  clear hW hbW hsW rX rY
  go_enter Try.func97, Try.ntmps97
  go_wp2_with fail
  rw [HW.out]
  refine HV.out.mono ?_
  rintro e w2 ⟨rfl, hb2⟩
  obtain ⟨V, hV⟩ : ∃ V, vlB F l 5 (0) (0) = V := ⟨_, rfl⟩
  rw [hV]
  have HVV := Lib.hid hV
  clear hV
  have x0 : w2.cell? ⟨w.heap.size, 0, none⟩ = some (.int .i64 0) := cell_of_row _ _ _ _ _ _ (row_later HRX.out hb2)
  have x1 : w2.cell? ⟨w.heap.size, 1, none⟩ = some (.int .i64 0) := cell_of_row _ _ _ _ _ _ (row_later HRX.out hb2)
  have x2 : w2.cell? ⟨w.heap.size, 2, none⟩ = some (.int .i64 0) := cell_of_row _ _ _ _ _ _ (row_later HRX.out hb2)
  have x3 : w2.cell? ⟨w.heap.size, 3, none⟩ = some (.int .i64 0) := cell_of_row _ _ _ _ _ _ (row_later HRX.out hb2)
  have gx : ∀ j, w2.frozen? ⟨w.heap.size, j, none⟩ = false := fun j => frozen_of_row _ _ _ _ _ (row_later HRX.out hb2)
  have y0 : w2.cell? ⟨w.heap.size + 1, 0, none⟩ = some (.int .i64 5) := cell_of_row _ _ _ _ _ _ (row_later HRY.out hb2)
  have y1 : w2.cell? ⟨w.heap.size + 1, 1, none⟩ = some (.int .i64 (0)) := cell_of_row _ _ _ _ _ _ (row_later HRY.out hb2)
  have y2 : w2.cell? ⟨w.heap.size + 1, 2, none⟩ = some (.int .i64 (0)) := cell_of_row _ _ _ _ _ _ (row_later HRY.out hb2)
  have y3 : w2.cell? ⟨w.heap.size + 1, 3, none⟩ = some (.int .i64 0) := cell_of_row _ _ _ _ _ _ (row_later HRY.out hb2)
  have gy : ∀ j, w2.frozen? ⟨w.heap.size + 1, j, none⟩ = false := fun j => frozen_of_row _ _ _ _ _ (row_later HRY.out hb2)
  have HB := Lib.hid (HbW.out.trans (hb2.mono HbW.out.size))
  have HBs := Lib.hid (((((HB.out.setCell (p := ⟨w.heap.size + 1, 3, none⟩) (by show w.heap.size ≤ w.heap.size + 1; omega) (.int .i64 V)).setCell (p := ⟨w.heap.size, 0, none⟩) (Nat.le_refl _) (.int .i64 5)).setCell (p := ⟨w.heap.size, 1, none⟩) (Nat.le_refl _) (.int .i64 (0))).setCell (p := ⟨w.heap.size, 2, none⟩) (Nat.le_refl _) (.int .i64 (0))).setCell (p := ⟨w.heap.size, 3, none⟩) (Nat.le_refl _) (.int .i64 V))
  obtain ⟨U, hU⟩ : ∃ U, ((((w2.setCell ⟨w.heap.size + 1, 3, none⟩ (.int .i64 V)).setCell ⟨w.heap.size, 0, none⟩ (.int .i64 5)).setCell ⟨w.heap.size, 1, none⟩ (.int .i64 (0))).setCell ⟨w.heap.size, 2, none⟩ (.int .i64 (0))).setCell ⟨w.heap.size, 3, none⟩ (.int .i64 V) = U := ⟨_, rfl⟩
  have z0 : U.cell? ⟨w.heap.size, 0, none⟩ = some (.int .i64 5) := by rw [← hU]; simp [go_sem, x0]
  have z1 : U.cell? ⟨w.heap.size, 1, none⟩ = some (.int .i64 (0)) := by rw [← hU]; simp [go_sem, x1]
  have z2 : U.cell? ⟨w.heap.size, 2, none⟩ = some (.int .i64 (0)) := by rw [← hU]; simp [go_sem, x2]
  have z3 : U.cell? ⟨w.heap.size, 3, none⟩ = some (.int .i64 V) := by rw [← hU]; simp [go_sem, x3]
  rw [hU] at HBs
  have HU := Lib.hid hU
  clear hU hb2 e1 e2 e3 e4
  go_wp2_with fail
  rw [HU.out]
  refine bodyPost_ret (v := .agg #[.int .i64 5, .int .i64 (0), .int .i64 (0), .int .i64 V]) ?_ rfl ⟨by rw [HVV.out], HBs.out⟩
  simp [results, Try.results97, go_sem, z0, z1, z2, z3]
set_option maxRecDepth 20000 in
theorem pzOf_40 (w : World) (F : Nat) (ao : Option Addr) (cap : Nat) (l : List (Int × Int)) (n : Nat) (Hn : Hid (n = l.length)) (hs : n ≤ 3) (hcap : n ≤ cap) (HHc : Hid (CallsAt w ao l)) (Hg : Hid (gdB (F : Int) l = true)) (hF : 2 ≤ F ∧ F ≤ 4) (y : Nat) (hy : y ≤ 10006) (hn0 : n = 0) :
    Calls Try.prog 97 #[.int .i64 (F : Int), .int .i64 4, .int .i64 (y : Int), .slice ao n cap] w fun e w' => e = .returned (.agg #[.int .i64 0, .int .i64 ((y : Int) % (F : Int)), .int .i64 (0), .int .i64 (vlB F l 0 ((y : Int) % (F : Int)) (0))]) ∧ Below w.heap.size w w' := by
  have hy0 : (0 : Int) ≤ (y : Int) := by omega
  have hF0 : ¬ (F : Int) = 0 := by omega
  have hF1 : (0 : Int) < (F : Int) := by omega
  have e1 : 0 ≤ (y : Int) % (F : Int) := Int.emod_nonneg _ hF0
  have e2 : (y : Int) % (F : Int) < (F : Int) := Int.emod_lt_of_pos _ hF1
  have e3 : 0 ≤ (y : Int) / 7 % (F : Int) := Int.emod_nonneg _ hF0
  have e4 : (y : Int) / 7 % (F : Int) < (F : Int) := Int.emod_lt_of_pos _ hF1
  have hn3 : ((n : Int) == 0) = true := by simp; omega
  clear hn0
  obtain ⟨W, hW, hbW, hsW, rX, rY⟩ := box2 w #[.int .i64 0, .int .i64 0, .int .i64 0, .int .i64 0] 25 #[.int .i64 0, .int .i64 ((y : Int) % (F : Int)), .int .i64 (0), .int .i64 0] 25
  have HW := Lib.hid hW
  have HbW := Lib.hid hbW
  have HRX := Lib.hid rX
  have HRY := Lib.hid rY
  have HV := Lib.hid (value_any W F ao cap l n Hn (by omega) hcap (Lib.hid (HHc.out.kept hbW)) Hg 0 ((y : Int) % (F : Int)) (0) 0 (by simp [mB, inB]; try omega))
  clear hW hbW hsW rX rY
  go_enter Try.func97, Try.ntmps97
  go_wp2_with fail
  rw [HW.out]
  refine HV.out.mono ?_
  rintro e w2 ⟨rfl, hb2⟩
  obtain ⟨V, hV⟩ : ∃ V, vlB F l 0 ((y : Int) % (F : Int)) (0) = V := ⟨_, rfl⟩
  rw [hV]
  have HVV := Lib.hid hV
  clear hV
  have x0 : w2.cell? ⟨w.heap.size, 0, none⟩ = some (.int .i64 0) := cell_of_row _ _ _ _ _ _ (row_later HRX.out hb2)
  have x1 : w2.cell? ⟨w.heap.size, 1, none⟩ = some (.int .i64 0) := cell_of_row _ _ _ _ _ _ (row_later HRX.out hb2)
  have x2 : w2.cell? ⟨w.heap.size, 2, none⟩ = some (.int .i64 0) := cell_of_row _ _ _ _ _ _ (row_later HRX.out hb2)
  have x3 : w2.cell? ⟨w.heap.size, 3, none⟩ = some (.int .i64 0) := cell_of_row _ _ _ _ _ _ (row_later HRX.out hb2)
  have gx : ∀ j, w2.frozen? ⟨w.heap.size, j, none⟩ = false := fun j => frozen_of_row _ _ _ _ _ (row_later HRX.out hb2)
  have y0 : w2.cell? ⟨w.heap.size + 1, 0, none⟩ = some (.int .i64 0) := cell_of_row _ _ _ _ _ _ (row_later HRY.out hb2)
  have y1 : w2.cell? ⟨w.heap.size + 1, 1, none⟩ = some (.int .i64 ((y : Int) % (F : Int))) := cell_of_row _ _ _ _ _ _ (row_later HRY.out hb2)
  have y2 : w2.cell? ⟨w.heap.size + 1, 2, none⟩ = some (.int .i64 (0)) := cell_of_row _ _ _ _ _ _ (row_later HRY.out hb2)
  have y3 : w2.cell? ⟨w.heap.size + 1, 3, none⟩ = some (.int .i64 0) := cell_of_row _ _ _ _ _ _ (row_later HRY.out hb2)
  have gy : ∀ j, w2.frozen? ⟨w.heap.size + 1, j, none⟩ = false := fun j => frozen_of_row _ _ _ _ _ (row_later HRY.out hb2)
  have HB := Lib.hid (HbW.out.trans (hb2.mono HbW.out.size))
  have HBs := Lib.hid (((((HB.out.setCell (p := ⟨w.heap.size + 1, 3, none⟩) (by show w.heap.size ≤ w.heap.size + 1; omega) (.int .i64 V)).setCell (p := ⟨w.heap.size, 0, none⟩) (Nat.le_refl _) (.int .i64 0)).setCell (p := ⟨w.heap.size, 1, none⟩) (Nat.le_refl _) (.int .i64 ((y : Int) % (F : Int)))).setCell (p := ⟨w.heap.size, 2, none⟩) (Nat.le_refl _) (.int .i64 (0))).setCell (p := ⟨w.heap.size, 3, none⟩) (Nat.le_refl _) (.int .i64 V))
  obtain ⟨U, hU⟩ : ∃ U, ((((w2.setCell ⟨w.heap.size + 1, 3, none⟩ (.int .i64 V)).setCell ⟨w.heap.size, 0, none⟩ (.int .i64 0)).setCell ⟨w.heap.size, 1, none⟩ (.int .i64 ((y : Int) % (F : Int)))).setCell ⟨w.heap.size, 2, none⟩ (.int .i64 (0))).setCell ⟨w.heap.size, 3, none⟩ (.int .i64 V) = U := ⟨_, rfl⟩
  have z0 : U.cell? ⟨w.heap.size, 0, none⟩ = some (.int .i64 0) := by rw [← hU]; simp [go_sem, x0]
  have z1 : U.cell? ⟨w.heap.size, 1, none⟩ = some (.int .i64 ((y : Int) % (F : Int))) := by rw [← hU]; simp [go_sem, x1]
  have z2 : U.cell? ⟨w.heap.size, 2, none⟩ = some (.int .i64 (0)) := by rw [← hU]; simp [go_sem, x2]
  have z3 : U.cell? ⟨w.heap.size, 3, none⟩ = some (.int .i64 V) := by rw [← hU]; simp [go_sem, x3]
  rw [hU] at HBs
  have HU := Lib.hid hU
  clear hU hb2 e1 e2 e3 e4
  go_wp2_with fail
  rw [HU.out]
  refine bodyPost_ret (v := .agg #[.int .i64 0, .int .i64 ((y : Int) % (F : Int)), .int .i64 (0), .int .i64 V]) ?_ rfl ⟨by rw [HVV.out], HBs.out⟩
  simp [results, Try.results97, go_sem, z0, z1, z2, z3]

theorem pzOf_any (w : World) (F : Nat) (ao : Option Addr) (cap : Nat) (l : List (Int × Int)) (n : Nat) (Hn : Hid (n = l.length)) (hs : n ≤ 3) (hcap : n ≤ cap) (HHc : Hid (CallsAt w ao l)) (Hg : Hid (gdB (F : Int) l = true)) (hF : 2 ≤ F ∧ F ≤ 4) (x y : Nat) (hy : y ≤ 10006) :
    Calls Try.prog 97 #[.int .i64 (F : Int), .int .i64 ((x : Int) % 6), .int .i64 (y : Int), .slice ao n cap] w fun e w' => e = .returned (.agg #[.int .i64 (mkC F l x y).1, .int .i64 (mkC F l x y).2.1, .int .i64 (mkC F l x y).2.2.1, .int .i64 (mkC F l x y).2.2.2]) ∧ Below w.heap.size w w' := by
  have hk : x % 6 = 0 ∨ x % 6 = 1 ∨ x % 6 = 2 ∨ x % 6 = 3 ∨ x % 6 = 4 ∨ x % 6 = 5 := by omega
  have e0 : (x : Int) % 6 = ((x % 6 : Nat) : Int) := by omega
  rw [e0]
  rcases hk with h | h | h | h | h | h
  · rw [h]
    refine (pzOf_0 w F ao cap l n Hn hs hcap HHc Hg hF y hy).mono ?_
    rintro e w' ⟨rfl, hb⟩
    exact ⟨by simp [mkC, mkK, mkX, mkY, h], hb⟩
  · rw [h]
    refine (pzOf_1 w F ao cap l n Hn hs hcap HHc Hg hF y hy).mono ?_
    rintro e w' ⟨rfl, hb⟩
    exact ⟨by simp [mkC, mkK, mkX, mkY, h], hb⟩
  · rw [h]
    refine (pzOf_2 w F ao cap l n Hn hs hcap HHc Hg hF y hy).mono ?_
    rintro e w' ⟨rfl, hb⟩
    exact ⟨by simp [mkC, mkK, mkX, mkY, h], hb⟩
  · rw [h]
    refine (pzOf_3 w F ao cap l n Hn hs hcap HHc Hg hF y hy).mono ?_
    rintro e w' ⟨rfl, hb⟩
    exact ⟨by simp [mkC, mkK, mkX, mkY, h], hb⟩
  · rw [h]
    by_cases hn : n = 0
    · refine (pzOf_40 w F ao cap l n Hn hs hcap HHc Hg hF y hy hn).mono ?_
      rintro e w' ⟨rfl, hb⟩
      have hl : l.length = 0 := by rw [← Hn.out]; exact hn
      exact ⟨by simp [mkC, mkK, mkX, mkY, h, hl], hb⟩
    · refine (pzOf_4 w F ao cap l n Hn hs hcap HHc Hg hF y hy (by omega)).mono ?_
      rintro e w' ⟨rfl, hb⟩
      have hl : ¬ l.length = 0 := by rw [← Hn.out]; exact hn
      exact ⟨by simp [mkC, mkK, mkX, mkY, h, ← Hn.out, hn], hb⟩
  · rw [h]
    refine (pzOf_5 w F ao cap l n Hn hs hcap HHc Hg hF y hy).mono ?_
    rintro e w' ⟨rfl, hb⟩
    exact ⟨by simp [mkC, mkK, mkX, mkY, h], hb⟩

end Go.Proofs.Ytmgmkgjefplfdaa
