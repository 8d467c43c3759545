/- The laws' own helpers on puzzles. -/
import Derived.Test.YtnhkabhchepieaaDoorCluM
import Derived.Test.YtnhkabhchepieaaDoorRows2
import Derived.Test.YtnhkabhchepieaaDoorGrow
namespace Go.Proofs.YtnhkabhchepieaaDoor
open Go.ChangeShapes Go.WideShapes Go.ChangeAt Go.RowKit
set_option linter.unusedVariables false


theorem szPuzzle_fit (f n : Int) (ao : Option Addr) (N cap left : Nat) (w : World) (h : N ≤ left) (hl : left ≤ 1048576) :
    Calls Tryd.prog 22 #[.agg #[.int .i64 f, .int .i64 n, .slice ao N cap], .int .i64 (left : Int)] w fun e w' => e = .returned (.int .i64 ((left - N : Nat) : Int)) ∧ Below w.heap.size w w' := by
  have hd : decide (((left - N : Nat) : Int) < 0) = false := by simp
  go_enter Tryd.func22, Tryd.ntmps22
  go_wp2_with fail
  refine (szClueS_fit ao N cap left _ h hl).mono ?_
  rintro e w' ⟨rfl, rfl⟩
  go_wp2_with fail
  go_ret
  exact ⟨rfl, by go_grown⟩
theorem szPuzzle_over (f n : Int) (ao : Option Addr) (N cap left : Nat) (w : World) (h : left < N) (hl : left ≤ 1048576) (hm : N ≤ 9223372036854775807) :
    Calls Tryd.prog 22 #[.agg #[.int .i64 f, .int .i64 n, .slice ao N cap], .int .i64 (left : Int)] w fun e w' => e = .returned (.int .i64 (-1)) ∧ Below w.heap.size w w' := by
  go_enter Tryd.func22, Tryd.ntmps22
  go_wp2_with fail
  refine (szClueS_over ao N cap left _ h hl hm).mono ?_
  rintro e w' ⟨rfl, rfl⟩
  go_wp2_with fail
  go_ret
  exact ⟨rfl, by go_grown⟩
theorem own_far {w : World} {base : Nat} {e : TypeId} {size : Nat} {v : Value} {n : Nat} {xs : List Value} {a : Addr} {u : Value} (h : w.ownsRow base e size v n xs) (hne : ∀ k, v.ownBlock = some k → k ≠ a.block) : (w.setCell a u).ownsRow base e size v n xs := own_same h (fun k hk => Below.heap_setCell _ _ _ _ (hne k hk))
theorem toPuzzle_any (f n : Int) (ao : Option Addr) (cap : Nat) (l : List Clu) (N : Nat) (w : World) (Hn : Hid (N = l.length)) (hl : N ≤ 1048576) (Hc : CluesAt w ao l) :
    Calls Tryd.prog 24 #[.agg #[.int .i64 f, .int .i64 n, .slice ao N cap]] w fun e w' => ∃ g cap', e = .returned (.agg #[.int .i64 f, .int .i64 n, .slice (some ⟨g, 0, none⟩) N cap']) ∧ w'.ownsRow w.heap.size 83 4 (.slice (some ⟨g, 0, none⟩) N cap') N (ks l) ∧ Below w.heap.size w w' := by
  have HWx : Hid (∃ W, ((w.alloc (Obj.cells #[.int .i64 f, .int .i64 n, .slice ao N cap] 39)).alloc (Obj.cells #[.int .i64 0, .int .i64 0, .slice none 0 0] 44)).alloc (Obj.cells #[.int .i64 f, .int .i64 n, .slice none 0 0] 44) = W ∧ Below w.heap.size w W ∧ W.heap.size = w.heap.size + 3 ∧
      W.heap[w.heap.size + 1]? = some (.cells #[.int .i64 0, .int .i64 0, .slice none 0 0] 44 (0, 0)) ∧ W.heap[w.heap.size + 2]? = some (.cells #[.int .i64 f, .int .i64 n, .slice none 0 0] 44 (0, 0))) := by
    obtain ⟨A, hA⟩ : ∃ A, w.alloc (Obj.cells #[.int .i64 f, .int .i64 n, .slice ao N cap] 39) = A := ⟨_, rfl⟩
    have sA : A.heap.size = w.heap.size + 1 := by rw [← hA]; simp
    have bA : Below w.heap.size w A := by rw [← hA]; exact (Below.refl _ _).alloc (Nat.le_refl _) _
    obtain ⟨B, hB⟩ : ∃ B, A.alloc (Obj.cells #[.int .i64 0, .int .i64 0, .slice none 0 0] 44) = B := ⟨_, rfl⟩
    have sB : B.heap.size = w.heap.size + 2 := by rw [← hB]; simp [sA]
    have rB := heap_alloc_new A (Obj.cells #[.int .i64 0, .int .i64 0, .slice none 0 0] 44)
    rw [hB, sA] at rB
    have bB : Below w.heap.size w B := by rw [← hB]; exact bA.alloc (by omega) _
    refine ⟨B.alloc (Obj.cells #[.int .i64 f, .int .i64 n, .slice none 0 0] 44), by rw [hA, hB], bB.alloc (by omega) _, by simp [sB], ?_, ?_⟩
    · rw [Below.heap_alloc _ _ _ (by omega)]; exact rB
    · have rW := heap_alloc_new B (Obj.cells #[.int .i64 f, .int .i64 n, .slice none 0 0] 44)
      rw [sB] at rW; exact rW
  obtain ⟨W, hW, hbW, hsW, rY, rX⟩ := HWx.out
  have HT := Lib.hid (toClueS_any ao cap l N W Hn hl (Hc.kept hbW))
  have HW := Lib.hid hW
  clear hW
  go_enter Tryd.func24, Tryd.ntmps24
  go_wp2_with fail
  rw [HW.out]
  refine HT.out.mono ?_
  rintro e w2 ⟨cap2, rfl, own2, hb2⟩
  have hs2 := hb2.size
  have rX2 := (hb2.block (w.heap.size + 2) (by omega)).trans rX
  have rY2 := (hb2.block (w.heap.size + 1) (by omega)).trans rY
  have x0 : w2.cell? ⟨w.heap.size + 2, 0, none⟩ = some (.int .i64 f) := cell_of_row _ _ _ _ _ _ rX2
  have x1 : w2.cell? ⟨w.heap.size + 2, 1, none⟩ = some (.int .i64 n) := cell_of_row _ _ _ _ _ _ rX2
  have x2 : w2.cell? ⟨w.heap.size + 2, 2, none⟩ = some (.slice none 0 0) := cell_of_row _ _ _ _ _ _ rX2
  have y0 : w2.cell? ⟨w.heap.size + 1, 0, none⟩ = some (.int .i64 0) := cell_of_row _ _ _ _ _ _ rY2
  have y1 : w2.cell? ⟨w.heap.size + 1, 1, none⟩ = some (.int .i64 0) := cell_of_row _ _ _ _ _ _ rY2
  have y2 : w2.cell? ⟨w.heap.size + 1, 2, none⟩ = some (.slice none 0 0) := cell_of_row _ _ _ _ _ _ rY2
  have gx : ∀ j, w2.frozen? ⟨w.heap.size + 2, j, none⟩ = false := fun j => frozen_of_row _ _ _ _ _ rX2
  have gy : ∀ j, w2.frozen? ⟨w.heap.size + 1, j, none⟩ = false := fun j => frozen_of_row _ _ _ _ _ rY2
  have Own2 := Lib.hid own2
  have HB := Lib.hid (hbW.trans (hb2.mono hbW.size))
  have hbWs := hbW.size
  clear own2 hb2 hbW HWx rX rY rX2 rY2
  go_wp2_with fail
  have HR : Hid (((((w2.setCell ⟨w.heap.size + 1 + 1, 2, none⟩ (.slice (some ⟨W.heap.size, 0, none⟩) N cap2)).setCell ⟨w.heap.size + 1, 0, none⟩ (.int .i64 f)).setCell ⟨w.heap.size + 1, 1, none⟩ (.int .i64 n)).setCell ⟨w.heap.size + 1, 2, none⟩ (.slice (some ⟨W.heap.size, 0, none⟩) N cap2)).ownsRow w.heap.size 83 4 (.slice (some ⟨W.heap.size, 0, none⟩) N cap2) N (ks l)) :=
    own_far (own_far (own_far (own_far (own_base hbWs Own2.out) (fun k hk => by simp [Value.ownBlock] at hk; show k ≠ w.heap.size + 1 + 1; omega)) (fun k hk => by simp [Value.ownBlock] at hk; show k ≠ w.heap.size + 1; omega)) (fun k hk => by simp [Value.ownBlock] at hk; show k ≠ w.heap.size + 1; omega)) (fun k hk => by simp [Value.ownBlock] at hk; show k ≠ w.heap.size + 1; omega)
  have HB4 := Lib.hid ((((HB.out.setCell (p := ⟨w.heap.size + 1 + 1, 2, none⟩) (by show w.heap.size ≤ w.heap.size + 1 + 1; omega) (.slice (some ⟨W.heap.size, 0, none⟩) N cap2)).setCell (p := ⟨w.heap.size + 1, 0, none⟩) (by show w.heap.size ≤ w.heap.size + 1; omega) (.int .i64 f)).setCell (p := ⟨w.heap.size + 1, 1, none⟩) (by show w.heap.size ≤ w.heap.size + 1; omega) (.int .i64 n)).setCell (p := ⟨w.heap.size + 1, 2, none⟩) (by show w.heap.size ≤ w.heap.size + 1; omega) (.slice (some ⟨W.heap.size, 0, none⟩) N cap2))
  rw [hsW] at HR HB4
  obtain ⟨V, hV⟩ : ∃ V, (((w2.setCell ⟨w.heap.size + 1 + 1, 2, none⟩ (.slice (some ⟨w.heap.size + 3, 0, none⟩) N cap2)).setCell ⟨w.heap.size + 1, 0, none⟩ (.int .i64 f)).setCell ⟨w.heap.size + 1, 1, none⟩ (.int .i64 n)).setCell ⟨w.heap.size + 1, 2, none⟩ (.slice (some ⟨w.heap.size + 3, 0, none⟩) N cap2) = V := ⟨_, rfl⟩
  have z0 : V.cell? ⟨w.heap.size + 1, 0, none⟩ = some (.int .i64 f) := by rw [← hV]; simp [go_sem, y0]
  have z1 : V.cell? ⟨w.heap.size + 1, 1, none⟩ = some (.int .i64 n) := by rw [← hV]; simp [go_sem, y1]
  have z2 : V.cell? ⟨w.heap.size + 1, 2, none⟩ = some (.slice (some ⟨w.heap.size + 3, 0, none⟩) N cap2) := by rw [← hV]; simp [go_sem, y2]
  rw [hV] at HR HB4 ⊢
  refine bodyPost_ret (v := .agg #[.int .i64 f, .int .i64 n, .slice (some ⟨w.heap.size + 3, 0, none⟩) N cap2]) ?_ rfl ⟨_, _, rfl, HR.out, HB4.out⟩
  simp [results, Tryd.results24, go_sem, z0, z1, z2]
theorem eqPuzzle_own {b1 b2 : Nat} (f n : Int) (v1 v2 : Value) (l : List Clu) (N M : Nat) (w : World) (hn : N = l.length) (hm : M = l.length) (hl : N ≤ 9223372036854775807) (h1 : w.ownsRow b1 83 4 v1 N (ks l)) (h2 : w.ownsRow b2 83 4 v2 M (ks l)) :
    Calls Tryd.prog 26 #[.agg #[.int .i64 f, .int .i64 n, v1], .agg #[.int .i64 f, .int .i64 n, v2]] w fun e w' => e = .returned (.bool true) ∧ Below w.heap.size w w' := by
  have e1 : (f != f) = false := by simp
  have e2 : (n != n) = false := by simp
  obtain ⟨ao, ka, rfl, hc, _⟩ := kown_shape h1 hn
  obtain ⟨bo, kb, rfl, hd, _⟩ := kown_shape h2 hm
  have HN := Lib.hid hn
  have HM := Lib.hid hm
  clear h1 h2 hn hm
  obtain ⟨W, hW⟩ : ∃ W, (w.alloc (Obj.cells #[.int .i64 f, .int .i64 n, .slice ao N ka] 44)).alloc (Obj.cells #[.int .i64 f, .int .i64 n, .slice bo M kb] 44) = W := ⟨_, rfl⟩
  have hbW : Below w.heap.size w W := by rw [← hW]; exact ((Below.refl _ _).alloc (Nat.le_refl _) _).alloc (by simp) _
  have HE := Lib.hid (eqClueS_any ao bo ka kb l N M W HN.out HM.out hl (hc.kept hbW) (hd.kept hbW))
  have HW := Lib.hid hW
  clear hW
  go_enter Tryd.func26, Tryd.ntmps26
  go_wp2_with fail
  rw [HW.out]
  refine HE.out.mono ?_
  rintro e w2 ⟨rfl, hb2⟩
  have HB := Lib.hid (hbW.trans (hb2.mono hbW.size))
  clear hb2
  go_wp2_with fail
  go_ret
  exact ⟨rfl, HB.out⟩

end Go.Proofs.YtnhkabhchepieaaDoor
