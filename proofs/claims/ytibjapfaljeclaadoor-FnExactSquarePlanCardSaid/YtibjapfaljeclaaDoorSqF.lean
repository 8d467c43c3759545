/- The first square: the program. -/
import Derived.Laws.ResultCell
import Derived.Test.YtibjapfaljeclaaDoorSqI
namespace Go.Proofs.YtibjapfaljeclaaDoor
open Go.ChangeShapes Go.WideShapes Go.ChangeAt Go.RowKit
set_option linter.unusedVariables false


theorem sqs_fit {F : Nat} {l : List (Int × Int)} (hg : gdB (F : Int) l = true) : wP (lkT l l.length) 10 = sqW l F F ∧ (sqW l F F).length ≤ 10000 := by
  have hF := gd_fr hg
  have hl := sqW_len l (F := F) (by omega) F
  exact ⟨wP_eq hg (fun v u => by rw [lk_bit, adjT_adj hg]), by omega⟩
theorem col_mem {α : Type} {p : Nat → Bool} {g : Nat → List α} {q : α} : ∀ k, q ∈ col p g k → ∃ i, q ∈ g i
  | 0, h => by simp [col] at h
  | k + 1, h => by
    rw [col] at h
    rcases List.mem_append.1 h with h | h
    · exact col_mem k h
    · cases hp : p k
      · rw [hp] at h; simp at h
      · rw [hp] at h; exact ⟨k, h⟩
theorem sq_shape {l : List (Int × Int)} {F k : Nat} {q : List Int} (h : q ∈ sqW l F k) : ∃ a x y z : Nat, q = qd a x y z := by
  obtain ⟨a, h⟩ := col_mem _ h
  obtain ⟨x, h⟩ := col_mem _ h
  obtain ⟨y, h⟩ := col_mem _ h
  obtain ⟨z, h⟩ := col_mem _ h
  exact ⟨a, x, y, z, by simpa using h⟩
/-- The first of the squares, zeros where there is none. -/
def sqA : List (List Int) → Array Value
  | [] => #[.int .i64 0, .int .i64 0, .int .i64 0, .int .i64 0]
  | q :: _ => (ns q).toArray
def anyQ (T : List (List Int)) : Bool := !T.isEmpty
theorem results_cell_row2 {fn : Func} {p u : Tmp} {ty : TypeId} (h : fn.results = #[.cell p ty, .tmp u]) (tmps : Array Value) (w : World) (g : Nat) (v : Value)
    (hp : tmps.getD p undef = .pointer (some ⟨g, 0, none⟩)) (hl : (loadVar ty ⟨g, 0, none⟩).run Tryd.prog w = .ok v w) :
    (results fn tmps).run Tryd.prog w = .ok (.tuple #[v, tmps.getD u undef]) w := by
  rw [results_cell_tmp h, hp]
  simp [asAddr, hl]
theorem setQ {w : World} {B : Nat} {c0 c1 c2 c3 : Value} (h : w.heap[B]? = some (.cells #[c0, c1, c2, c3] 51 (0, 0))) (v0 v1 v2 v3 : Value) :
    ((((w.setCell ⟨B, 0, none⟩ v0).setCell ⟨B, 1, none⟩ v1).setCell ⟨B, 2, none⟩ v2).setCell ⟨B, 3, none⟩ v3).heap[B]? = some (.cells #[v0, v1, v2, v3] 51 (0, 0)) := by
  have h0 := heap_setCell_same _ _ 0 _ _ v0 h
  have h1 := heap_setCell_same _ _ 1 _ _ v1 h0
  have h2 := heap_setCell_same _ _ 2 _ _ v2 h1
  exact heap_setCell_same _ _ 3 _ _ v3 h2
theorem infoQ : (Tryd.prog.info? 51).map (·.size) = some 4 := by kernel_rfl

set_option maxHeartbeats 1600000 in
set_option maxRecDepth 20000 in
theorem firstSquare_any (F : Nat) (ao : Option Addr) (cap : Nat) (l : List (Int × Int)) (n : Nat) (w : World) (Hn : Hid (n = l.length)) (hs : n ≤ 1048576) (Hg : Hid (gdB (F : Int) l = true)) (HA : Hid (CallsAt w ao l)) :
    Calls Tryd.prog 26 #[.slice ao n cap] w fun e w' => e = .returned (.tuple #[.agg (sqA (sqW l F F)), .bool (anyQ (sqW l F F))]) ∧ Below w.heap.size w w' := by
  obtain ⟨T, hT⟩ : ∃ T, sqW l F F = T := ⟨_, rfl⟩
  have HT : Hid (wP (lkT l l.length) 10 = T ∧ T.length ≤ 10000) := Lib.hid (by rw [← hT]; exact sqs_fit Hg.out)
  have Hsh : Hid (∀ q, q ∈ T → ∃ a x y z : Nat, q = qd a x y z) := Lib.hid (fun q hq => sq_shape (l := l) (F := F) (k := F) (by rw [hT]; exact hq))
  rw [hT]
  clear hT
  obtain ⟨B, hB⟩ : ∃ B, w.heap.size = B := ⟨_, rfl⟩
  obtain ⟨w1, hw1⟩ : ∃ w1, w.alloc (.cells #[.int .i64 0, .int .i64 0, .int .i64 0, .int .i64 0] 51) = w1 := ⟨_, rfl⟩
  have HB1 : Hid (w1.heap[B]? = some (.cells #[.int .i64 0, .int .i64 0, .int .i64 0, .int .i64 0] 51 (0, 0))) := Lib.hid (by rw [← hw1, ← hB]; exact heap_alloc_new w _)
  have Hb1 : Hid (Below B w w1) := Lib.hid (by rw [← hw1]; exact (Below.refl _ _).alloc (by omega) _)
  have Hw1 := Lib.hid hw1
  have HBe := Lib.hid hB
  have hB1 : B < w1.heap.size := (Array.getElem?_eq_some_iff.1 HB1.out).1
  clear hw1
  go_enter Tryd.func26, Tryd.ntmps26
  go_wp2_with fail
  try rw [Hw1.out]
  try rw [hB]
  clear Hw1 hB
  refine (squaresOf_any ao cap l n 1 w1 Hn hs (Lib.hid (gd_two Hg.out)) (Lib.hid (HA.out.kept (by rw [HBe.out]; exact Hb1.out))) (by omega) T HT).mono ?_
  rintro e w2 ⟨v, rfl, own, hb⟩
  have hrow := (hb.block _ hB1).trans HB1.out
  have hb2 := Hb1.out.trans (hb.mono (by omega))
  have Hrow := Lib.hid hrow
  have Hb2 := Lib.hid hb2
  clear hb2 hb
  cases T with
  | nil =>
    have own0 : w2.ownsRow w1.heap.size 51 4 v 0 [] := own
    obtain ⟨A, C, rfl⟩ := found_shape own0
    have d0 := cell_of_row w2 B 0 _ _ _ hrow
    have d1 := cell_of_row w2 B 1 _ _ _ hrow
    have d2 := cell_of_row w2 B 2 _ _ _ hrow
    have d3 := cell_of_row w2 B 3 _ _ _ hrow
    have z0 := frozen_of_row w2 B 0 _ _ hrow
    have z1 := frozen_of_row w2 B 1 _ _ hrow
    have z2 := frozen_of_row w2 B 2 _ _ hrow
    have z3 := frozen_of_row w2 B 3 _ _ hrow
    clear own own0
    have Hz := Lib.hid (setQ Hrow.out (.int .i64 0) (.int .i64 0) (.int .i64 0) (.int .i64 0))
    have Hl := Lib.hid (run_loadVar_row _ B 51 51 _ (0, 0) _ Hz.out Tryd.underlying51 rfl infoQ)
    have Hf := Lib.hid ((((Hb2.out.setCell (p := ⟨B, 0, none⟩) (Nat.le_refl _) (.int .i64 0)).setCell (p := ⟨B, 1, none⟩) (Nat.le_refl _) (.int .i64 0)).setCell (p := ⟨B, 2, none⟩) (Nat.le_refl _) (.int .i64 0)).setCell (p := ⟨B, 3, none⟩) (Nat.le_refl _) (.int .i64 0))
    go_wp2_with fail
    (try simp only [Exit.inBlock, Exit.then])
    refine bodyPost_ret (results_cell_row2 rfl _ _ B _ rfl Hl.out) rfl ?_
    exact ⟨rfl, by rw [HBe.out]; exact Hf.out⟩
  | cons q r =>
    obtain ⟨a, x, y, z, rfl⟩ := Hsh.out q (List.mem_cons_self ..)
    have own1 : w2.ownsRow w1.heap.size 51 4 v 1 (ns (qd a x y z)) := by
      have e : (List.take (1 : Int).toNat (qd a x y z :: r)) = [qd a x y z] := rfl
      rw [e] at own
      simpa using own
    obtain ⟨g, C, rfl⟩ : ∃ g C, v = .slice (some ⟨g, 0, none⟩) 1 C := by
      rcases own1.2 with ⟨_, h0⟩ | ⟨g, cap, cur, h, _⟩
      · cases h0
      · exact ⟨g, cap, h⟩
    have d0 := cell_of_row w2 B 0 _ _ _ hrow
    have d1 := cell_of_row w2 B 1 _ _ _ hrow
    have d2 := cell_of_row w2 B 2 _ _ _ hrow
    have d3 := cell_of_row w2 B 3 _ _ _ hrow
    have z0 := frozen_of_row w2 B 0 _ _ hrow
    have z1 := frozen_of_row w2 B 1 _ _ hrow
    have z2 := frozen_of_row w2 B 2 _ _ hrow
    have z3 := frozen_of_row w2 B 3 _ _ hrow
    have c0 : w2.cell? ⟨g, 0, none⟩ = some (.int .i64 a) := own1.cellAt 0 (by omega)
    have c1 : w2.cell? ⟨g, 1, none⟩ = some (.int .i64 x) := own1.cellAt 1 (by omega)
    have c2 : w2.cell? ⟨g, 2, none⟩ = some (.int .i64 y) := own1.cellAt 2 (by omega)
    have c3 : w2.cell? ⟨g, 3, none⟩ = some (.int .i64 z) := own1.cellAt 3 (by omega)
    clear own own1
    have Hz := Lib.hid (setQ Hrow.out (.int .i64 a) (.int .i64 x) (.int .i64 y) (.int .i64 z))
    have Hl := Lib.hid (run_loadVar_row _ B 51 51 _ (0, 0) _ Hz.out Tryd.underlying51 rfl infoQ)
    have Hf := Lib.hid ((((Hb2.out.setCell (p := ⟨B, 0, none⟩) (Nat.le_refl _) (.int .i64 a)).setCell (p := ⟨B, 1, none⟩) (Nat.le_refl _) (.int .i64 x)).setCell (p := ⟨B, 2, none⟩) (Nat.le_refl _) (.int .i64 y)).setCell (p := ⟨B, 3, none⟩) (Nat.le_refl _) (.int .i64 z))
    go_wp2_with fail
    (try simp only [Exit.inBlock, Exit.then])
    refine bodyPost_ret (results_cell_row2 rfl _ _ B _ rfl Hl.out) rfl ?_
    exact ⟨rfl, by rw [HBe.out]; exact Hf.out⟩

end Go.Proofs.YtibjapfaljeclaaDoor
