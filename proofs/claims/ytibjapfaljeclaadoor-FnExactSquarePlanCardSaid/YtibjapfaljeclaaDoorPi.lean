/- Who is put in next: the program. -/
import Derived.Test.YtibjapfaljeclaaDoorTz
namespace Go.Proofs.YtibjapfaljeclaaDoor
open Go.ChangeShapes Go.WideShapes Go.ChangeAt Go.RowKit
set_option linter.unusedVariables false


theorem callOf_b (x y : Nat) (w : World) (h : x ≠ y) : Calls Tryd.prog 46 #[.int .i64 x, .int .i64 y] w fun e w' => e = .returned (.agg #[.int .i64 (cmm x y).1, .int .i64 (cmm x y).2]) ∧ Below w.heap.size w w' := by
  by_cases hl : x < y
  · have e : cmm x y = ((x : Int), (y : Int)) := by unfold cmm; rw [Nat.min_eq_left (by omega), Nat.max_eq_right (by omega)]
    rw [e]
    refine (callOf_less x y w (by omega)).mono ?_
    rintro e w' ⟨rfl, rfl⟩
    exact ⟨rfl, (Below.refl _ _).alloc (Nat.le_refl _) _⟩
  · have e : cmm x y = ((y : Int), (x : Int)) := by unfold cmm; rw [Nat.min_eq_right (by omega), Nat.max_eq_left (by omega)]
    rw [e]
    refine (callOf_more x y w (by omega)).mono ?_
    rintro e w' ⟨rfl, rfl⟩
    exact ⟨rfl, (Below.refl _ _).alloc (Nat.le_refl _) _⟩
theorem index_LA (d : Nat → Nat) (w : World) : ∀ k, k < 10 → (Instr.index 41 (.agg (LA d)) (.int .i64 (k : Nat))).run Tryd.prog w = .ok (.int .u16 ((d k : Nat) : Int)) w := by
  intro k hk
  obtain rfl | rfl | rfl | rfl | rfl | rfl | rfl | rfl | rfl | rfl : k = 0 ∨ k = 1 ∨ k = 2 ∨ k = 3 ∨ k = 4 ∨ k = 5 ∨ k = 6 ∨ k = 7 ∨ k = 8 ∨ k = 9 := by omega
  all_goals first | kernel_rfl | rfl
/-- What is answered where somebody can be put in, and where nobody can. -/
def PR : Option (Nat × Nat) → Int → Int → Bool → Prop
  | none, _, _, ok => ok = false
  | some (x, y), A, C, ok => ok = true ∧ A = (cmm x y).1 ∧ C = (cmm x y).2
def pnx (S : Nat → Nat) (t : Nat) : Option (Nat × Nat) :=
  match frst (pn S t) 10 with
  | none => none
  | some v => some (v, (frst (fun u => (S v &&& t).testBit u) 10).getD 0)
theorem setC {w : World} {B : Nat} {c0 c1 : Value} (h : w.heap[B]? = some (.cells #[c0, c1] 35 (0, 0))) (v0 v1 : Value) :
    ((w.setCell ⟨B, 0, none⟩ v0).setCell ⟨B, 1, none⟩ v1).heap[B]? = some (.cells #[v0, v1] 35 (0, 0)) := by
  have h0 := heap_setCell_same _ _ 0 _ _ v0 h
  exact heap_setCell_same _ _ 1 _ _ v1 h0
theorem infoC2 : (Tryd.prog.info? 35).map (·.size) = some 2 := by kernel_rfl

set_option maxHeartbeats 4000000 in
set_option maxRecDepth 20000 in
theorem putIn_any (S : Nat → Nat) (t : Nat) (w : World) (Hs : Hid (∀ v, S v < 1024)) (ht : t < 1024) (Hd : Hid (∀ v, (S v).testBit v = false)) (HT : Hid (TabHere w)) :
    Calls Tryd.prog 39 #[.agg (LA S), .int .u16 t] w fun e w' => ∃ A C ok, e = .returned (.tuple #[.agg #[.int .i64 A, .int .i64 C], .bool ok]) ∧ PR (pnx S t) A C ok ∧ Below w.heap.size w w' := by
  obtain ⟨B, hB⟩ : ∃ B, w.heap.size = B := ⟨_, rfl⟩
  have HBe := Lib.hid hB
  obtain ⟨w1, hw1⟩ : ∃ w1, (w.alloc (.cells (LA S) 41)).alloc (.cells #[.int .i64 0, .int .i64 0] 35) = w1 := ⟨_, rfl⟩
  have HK1 : Hid (w1.heap[B]? = some (.cells (LA S) 41 (0, 0))) := Lib.hid (by rw [← hw1, ← hB, Below.heap_alloc _ _ _ (by simp), heap_alloc_new])
  have HR1 : Hid (w1.heap[B + 1]? = some (.cells #[.int .i64 0, .int .i64 0] 35 (0, 0))) := Lib.hid (by
    rw [← hw1, ← hB]
    have := heap_alloc_new (w.alloc (.cells (LA S) 41)) (.cells #[.int .i64 0, .int .i64 0] 35)
    simpa using this)
  have Hb1 : Hid (Below B w w1) := Lib.hid (by rw [← hw1, ← hB]; exact ((Below.refl _ _).alloc (Nat.le_refl _) _).alloc (by simp) _)
  have Hw1 := Lib.hid hw1
  clear hw1
  go_enter Tryd.func39, Tryd.ntmps39
  go_upto_region 1 with (fail)
  try rw [Hw1.out]
  try rw [hB]
  clear Hw1 hB
  go_wp2_with (refine wpList_load_row rfl 41 (.tmp 2) rfl B rfl 41 (LA S) (0, 0) _ HK1.out Tryd.underlying41 rfl (by rw [infoL, LA_size]) ?_)
  go_loopw [10] (fun i wr => ∃ k : Nat, k ≤ 10 ∧ i = .int .i64 k ∧ Hid (frst (pn S t) k = none) ∧ Hid (wr.heap[B + 1]? = some (.cells #[.int .i64 0, .int .i64 0] 35 (0, 0))) ∧ Below B w wr) (fun i _ => 10 - (intOf i).toNat)
  case atStart => exact ⟨0, Nat.zero_le _, rfl, Lib.hid rfl, HR1, Hb1.out⟩
  case round =>
    clear HR1 Hb1
    obtain ⟨k, hk, rfl, HN, HR, hbel⟩ := hrel
    have hr := HR.out
    have d0 : wr.cell? ⟨B + 1, 0, none⟩ = some (.int .i64 0) := by rw [cell_of_row _ _ _ _ _ _ hr]; rfl
    have d1 : wr.cell? ⟨B + 1, 1, none⟩ = some (.int .i64 0) := by rw [cell_of_row _ _ _ _ _ _ hr]; rfl
    have z0 := frozen_of_row wr (B + 1) 0 _ _ hr
    have z1 := frozen_of_row wr (B + 1) 1 _ _ hr
    have hrB : B + 1 < wr.heap.size := (Array.getElem?_eq_some_iff.1 hr).1
    by_cases hlt : k < 10
    · have hk2 : (k : Int) < 10 := by omega
      have hix := fun w => index_LA S w k hlt
      have hand := bits_and_nat (S k) t (Hs.out k) ht
      obtain ⟨q, hq⟩ : ∃ q, S k &&& t = q := ⟨_, rfl⟩
      have hq1 : q < 1024 := by rw [← hq]; exact and_small (Hs.out k) _
      rw [hq] at hand
      have hbw : Below w.heap.size w wr := by rw [HBe.out]; exact hbel
      have HTw : Hid (TabHere wr) := Lib.hid (HT.out.kept hbw)
      clear hr
      by_cases hq0 : q = 0
      · have hne : ((q : Int) != 0) = false := by simp [hq0]
        have HN' : Hid (frst (pn S t) (k + 1) = none) := Lib.hid (frst_no HN.out (by rw [pn, hq, hq0]; rfl))
        clear hq0 hq
        go_wp2_with fail
        go_roundw
        case rel => exact ⟨k + 1, by omega, by go_num, HN', HR, hbel⟩
        case measure => simp [intOf]; omega
      · have hne : ((q : Int) != 0) = true := by simp; omega
        have hqb : (S k &&& t != 0) = true := by rw [hq]; simpa using hq0
        cases hb : t.testBit k
        · have Hbit := Lib.hid hb
          have hy : ∃ y, frst (fun u => q.testBit u) 10 = some y := by
            have h0 := (tz_tab ⟨q, hq1⟩ hq0).2.2
            exact Option.isSome_iff_exists.1 h0
          obtain ⟨y, hy⟩ := hy
          have hyb := (frst_some 10 hy).2
          have hky : k ≠ y := fun e => by
            have h1 : q.testBit y = true := hyb
            rw [← hq, Nat.testBit_and, ← e, Hd.out k] at h1
            cases h1
          have Hpnx : Hid (pnx S t = some (k, y)) := Lib.hid (by
            have h10 : frst (pn S t) 10 = some k := by
              have h1 : frst (pn S t) (k + 1) = some k := frst_yes HN.out (by rw [pn, hqb, hb]; rfl)
              have h2 : ∀ m, frst (pn S t) (k + 1 + m) = some k := fun m => by
                induction m with
                | zero => exact h1
                | succ m ih => exact frst_keep ih
              have := h2 (9 - k)
              rw [show k + 1 + (9 - k) = 10 by omega] at this
              exact this
            rw [pnx, h10]
            simp only [hq, hy, Option.getD_some])
          have Hy := Lib.hid hy
          clear hb hy hyb hq hqb hq0
          go_wp2_with fail
          refine (has_any t k wr ht hlt).mono ?_
          rintro e w' ⟨rfl, rfl⟩
          rw [Hbit.out]
          go_wp2_with fail
          refine (first_any q y wr hq1 HTw Hy.out).mono ?_
          rintro e w' ⟨rfl, rfl⟩
          go_wp2_with fail
          refine (callOf_b k y wr hky).mono ?_
          rintro e w6 ⟨rfl, hb6⟩
          obtain ⟨A, hA⟩ : ∃ A, (cmm k y).1 = A := ⟨_, rfl⟩
          obtain ⟨C, hC⟩ : ∃ C, (cmm k y).2 = C := ⟨_, rfl⟩
          rw [hA, hC]
          have Hpr : Hid (PR (pnx S t) A C true) := Lib.hid (by rw [Hpnx.out]; exact ⟨rfl, hA.symm, hC.symm⟩)
          have d0 := cell_old hb6 d0
          have d1 := cell_old hb6 d1
          have hr6 := (hb6.block _ hrB).trans HR.out
          have z0 := frozen_of_row w6 (B + 1) 0 _ _ hr6
          have z1 := frozen_of_row w6 (B + 1) 1 _ _ hr6
          have Hl := Lib.hid (run_loadVar_row _ (B + 1) 35 35 _ (0, 0) _ (setC hr6 (.int .i64 A) (.int .i64 C)) Tryd.underlying35 rfl infoC2)
          have Hf := Lib.hid ((((hbw.trans (hb6.mono hbw.size)).setCell (p := ⟨B + 1, 0, none⟩) (by show _ ≤ B + 1; rw [HBe.out]; omega) (.int .i64 A)).setCell (p := ⟨B + 1, 1, none⟩) (by show _ ≤ B + 1; rw [HBe.out]; omega) (.int .i64 C)))
          clear hA hC hr6 hb6 hbw hbel
          go_wp2_with fail
          (try simp only [Exit.inBlock, Exit.then])
          refine bodyPost_ret (results_cell_row2 rfl _ _ (B + 1) _ rfl Hl.out) rfl ?_
          exact ⟨A, C, true, rfl, Hpr.out, Hf.out⟩
        · have Hbit := Lib.hid hb
          have HN' : Hid (frst (pn S t) (k + 1) = none) := Lib.hid (frst_no HN.out (by rw [pn, hb]; simp))
          clear hb hq hqb hq0
          go_wp2_with fail
          refine (has_any t k wr ht hlt).mono ?_
          rintro e w' ⟨rfl, rfl⟩
          rw [Hbit.out]
          go_wp2_with fail
          go_roundw
          case rel => exact ⟨k + 1, by omega, by go_num, HN', HR, hbel⟩
          case measure => simp [intOf]; omega
    · obtain rfl : k = 10 := by omega
      have Hpr : Hid (PR (pnx S t) 0 0 false) := Lib.hid (by rw [pnx, HN.out]; rfl)
      have Hl := Lib.hid (run_loadVar_row _ (B + 1) 35 35 _ (0, 0) _ (setC hr (.int .i64 0) (.int .i64 0)) Tryd.underlying35 rfl infoC2)
      have hbw : Below w.heap.size w wr := by rw [HBe.out]; exact hbel
      have Hf := Lib.hid ((hbw.setCell (p := ⟨B + 1, 0, none⟩) (by show _ ≤ B + 1; rw [HBe.out]; omega) (.int .i64 0)).setCell (p := ⟨B + 1, 1, none⟩) (by show _ ≤ B + 1; rw [HBe.out]; omega) (.int .i64 0))
      clear hr hbw hbel
      go_wp2_with fail
      (try simp only [Exit.inBlock, Exit.then])
      refine bodyPost_ret (results_cell_row2 rfl _ _ (B + 1) _ rfl Hl.out) rfl ?_
      exact ⟨0, 0, false, rfl, Hpr.out, Hf.out⟩

end Go.Proofs.YtibjapfaljeclaaDoor
