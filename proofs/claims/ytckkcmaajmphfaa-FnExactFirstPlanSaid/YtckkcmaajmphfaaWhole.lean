/- Whether all know, in the program. -/
import Derived.Test.YtckkcmaajmphfaaCount
namespace Go.Proofs.Ytckkcmaajmphfaa
open Go.ChangeShapes Go.WideShapes Go.ChangeAt Go.RowKit
set_option linter.unusedVariables false

theorem cell_below {w w' : World} {a : Addr} {v : Value} (h : w.cell? a = some v) (hb : Below w.heap.size w w') : w'.cell? a = some v := (hb.cell (World.block_lt_of_cell? w _ h)).trans h

theorem count_lit (f : Int) (s : Nat → Nat) (w : World) (hs : ∀ i, s i < 1024) :
    Calls Try.prog 43 #[.agg #[.int .i64 f, .int .u16 (s 0), .int .u16 (s 1), .int .u16 (s 2), .int .u16 (s 3), .int .u16 (s 4), .int .u16 (s 5), .int .u16 (s 6), .int .u16 (s 7), .int .u16 (s 8), .int .u16 (s 9)]] w fun e w' => e = .returned (.int .i64 (cntTo s 10)) ∧ Below w.heap.size w w' := count_any f s w hs

theorem KA_cell {w : World} {b : Nat} {f : Int} {s : Nat → Nat} {t : TypeId} {fr : Nat × Nat} (hb : w.heap[b]? = some (.cells (KA f s) t fr)) (i : Nat) (hi : i < 10) : w.cell? ⟨b, i + 1, none⟩ = some (.int .u16 (s i)) := by
  rw [cell_of_row w b (i + 1) _ t fr hb, Nat.add_comm, KA_get f s i hi]

theorem KA_cell0 {w : World} {b : Nat} {f : Int} {s : Nat → Nat} {t : TypeId} {fr : Nat × Nat} (hb : w.heap[b]? = some (.cells (KA f s) t fr)) : w.cell? ⟨b, 0, none⟩ = some (.int .i64 f) := by
  rw [cell_of_row w b 0 _ t fr hb, KA_zero]

set_option maxRecDepth 20000 in
theorem isWhole_any (f : Int) (s : Nat → Nat) (w : World) (hs : ∀ i, s i < 1024) (h0 : 0 ≤ f) (h1 : f ≤ 10) :
    Calls Try.prog 33 #[.agg (KA f s)] w fun e w' => e = .returned (.bool ((cntTo s 10 : Int) == f * f)) ∧ Below w.heap.size w w' := by
  have Hs := Lib.hid hs
  clear hs
  have hl0 : 0 ≤ f * f := Int.mul_nonneg h0 h0
  have hl1 : f * f ≤ 100 := by
    have : f * f ≤ 10 * 10 := Int.mul_le_mul h1 h1 h0 (by omega)
    omega
  have HB := Lib.hid (heap_alloc_new w (.cells (KA f s) 45))
  go_enter Try.func33, Try.ntmps33
  go_wp2_with fail
  go_region_held3 (fun w' => w'.cell? ⟨w.heap.size, 0, none⟩ = some (.int .i64 f) ∧ w'.cell? ⟨w.heap.size, 1, none⟩ = some (.int .u16 (s 0)) ∧ w'.cell? ⟨w.heap.size, 2, none⟩ = some (.int .u16 (s 1)) ∧ w'.cell? ⟨w.heap.size, 3, none⟩ = some (.int .u16 (s 2)) ∧ w'.cell? ⟨w.heap.size, 4, none⟩ = some (.int .u16 (s 3)) ∧ w'.cell? ⟨w.heap.size, 5, none⟩ = some (.int .u16 (s 4)) ∧ w'.cell? ⟨w.heap.size, 6, none⟩ = some (.int .u16 (s 5)) ∧ w'.cell? ⟨w.heap.size, 7, none⟩ = some (.int .u16 (s 6)) ∧ w'.cell? ⟨w.heap.size, 8, none⟩ = some (.int .u16 (s 7)) ∧ w'.cell? ⟨w.heap.size, 9, none⟩ = some (.int .u16 (s 8)) ∧ w'.cell? ⟨w.heap.size, 10, none⟩ = some (.int .u16 (s 9)) ∧ Below w.heap.size w w')
    (first
      | exact ⟨KA_cell0 HB.out, KA_cell HB.out 0 (by decide), KA_cell HB.out 1 (by decide), KA_cell HB.out 2 (by decide), KA_cell HB.out 3 (by decide), KA_cell HB.out 4 (by decide), KA_cell HB.out 5 (by decide), KA_cell HB.out 6 (by decide), KA_cell HB.out 7 (by decide), KA_cell HB.out 8 (by decide), KA_cell HB.out 9 (by decide), ((Below.refl _ _).alloc (Nat.le_refl _) _).drew⟩
      | (go_split_ands
         refine ⟨?_, ?_, ?_, ?_, ?_, ?_, ?_, ?_, ?_, ?_, ?_, ?_⟩
         all_goals first | exact cell_below (by assumption) hb2 | exact Below.trans (by assumption) (hb2.mono (Below.size (by assumption))))
      | go_keep)
    (first | (go_at_call 43; refine (count_lit f s _ Hs.out).mono ?_; rintro e w2 ⟨rfl, hb2⟩))
  have hB2 : Below w.heap.size w w2 := by
    have h := hb2
    exact ((Below.refl _ _).alloc (Nat.le_refl _) _).drew.trans (h.mono (by simp))
  go_wp2_with fail
  go_ret
  exact ⟨ret_bool (by rw [IntWalk.i64_in _ (by omega)]), hB2⟩

end Go.Proofs.Ytckkcmaajmphfaa
