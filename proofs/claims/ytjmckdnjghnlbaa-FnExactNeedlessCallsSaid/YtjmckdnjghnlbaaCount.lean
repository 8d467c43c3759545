/- How many news all friends know together, as the program counts them. -/
import Derived.Test.YtjmckdnjghnlbaaOnes
import Derived.Deep.MidRow
namespace Go.Proofs.Ytjmckdnjghnlbaa
open Go.ChangeShapes Go.WideShapes Go.ChangeAt Go.RowKit

theorem pc_le : ∀ n : Fin 1024, pc n.val ≤ 10 := by decide +kernel

theorem setCount_any (x : Nat) (w : World) (hx : x < 1024) :
    Calls Try.prog 104 #[.int .u16 x] w fun e w' => e = .returned (.int .i64 (pc x)) ∧ Below w.heap.size w w' := by
  go_enter Try.func104, Try.ntmps104
  go_wp2_with fail
  refine (OnesCount16_any x w hx).mono ?_
  rintro e w1 ⟨rfl, hb⟩
  go_wp2_with fail
  go_ret
  exact ⟨rfl, hb⟩

def SL (s : Nat → Nat) : List Value := (List.range 10).map fun i => Value.int .u16 (s i)
theorem SL_length (s : Nat → Nat) : (SL s).length = 10 := by simp [SL]
theorem info65 : (Try.prog.info? 65).map (·.size) = some 10 := by kernel_rfl
theorem KA_range {w : World} {b : Nat} {f : Int} {s : Nat → Nat} {t : TypeId} {fr : Nat × Nat} (hb : w.heap[b]? = some (.cells (KA f s) t fr)) : w.rangeAt b 1 (SL s) := by
  intro j v hv
  have hj : j < 10 := by have := (List.getElem?_eq_some_iff.1 hv).1; rwa [SL_length] at this
  rw [cell_of_row w b (1 + j) _ t fr hb, KA_get f s j hj]
  simpa [SL, hj] using hv

theorem index_SL (s : Nat → Nat) (w : World) : ∀ k, k < 10 → (Instr.index 65 (.agg (SL s).toArray) (.int .i64 (k : Nat))).run Try.prog w = .ok (.int .u16 (s k)) w := by
  intro k hk
  obtain rfl | rfl | rfl | rfl | rfl | rfl | rfl | rfl | rfl | rfl : k = 0 ∨ k = 1 ∨ k = 2 ∨ k = 3 ∨ k = 4 ∨ k = 5 ∨ k = 6 ∨ k = 7 ∨ k = 8 ∨ k = 9 := by omega
  all_goals kernel_rfl

def cntTo (s : Nat → Nat) : Nat → Nat | 0 => 0 | k + 1 => cntTo s k + pc (s k)
theorem cntTo_le (s : Nat → Nat) (hs : ∀ i, s i < 1024) : ∀ k, cntTo s k ≤ 10 * k := by
  intro k
  induction k with
  | zero => simp [cntTo]
  | succ k ih => have := pc_le ⟨s k, hs k⟩; simp only at this; simp only [cntTo]; omega

set_option maxRecDepth 20000 in
theorem count_any (f : Int) (s : Nat → Nat) (w : World) (hs : ∀ i, s i < 1024) :
    Calls Try.prog 75 #[.agg (KA f s)] w fun e w' => e = .returned (.int .i64 (cntTo s 10)) ∧ Below w.heap.size w w' := by
  have Hs := Lib.hid hs
  clear hs
  go_enter Try.func75, Try.ntmps75
  go_wp2_with (with_reducible refine wpList_load_mid rfl 65 (.tmp 6) rfl w.heap.size 1 ?q1 (SL s) _ ?q2 Try.underlying65 rfl ?q3 ?_)
  case q1 => rfl
  case q2 => exact KA_range (heap_alloc_new w _)
  case q3 => rw [info65, SL_length]
  have Hb := Lib.hid ((Below.refl w.heap.size w).alloc (Nat.le_refl _) (.cells (KA f s) 67))
  go_loopw [3, 8] (fun t i wr => ∃ k : Nat, k ≤ 10 ∧ i = .int .i64 k ∧ t = .int .i64 (cntTo s k) ∧ Below w.heap.size w wr) (fun _ i _ => 10 - (intOf i).toNat)
  case atStart => exact ⟨0, Nat.zero_le _, rfl, rfl, Hb.out⟩
  case round =>
    obtain ⟨k, hk, rfl, rfl, hbel⟩ := hrel
    by_cases hlt : k < 10
    · have hix := fun W => index_SL s W k hlt
      have hpl := pc_le ⟨s k, Hs.out k⟩
      have hcl := cntTo_le s Hs.out k
      simp only at hpl
      have hsz := hbel.size
      go_wp2_with fail
      refine (setCount_any (s k) _ (Hs.out k)).mono ?_
      rintro e w2 ⟨rfl, hb2⟩
      have hb3 := hbel.trans (hb2.mono hsz)
      clear hb2 hix
      go_wp2_with fail
      go_roundw
      case rel => exact ⟨k + 1, by omega, by go_num, by simp only [cntTo]; go_num, hb3⟩
      case measure => simp [intOf]; omega
    · obtain rfl : k = 10 := by omega
      clear hlt hk
      go_wp2_with fail
      go_ret
      exact ⟨rfl, hbel⟩
end Go.Proofs.Ytjmckdnjghnlbaa
