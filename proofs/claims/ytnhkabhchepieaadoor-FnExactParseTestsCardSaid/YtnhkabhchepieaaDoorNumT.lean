/- Numbers below a hundred as texts. -/
import Derived.Test.YtnhkabhchepieaaDoorNum
namespace Go.Proofs.YtnhkabhchepieaaDoor
open Go.ChangeShapes Go.WideShapes Go.ChangeAt Go.RowKit
set_option linter.unusedVariables false


theorem conv2 (X w2 : World) (g : Nat) (hg : g = X.heap.size) (c : UInt8) (v : Int) (hv : v = (c.toNat : Int)) (hb : Below (X.alloc (.cells #[.int .u8 v] 5)).drew.heap.size (X.alloc (.cells #[.int .u8 v] 5)).drew w2) :
    (convert 89 9 (.slice (some ⟨g, 0, none⟩) 1 1)).run Tryd.prog w2 = .ok (.string ⟨#[c]⟩) w2 := by
  subst hg
  have h := run_convert_bytes_back (P := Tryd.prog) w2 89 9 5 ⟨X.heap.size, 0, none⟩ 1 [c] Tryd.underlying89 Tryd.underlying5 Tryd.underlying9 (fun j hj => by
    have hj0 : j = 0 := by simpa using hj
    subst hj0
    have h1 := heap_alloc_new X (.cells #[.int .u8 v] 5)
    subst hv
    have h2 := cell_of_row _ X.heap.size 0 _ _ _ h1
    exact (hb.cell (World.block_lt_of_cell? _ _ h2)).trans h2)
  simpa using h

/-- A number as a text. -/
def nt (x : Int) : List UInt8 := if x < 10 then [dgt x] else [dgt (x / 10), dgt (x % 10)]
theorem dgt_nat (r : Int) (h0 : 0 ≤ r) (h1 : r < 10) : 48 + r = ((dgt r).toNat : Int) := by
  have h : r = 0 ∨ r = 1 ∨ r = 2 ∨ r = 3 ∨ r = 4 ∨ r = 5 ∨ r = 6 ∨ r = 7 ∨ r = 8 ∨ r = 9 := by omega
  rcases h with rfl | rfl | rfl | rfl | rfl | rfl | rfl | rfl | rfl | rfl <;> rfl
theorem wrapd (r : Int) (h0 : 0 ≤ r) (h1 : r < 10) : IntKind.i64.wrap (48 + r) = 48 + r := by
  have h : r = 0 ∨ r = 1 ∨ r = 2 ∨ r = 3 ∨ r = 4 ∨ r = 5 ∨ r = 6 ∨ r = 7 ∨ r = 8 ∨ r = 9 := by omega
  rcases h with rfl | rfl | rfl | rfl | rfl | rfl | rfl | rfl | rfl | rfl <;> rfl
theorem wrapd0 (r : Int) (h0 : 0 ≤ r) (h1 : r < 10) : IntKind.i64.wrap r = r := by
  have h : r = 0 ∨ r = 1 ∨ r = 2 ∨ r = 3 ∨ r = 4 ∨ r = 5 ∨ r = 6 ∨ r = 7 ∨ r = 8 ∨ r = 9 := by omega
  rcases h with rfl | rfl | rfl | rfl | rfl | rfl | rfl | rfl | rfl | rfl <;> rfl
theorem wrapd8 (r : Int) (h0 : 0 ≤ r) (h1 : r < 10) : IntKind.u8.wrap (48 + r) = 48 + r := by
  have h : r = 0 ∨ r = 1 ∨ r = 2 ∨ r = 3 ∨ r = 4 ∨ r = 5 ∨ r = 6 ∨ r = 7 ∨ r = 8 ∨ r = 9 := by omega
  rcases h with rfl | rfl | rfl | rfl | rfl | rfl | rfl | rfl | rfl | rfl <;> rfl
set_option maxHeartbeats 800000 in
set_option maxRecDepth 20000 in
theorem l1Num_two (x : Int) (w : World) (h0 : 10 ≤ x) (h1 : x < 100) : Calls Tryd.prog 49 #[.int .i64 x] w fun e w' => e = .returned (.string ⟨#[dgt (x / 10), dgt (x % 10)]⟩) ∧ Below w.heap.size w w' := by
  obtain ⟨r, hr⟩ : ∃ r, r = x % 10 := ⟨_, rfl⟩
  obtain ⟨q, hq⟩ : ∃ q, q = x / 10 := ⟨_, rfl⟩
  have hr0 : 0 ≤ r := by omega
  have hr9 : r < 10 := by omega
  have hq0 : 0 ≤ q := by omega
  have hq9 : q < 10 := by omega
  have hw1 : IntKind.i64.wrap (48 + r) = 48 + r := wrapd r hr0 hr9
  have hw2 : IntKind.u8.wrap (48 + r) = 48 + r := wrapd8 r hr0 hr9
  have hw3 : IntKind.i64.wrap q = q := wrapd0 q hq0 hq9
  have hw4 : IntKind.i64.wrap r = r := wrapd0 r hr0 hr9
  have hr1 : x.tmod 10 = r := by rw [hr, Int.tmod_eq_emod_of_nonneg (by omega)]
  have hq1 : x.tdiv 10 = q := by rw [hq, Int.tdiv_eq_ediv_of_nonneg (by omega)]
  have hr2 : x % 10 = r := hr.symm
  have hq2 : x / 10 = q := hq.symm
  have hl : ¬ x < 10 := by omega
  rw [hr2, hq2]
  clear hr hq
  have hv := dgt_nat r hr0 hr9
  have hc := fun w => conv1 w (dgt r) (48 + r) hv
  have hd := fun w : World => conv2 w _ w.heap.size rfl (dgt r) (48 + r) hv (Below.refl _ _)
  have HV := Lib.hid hv
  clear hv
  go_enter Tryd.func49, Tryd.ntmps49
  go_wp2_with fail
  go_region_with (go_at_call 49; refine (l1Num_any q _ (by omega) (by omega)).mono ?_; rintro e w2 ⟨rfl, hb2⟩; first | have hk := conv2 _ w2 w.heap.size (by simp) (dgt r) (48 + r) HV.out hb2 | skip)
  all_goals go_wp2_with fail
  all_goals go_ret
  · exact ⟨rfl, ((Below.refl _ w).drew.trans (hb2.mono (by simp))).alloc (by have := hb2.size; simp at this; omega) _⟩
  · exact ⟨rfl, (((Below.refl _ w).alloc (Nat.le_refl _) _).drew).trans (hb2.mono (by simp))⟩
  · exact ⟨rfl, (((Below.refl _ w).alloc (Nat.le_refl _) _).drew).trans (hb2.mono (by simp))⟩
theorem l1Num_all (x : Int) (w : World) (h0 : 0 ≤ x) (h1 : x < 100) : Calls Tryd.prog 49 #[.int .i64 x] w fun e w' => e = .returned (.string ⟨(nt x).toArray⟩) ∧ Below w.heap.size w w' := by
  by_cases h : x < 10
  · rw [show nt x = [dgt x] by simp [nt, h]]
    exact l1Num_any x w h0 h
  · rw [show nt x = [dgt (x / 10), dgt (x % 10)] by simp [nt, h]]
    exact l1Num_two x w (by omega) h1
theorem nt_dec (x : Int) (h0 : 0 ≤ x) (h1 : x < 100) : Lib.decDigits x.toNat = nt x := by
  by_cases h : x < 10
  · rw [Lib.decDigits_one (by omega), nt, if_pos h]; rfl
  · rw [Lib.decDigits_two (by omega) (by omega), nt, if_neg h]
    obtain ⟨n, rfl⟩ : ∃ n : Nat, x = n := ⟨x.toNat, by omega⟩
    have e1 : dgt ((n : Int) / 10) = UInt8.ofNat (48 + n / 10) := by
      show UInt8.ofNat (48 + ((n : Int) / 10).toNat) = _
      rw [show ((n : Int) / 10).toNat = n / 10 by omega]
    have e2 : dgt ((n : Int) % 10) = UInt8.ofNat (48 + n % 10) := by
      show UInt8.ofNat (48 + ((n : Int) % 10).toNat) = _
      rw [show ((n : Int) % 10).toNat = n % 10 by omega]
    rw [e1, e2]; rfl
theorem nt_le (x : Int) : (nt x).length ≤ 2 := by unfold nt; split <;> simp

end Go.Proofs.YtnhkabhchepieaaDoor
