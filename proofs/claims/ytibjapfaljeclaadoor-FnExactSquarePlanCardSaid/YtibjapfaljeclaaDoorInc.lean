/- Do calls grow: the program. -/
import Derived.Test.YtibjapfaljeclaaDoorCmp
namespace Go.Proofs.YtibjapfaljeclaaDoor
open Go.ChangeShapes Go.WideShapes Go.ChangeAt Go.RowKit
set_option linter.unusedVariables false

theorem cell_old {w wr : World} {a : Addr} {v : Value} (hb : Below w.heap.size w wr) (h : w.cell? a = some v) : wr.cell? a = some v := (hb.cell (World.block_lt_of_cell? w _ h)).trans h

theorem belowN {B : Nat} {w w' : World} (h : Below B w w') (n : Nat) : Below B w (w'.drewN n) := ⟨h.os, h.tape, h.output, h.size, h.block⟩

theorem cmC_less (l : List (Int × Int)) (k : Nat) : decide (0 ≤ cmC (ca l (k - 1), cb l (k - 1)) (ca l k, cb l k)) = !lessB l k := by
  rw [Bool.eq_iff_iff]
  simp only [lessB, decide_eq_true_eq, Bool.not_eq_true', decide_eq_false_iff_not, cmC, cmI]
  split <;> (try split at *) <;> (try split) <;> (try split at *) <;> omega


theorem inc_no {l : List (Int × Int)} {k : Nat} (h1 : 1 ≤ k) (hk : k < l.length) (h : lessB l k = false) : incB l = false := by
  unfold incB
  rw [List.all_eq_false]
  exact ⟨k - 1, List.mem_range.2 (by omega), by rw [Nat.sub_add_cancel h1, h]; simp⟩

theorem inc_yes {l : List (Int × Int)} (h : ∀ j, 1 ≤ j → j < l.length → lessB l j = true) : incB l = true := by
  unfold incB
  rw [List.all_eq_true]
  exact fun j hj => h (j + 1) (by omega) (by have := List.mem_range.1 hj; omega)

theorem areInc_zero (ao : Option Addr) (cap : Nat) (w : World) : Calls Tryd.prog 50 #[.slice ao 0 cap] w fun e w' => e = .returned (.bool true) ∧ Below w.heap.size w w' := by
  go_enter Tryd.func50, Tryd.ntmps50
  go_wp2_with fail
  go_rounds 1
  go_ret
  exact ⟨rfl, Below.refl _ _⟩

set_option maxRecDepth 20000 in
theorem areInc_pos (b off cap : Nat) (l : List (Int × Int)) (n : Nat) (w : World) (Hn : Hid (n = l.length)) (hn : n ≤ 1048576) (h0 : 0 < n)
    (Hc : Hid (∀ i, i < n → w.cell? ⟨b, off + i * 2, none⟩ = some (.int .i64 (ca l i)) ∧ w.cell? ⟨b, off + i * 2 + 1, none⟩ = some (.int .i64 (cb l i)))) :
    Calls Tryd.prog 50 #[.slice (some ⟨b, off, none⟩) n cap] w fun e w' => e = .returned (.bool (incB l)) ∧ Below w.heap.size w w' := by
  go_enter Tryd.func50, Tryd.ntmps50
  go_wp2_with fail
  go_loopw [3] (fun i wr => ∃ k : Nat, 1 ≤ k ∧ k ≤ n ∧ i = .int .i64 k ∧ Hid (∀ j, 1 ≤ j → j < k → lessB l j = true) ∧ Below w.heap.size w wr) (fun i _ => n - (intOf i).toNat)
  case atStart => exact ⟨1, Nat.le_refl _, h0, rfl, Lib.hid (fun j h1 h2 => absurd h2 (by omega)), Below.refl _ _⟩
  case round =>
    obtain ⟨k, hk1, hk, rfl, hall, hbel⟩ := hrel
    by_cases hlt : k < n
    · obtain ⟨j, hj⟩ : ∃ j, k = j + 1 := ⟨k - 1, by omega⟩
      have hsub : (k : Int) - 1 = (j : Int) := by omega
      have hwj : IntKind.i64.wrap (j : Int) = (j : Int) := IntWalk.i64_in _ (by omega)
      have hjn : j < n := by omega
      have h0 := hbel.cell (p := ⟨b, off + j * 2, none⟩) (World.block_lt_of_cell? w _ (Hc.out j hjn).1)
      have h1 := hbel.cell (p := ⟨b, off + j * 2 + 1, none⟩) (World.block_lt_of_cell? w _ (Hc.out j hjn).2)
      have h2 := hbel.cell (p := ⟨b, off + k * 2, none⟩) (World.block_lt_of_cell? w _ (Hc.out k hlt).1)
      have h3 := hbel.cell (p := ⟨b, off + k * 2 + 1, none⟩) (World.block_lt_of_cell? w _ (Hc.out k hlt).2)
      rw [(Hc.out j hjn).1] at h0
      rw [(Hc.out j hjn).2] at h1
      rw [(Hc.out k hlt).1] at h2
      rw [(Hc.out k hlt).2] at h3
      have Htest : Hid (decide (0 ≤ cmC (ca l j, cb l j) (ca l k, cb l k)) = !lessB l k) := by have := cmC_less l k; rw [show k - 1 = j by omega] at this; exact this
      have Hbel := Lib.hid hbel
      have hs := hbel.size
      have hb0 : (0 : Int) ≤ j := by omega
      have hb1 : (j : Int) < n := by omega
      have hb2 : (k : Int) < n := by omega
      have hb3 : (0 : Int) ≤ (k : Int) := by omega
      have Hj := Lib.hid hj
      have H0 := Lib.hid h0
      have H1 := Lib.hid h1
      have H2 := Lib.hid h2
      have H3 := Lib.hid h3
      clear hbel hj
      go_wp2_with fail
      go_region_held3 (fun w' => w'.cell? ⟨b, off + j * 2, none⟩ = some (.int .i64 (ca l j)) ∧ w'.cell? ⟨b, off + j * 2 + 1, none⟩ = some (.int .i64 (cb l j)) ∧ w'.cell? ⟨b, off + k * 2, none⟩ = some (.int .i64 (ca l k)) ∧ w'.cell? ⟨b, off + k * 2 + 1, none⟩ = some (.int .i64 (cb l k)) ∧ Hid (Below wr.heap.size wr w'))
        (first
          | exact ⟨H0.out, H1.out, H2.out, H3.out, (Below.refl _ _).drew⟩
          | assumption
          | (go_split_ands
             exact ⟨cell_old hb2 (by assumption), cell_old hb2 (by assumption), cell_old hb2 (by assumption), cell_old hb2 (by assumption), hb9⟩))
        (first
          | (go_at_call 59; refine (compareCalls_any _ _ _ _ _).mono ?_; rintro e w3 ⟨rfl, hb2⟩; (have hb9 : Hid (Below wr.heap.size wr w3) := Lib.hid (by go_split_ands; exact Below.trans (Hid.out (by assumption)) (hb2.mono (Hid.out (by assumption : Hid (Below wr.heap.size wr _))).size))))
          | fail)
      rename_i hS
      have hb4 : Below w.heap.size w wr := Hbel.out
      have hS5 := hS.2.2.2.2.out
      have hb6 : Below w.heap.size w w3 := Hbel.out.trans (hS5.mono hs)
      clear hS hS5 hb4 h0 h1 h2 h3 hb9
      rw [Htest.out]
      cases hc : lessB l k
      · have Hno := Lib.hid (inc_no hk1 (by rw [← Hn.out]; exact hlt) hc)
        clear hc
        go_wp2_with fail
        go_ret
        exact ⟨ret_bool Hno.out.symm, hb6⟩
      · have Hall : Hid (∀ j, 1 ≤ j → j < k + 1 → lessB l j = true) := Lib.hid (fun i h1 h2 => by
          by_cases hik : i = k
          · subst hik; exact hc
          · exact hall.out i h1 (by omega))
        clear hc
        go_wp2_with fail
        go_roundw
        case rel => exact ⟨k + 1, by omega, by omega, by go_num, Hall, hb6⟩
        case measure => simp [intOf]; omega
    · obtain rfl : k = n := by omega
      have Hyes := Lib.hid (inc_yes (l := l) (fun j h1 h2 => hall.out j h1 (by rw [Hn.out]; exact h2)))
      go_wp2_with fail
      go_ret
      exact ⟨ret_bool Hyes.out.symm, hbel⟩

theorem areInc_any (ao : Option Addr) (cap : Nat) (l : List (Int × Int)) (n : Nat) (w : World) (hn : n = l.length) (hl : n ≤ 1048576) (Hc : CallsAt w ao l) : Calls Tryd.prog 50 #[.slice ao n cap] w fun e w' => e = .returned (.bool (incB l)) ∧ Below w.heap.size w w' := by
  by_cases h0 : n = 0
  · subst h0
    have : l = [] := List.eq_nil_of_length_eq_zero hn.symm
    subst this
    exact areInc_zero ao cap w
  · rcases Hc with h | ⟨b, off, rfl, hc⟩
    · subst h; exact absurd hn h0
    · exact areInc_pos b off cap l n w hn hl (by omega) (by rw [hn]; exact hc)

end Go.Proofs.YtibjapfaljeclaaDoor
