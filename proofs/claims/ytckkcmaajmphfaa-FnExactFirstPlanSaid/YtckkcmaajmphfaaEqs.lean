/- The laws' own helpers on lists of calls: comparisons, marks. -/
import Derived.Test.YtckkcmaajmphfaaGood
namespace Go.Proofs.Ytckkcmaajmphfaa
open Go.ChangeShapes Go.WideShapes Go.ChangeAt Go.RowKit
set_option linter.unusedVariables false

theorem eqCall_yes (a b : Int) (w : World) :
    Calls Try.prog 26 #[.agg #[.int .i64 a, .int .i64 b], .agg #[.int .i64 a, .int .i64 b]] w fun e w' => e = .returned (.bool true) ∧ Below w.heap.size w w' := by
  have h1 : (a != a) = false := by simp
  have h2 : (b != b) = false := by simp
  go_enter Try.func26, Try.ntmps26
  go_wp2
  go_ret
  exact ⟨rfl, by go_grown⟩

theorem eqCallS_zero (ao bo : Option Addr) (ca' cb' : Nat) (w : World) :
    Calls Try.prog 8 #[.slice ao 0 ca', .slice bo 0 cb'] w fun e w' => e = .returned (.bool true) ∧ Below w.heap.size w w' := by
  go_enter Try.func8, Try.ntmps8
  go_wp2_with fail
  go_rounds 1
  go_ret
  exact ⟨rfl, Below.refl _ _⟩

set_option maxRecDepth 100000 in
theorem eqCallS_pos (b off b' off' ka kb : Nat) (l : List (Int × Int)) (n : Nat) (w : World) (hl : n ≤ 9223372036854775807)
    (Hc : Hid (∀ i, i < n → w.cell? ⟨b, off + i * 2, none⟩ = some (.int .i64 (ca l i)) ∧ w.cell? ⟨b, off + i * 2 + 1, none⟩ = some (.int .i64 (cb l i))))
    (Hd : Hid (∀ i, i < n → w.cell? ⟨b', off' + i * 2, none⟩ = some (.int .i64 (ca l i)) ∧ w.cell? ⟨b', off' + i * 2 + 1, none⟩ = some (.int .i64 (cb l i)))) :
    Calls Try.prog 8 #[.slice (some ⟨b, off, none⟩) n ka, .slice (some ⟨b', off', none⟩) n kb] w fun e w' => e = .returned (.bool true) ∧ Below w.heap.size w w' := by
  have hnn : ((n : Int) != (n : Int)) = false := by simp
  go_enter Try.func8, Try.ntmps8
  go_wp2_with fail
  go_loopw [5] (fun i wr => ∃ k : Nat, k ≤ n ∧ i = .int .i64 k ∧ Below w.heap.size w wr) (fun i _ => n - (intOf i).toNat)
  case atStart => exact ⟨0, Nat.zero_le _, rfl, Below.refl _ _⟩
  case round =>
    obtain ⟨k, hk, rfl, hbel⟩ := hrel
    by_cases hlt : k < n
    · have h0 := hbel.cell (p := ⟨b, off + k * 2, none⟩) (World.block_lt_of_cell? w _ (Hc.out k hlt).1)
      have h1 := hbel.cell (p := ⟨b, off + k * 2 + 1, none⟩) (World.block_lt_of_cell? w _ (Hc.out k hlt).2)
      have h2 := hbel.cell (p := ⟨b', off' + k * 2, none⟩) (World.block_lt_of_cell? w _ (Hd.out k hlt).1)
      have h3 := hbel.cell (p := ⟨b', off' + k * 2 + 1, none⟩) (World.block_lt_of_cell? w _ (Hd.out k hlt).2)
      rw [(Hc.out k hlt).1] at h0
      rw [(Hc.out k hlt).2] at h1
      rw [(Hd.out k hlt).1] at h2
      rw [(Hd.out k hlt).2] at h3
      go_wp2_with fail
      go_still_tail 8, (by kernel_rfl)
      change wpList _ _ _ _ _ wr.drew
      go_wp2_with fail
      refine (eqCall_yes _ _ _).mono ?_
      rintro e w2 ⟨rfl, hb2⟩
      have hs := hbel.size
      have hb3 := hbel.drew.trans (hb2.mono hs)
      clear hb2
      go_wp2_with fail
      go_roundw
      case rel => exact ⟨k + 1, by omega, by go_num, hb3⟩
      case measure => simp [intOf]; omega
    · go_wp2
      go_ret
      exact ⟨rfl, hbel⟩

theorem eqCallS_any (ao bo : Option Addr) (ka kb : Nat) (l : List (Int × Int)) (n m : Nat) (w : World) (hn : n = l.length) (hm : m = l.length) (hl : n ≤ 9223372036854775807) (Hc : CallsAt w ao l) (Hd : CallsAt w bo l) :
    Calls Try.prog 8 #[.slice ao n ka, .slice bo m kb] w fun e w' => e = .returned (.bool true) ∧ Below w.heap.size w w' := by
  obtain rfl : n = m := hn.trans hm.symm
  by_cases h0 : n = 0
  · subst h0
    exact eqCallS_zero ao bo ka kb w
  · rcases Hc with h | ⟨b, off, rfl, hc⟩
    · subst h; exact absurd hn h0
    rcases Hd with h | ⟨b', off', rfl, hd⟩
    · subst h; exact absurd hn h0
    exact eqCallS_pos b off b' off' ka kb l n w hl (by rw [hn]; exact hc) (by rw [hn]; exact hd)

theorem eqCallS_own {b1 b2 : Nat} (v1 v2 : Value) (l : List (Int × Int)) (n m : Nat) (w : World) (hn : n = l.length) (hm : m = l.length) (hl : n ≤ 9223372036854775807) (h1 : w.ownsRow b1 50 2 v1 n (cs l)) (h2 : w.ownsRow b2 50 2 v2 m (cs l)) :
    Calls Try.prog 8 #[v1, v2] w fun e w' => e = .returned (.bool true) ∧ Below w.heap.size w w' := by
  obtain ⟨ao, ka, rfl, hc, _⟩ := own_shape h1 hn
  obtain ⟨bo, kb, rfl, hd, _⟩ := own_shape h2 hm
  exact eqCallS_any ao bo ka kb l n m w hn hm hl hc hd

theorem markCallS_row (base g cap : Nat) (l : List (Int × Int)) (n : Nat) (w : World) (Hn : Hid (n = l.length)) (hl : n ≤ 4611686018427387000) (Hown : Hid (w.ownsRow base 50 2 (.slice (some ⟨g, 0, none⟩) n cap) n (cs l))) :
    Calls Try.prog 9 #[.slice (some ⟨g, 0, none⟩) n cap, .int .i64 1] w fun e w' => e = .returned (.int .i64 (1 + 2 * (n : Int))) ∧ w'.ownsRow base 50 2 (.slice (some ⟨g, 0, none⟩) n cap) n (cs (marks 1 l n)) ∧ w.grownBy w' (some g) := by
  go_enter Try.func9, Try.ntmps9
  go_wp2_with fail
  go_loopw [1, 5] (fun k i wr => ∃ j : Nat, j ≤ n ∧ i = .int .i64 j ∧ k = .int .i64 (1 + 2 * (j : Int)) ∧ wr.ownsRow base 50 2 (.slice (some ⟨g, 0, none⟩) n cap) n (cs (marks 1 l j)) ∧ w.grownBy wr (some g)) (fun _ i _ => n - (intOf i).toNat)
  case atStart => exact ⟨0, Nat.zero_le _, rfl, rfl, by rw [marks_zero]; exact Hown.out, ⟨rfl, rfl, rfl, Nat.le_refl _, fun _ _ _ => rfl⟩⟩
  case round =>
    obtain ⟨j, hj, rfl, rfl, hor, hgr⟩ := hrel
    by_cases hlt : j < n
    · obtain ⟨u0, z0⟩ := own_some hor (j * 2) (by omega)
      obtain ⟨u1, z1⟩ := own_some hor (j * 2 + 1) (by omega)
      have zf0 := hor.frozenAt (j * 2)
      have zf1 := hor.frozenAt (j * 2 + 1)
      have hor3 := own_set2 hor j (1 + 2 * (j : Int)) (1 + 2 * (j : Int) + 1)
      rw [marks_set 1 l j (by rw [← Hn.out]; exact hlt)] at hor3
      have Hor3 := Lib.hid hor3
      have Hgr := Lib.hid hgr
      clear hor3 hor hgr
      go_wp2_with fail
      go_roundw
      case rel => exact ⟨j + 1, by omega, by go_num, by go_num, Hor3.out, grown_set (grown_set Hgr.out _ _) _ _⟩
      case measure => simp [intOf]; omega
    · obtain rfl : j = n := by omega
      have Hor := Lib.hid hor
      clear hor
      go_wp2
      go_ret
      exact ⟨rfl, Hor.out, hgr⟩

theorem heldCallS_pos (b off cap : Nat) (n : Nat) (w : World) (hl : n ≤ 4611686018427387000)
    (Hc : Hid (∀ i, i < n → w.cell? ⟨b, off + i * 2, none⟩ = some (.int .i64 (1 + 2 * (i : Int))) ∧ w.cell? ⟨b, off + i * 2 + 1, none⟩ = some (.int .i64 (1 + 2 * (i : Int) + 1)))) :
    Calls Try.prog 10 #[.slice (some ⟨b, off, none⟩) n cap, .int .i64 1] w fun e w' => e = .returned (.int .i64 (1 + 2 * (n : Int))) ∧ w = w' := by
  go_enter Try.func10, Try.ntmps10
  go_wp2_with fail
  go_loop [1, 5] (fun k i => ∃ j : Nat, j ≤ n ∧ i = .int .i64 j ∧ k = .int .i64 (1 + 2 * (j : Int))) (fun _ i => n - (intOf i).toNat)
  case atStart => exact ⟨0, Nat.zero_le _, rfl, rfl⟩
  case round =>
    obtain ⟨j, hj, rfl, rfl⟩ := hrel
    by_cases hlt : j < n
    · obtain ⟨h0, h1⟩ := Hc.out j hlt
      have e0 : ((1 + 2 * (j : Int)) != (1 + 2 * (j : Int))) = false := by simp
      have e1 : ((1 + 2 * (j : Int) + 1) != (1 + 2 * (j : Int) + 1)) = false := by simp
      go_wp2_with fail
      go_round
      case rel => exact ⟨j + 1, by omega, by go_num, by go_num⟩
      case measure => simp [intOf]; omega
    · obtain rfl : j = n := by omega
      go_wp2
      go_ret
      exact ⟨rfl, rfl⟩

theorem markCallS_zero (ao : Option Addr) (cap : Nat) (w : World) :
    Calls Try.prog 9 #[.slice ao 0 cap, .int .i64 1] w fun e w' => e = .returned (.int .i64 1) ∧ w = w' := by
  go_enter Try.func9, Try.ntmps9
  go_wp2_with fail
  go_rounds 1
  go_ret
  exact ⟨rfl, rfl⟩

theorem heldCallS_zero (ao : Option Addr) (cap : Nat) (w : World) :
    Calls Try.prog 10 #[.slice ao 0 cap, .int .i64 1] w fun e w' => e = .returned (.int .i64 1) ∧ w = w' := by
  go_enter Try.func10, Try.ntmps10
  go_wp2_with fail
  go_rounds 1
  go_ret
  exact ⟨rfl, rfl⟩

/-- Marks are written into what is owned, and into nothing else. -/
theorem markCallS_any (base : Nat) (v : Value) (l : List (Int × Int)) (n : Nat) (w : World) (hn : n = l.length) (hl : n ≤ 4611686018427387000) (hown : w.ownsRow base 50 2 v n (cs l)) :
    Calls Try.prog 9 #[v, .int .i64 1] w fun e w' => e = .returned (.int .i64 (1 + 2 * (n : Int))) ∧ w'.ownsRow base 50 2 v n (cs (marks 1 l n)) ∧ w.grownBy w' v.ownBlock := by
  have h2 := hown.2
  rcases h2 with ⟨rfl, rfl⟩ | ⟨g, cap, cur, rfl, hb, hg, _⟩
  · have : l = [] := List.eq_nil_of_length_eq_zero hn.symm
    subst this
    refine (markCallS_zero none 0 w).mono ?_
    rintro e w' ⟨rfl, rfl⟩
    exact ⟨rfl, hown, ⟨rfl, rfl, rfl, Nat.le_refl _, fun _ _ _ => rfl⟩⟩
  · exact markCallS_row base g cap l n w hn hl hown

theorem heldCallS_any (base : Nat) (v : Value) (l : List (Int × Int)) (n : Nat) (w : World) (hn : n = l.length) (hl : n ≤ 4611686018427387000) (hown : w.ownsRow base 50 2 v n (cs (marks 1 l n))) :
    Calls Try.prog 10 #[v, .int .i64 1] w fun e w' => e = .returned (.int .i64 (1 + 2 * (n : Int))) ∧ w = w' := by
  have h2 := hown.2
  rcases h2 with ⟨rfl, rfl⟩ | ⟨g, cap, cur, rfl, hb, hg, _⟩
  · exact heldCallS_zero none 0 w
  · refine heldCallS_pos g 0 cap n w hl (fun i hi => ?_)
    have h := own_cells hown (by rw [marks_length]; exact hn) i hi
    have hm := marks_get 1 l n i (by rw [← hn]; exact hi)
    rw [hm.1, hm.2, if_pos hi, if_pos hi] at h
    simpa using h

end Go.Proofs.Ytckkcmaajmphfaa
