/- The laws' own helpers on lists of sends: sizes and marks. -/
import Derived.Test.YtghfkgbmmkcjhaaSndH
namespace Go.Proofs.Ytghfkgbmmkcjhaa
open Go.ChangeShapes Go.WideShapes Go.ChangeAt Go.RowKit
set_option linter.unusedVariables false


theorem szSendS_fit (ao : Option Addr) (n cap left : Nat) (w : World) (h : n ≤ left) (hl : left ≤ 1048576) :
    Calls Try.prog 29 #[.slice ao n cap, .int .i64 (left : Int)] w fun e w' => e = .returned (.int .i64 ((left - n : Nat) : Int)) ∧ w = w' := by
  have hd : decide ((left : Int) - (n : Int) < 0) = false := by simp; omega
  have e1 : ((left - n : Nat) : Int) = (left : Int) - n := by omega
  rw [e1]
  go_enter Try.func29, Try.ntmps29
  go_wp2
  go_ret
  exact ⟨rfl, rfl⟩

theorem szSendS_over (ao : Option Addr) (n cap left : Nat) (w : World) (h : left < n) (hl : left ≤ 1048576) (hm : n ≤ 9223372036854775807) :
    Calls Try.prog 29 #[.slice ao n cap, .int .i64 (left : Int)] w fun e w' => e = .returned (.int .i64 (-1)) ∧ w = w' := by
  have hd : decide ((left : Int) - (n : Int) < 0) = true := by simp; omega
  go_enter Try.func29, Try.ntmps29
  go_wp2
  go_ret
  exact ⟨rfl, rfl⟩

theorem markSendS_row (base g cap : Nat) (l : List Snd) (n : Nat) (w : World) (c : Int) (hc0 : 0 ≤ c) (hc1 : c ≤ 4000000000000) (Hn : Hid (n = l.length)) (hl : n ≤ 1000000000000) (Hown : Hid (w.ownsRow base 52 3 (.slice (some ⟨g, 0, none⟩) n cap) n (ss l))) :
    Calls Try.prog 27 #[.slice (some ⟨g, 0, none⟩) n cap, .int .i64 c] w fun e w' => e = .returned (.int .i64 (c + 3 * (n : Int))) ∧ w'.ownsRow base 52 3 (.slice (some ⟨g, 0, none⟩) n cap) n (ss (smarks c l n)) ∧ w.grownBy w' (some g) := by
  go_enter Try.func27, Try.ntmps27
  go_wp2_with fail
  go_loopw [1, 5] (fun k i wr => ∃ j : Nat, j ≤ n ∧ i = .int .i64 j ∧ k = .int .i64 (c + 3 * (j : Int)) ∧ wr.ownsRow base 52 3 (.slice (some ⟨g, 0, none⟩) n cap) n (ss (smarks c l j)) ∧ w.grownBy wr (some g)) (fun _ i _ => n - (intOf i).toNat)
  case atStart => exact ⟨0, Nat.zero_le _, rfl, by simp, by rw [smarks_zero]; exact Hown.out, ⟨rfl, rfl, rfl, Nat.le_refl _, fun _ _ _ => rfl⟩⟩
  case round =>
    obtain ⟨j, hj, rfl, rfl, hor, hgr⟩ := hrel
    by_cases hlt : j < n
    · obtain ⟨u0, z0⟩ := own_some hor (j * 3) (by omega)
      obtain ⟨u1, z1⟩ := own_some hor (j * 3 + 1) (by omega)
      obtain ⟨u2, z2⟩ := own_some hor (j * 3 + 2) (by omega)
      have zf0 := hor.frozenAt (j * 3)
      have zf1 := hor.frozenAt (j * 3 + 1)
      have zf2 := hor.frozenAt (j * 3 + 2)
      have hor3 := own_set3 hor j (c + 3 * (j : Int)) (c + 3 * (j : Int) + 1) (c + 3 * (j : Int) + 1 + 1)
      rw [smarks_set c l j (by rw [← Hn.out]; exact hlt)] at hor3
      have Hor3 := Lib.hid hor3
      have Hgr := Lib.hid hgr
      clear hor3 hor hgr
      go_wp2_with fail
      go_roundw
      case rel => exact ⟨j + 1, by omega, by go_num, by go_num, Hor3.out, grown_set (grown_set (grown_set Hgr.out _ _) _ _) _ _⟩
      case measure => simp [intOf]; omega
    · obtain rfl : j = n := by omega
      have Hor := Lib.hid hor
      clear hor
      go_wp2
      go_ret
      exact ⟨rfl, Hor.out, hgr⟩

theorem heldSendS_pos (b off cap : Nat) (n : Nat) (w : World) (c : Int) (hc0 : 0 ≤ c) (hc1 : c ≤ 4000000000000) (hl : n ≤ 1000000000000)
    (Hc : Hid (∀ i, i < n → w.cell? ⟨b, off + i * 3, none⟩ = some (.int .i64 (c + 3 * (i : Int))) ∧ w.cell? ⟨b, off + i * 3 + 1, none⟩ = some (.int .i64 (c + 3 * (i : Int) + 1)) ∧ w.cell? ⟨b, off + i * 3 + 2, none⟩ = some (.int .i64 (c + 3 * (i : Int) + 1 + 1)))) :
    Calls Try.prog 28 #[.slice (some ⟨b, off, none⟩) n cap, .int .i64 c] w fun e w' => e = .returned (.int .i64 (c + 3 * (n : Int))) ∧ w = w' := by
  go_enter Try.func28, Try.ntmps28
  go_wp2_with fail
  go_loop [1, 5] (fun k i => ∃ j : Nat, j ≤ n ∧ i = .int .i64 j ∧ k = .int .i64 (c + 3 * (j : Int))) (fun _ i => n - (intOf i).toNat)
  case atStart => exact ⟨0, Nat.zero_le _, rfl, by simp⟩
  case round =>
    obtain ⟨j, hj, rfl, rfl⟩ := hrel
    by_cases hlt : j < n
    · obtain ⟨h0, h1, h2⟩ := Hc.out j hlt
      have e0 : ((c + 3 * (j : Int)) != (c + 3 * (j : Int))) = false := by simp
      have e1 : ((c + 3 * (j : Int) + 1) != (c + 3 * (j : Int) + 1)) = false := by simp
      have e2 : ((c + 3 * (j : Int) + 1 + 1) != (c + 3 * (j : Int) + 1 + 1)) = false := by simp
      go_wp2_with fail
      go_round
      case rel => exact ⟨j + 1, by omega, by go_num, by go_num⟩
      case measure => simp [intOf]; omega
    · obtain rfl : j = n := by omega
      go_wp2
      go_ret
      exact ⟨rfl, rfl⟩

theorem markSendS_zero (ao : Option Addr) (cap : Nat) (w : World) (c : Int) :
    Calls Try.prog 27 #[.slice ao 0 cap, .int .i64 c] w fun e w' => e = .returned (.int .i64 c) ∧ w = w' := by
  go_enter Try.func27, Try.ntmps27
  go_wp2_with fail
  go_rounds 1
  go_ret
  exact ⟨rfl, rfl⟩

theorem heldSendS_zero (ao : Option Addr) (cap : Nat) (w : World) (c : Int) :
    Calls Try.prog 28 #[.slice ao 0 cap, .int .i64 c] w fun e w' => e = .returned (.int .i64 c) ∧ w = w' := by
  go_enter Try.func28, Try.ntmps28
  go_wp2_with fail
  go_rounds 1
  go_ret
  exact ⟨rfl, rfl⟩

theorem markSendS_any (base : Nat) (v : Value) (l : List Snd) (n : Nat) (w : World) (c : Int) (hc0 : 0 ≤ c) (hc1 : c ≤ 4000000000000) (hn : n = l.length) (hl : n ≤ 1000000000000) (hown : w.ownsRow base 52 3 v n (ss l)) :
    Calls Try.prog 27 #[v, .int .i64 c] w fun e w' => e = .returned (.int .i64 (c + 3 * (n : Int))) ∧ w'.ownsRow base 52 3 v n (ss (smarks c l n)) ∧ w.grownBy w' v.ownBlock := by
  have h2 := hown.2
  rcases h2 with ⟨rfl, rfl⟩ | ⟨g, cap, cur, rfl, hb, hg, _⟩
  · have : l = [] := List.eq_nil_of_length_eq_zero hn.symm
    subst this
    refine (markSendS_zero none 0 w c).mono ?_
    rintro e w' ⟨rfl, rfl⟩
    exact ⟨by simp, hown, ⟨rfl, rfl, rfl, Nat.le_refl _, fun _ _ _ => rfl⟩⟩
  · exact markSendS_row base g cap l n w c hc0 hc1 hn hl hown

theorem heldSendS_any (base : Nat) (v : Value) (l : List Snd) (n : Nat) (w : World) (c : Int) (hc0 : 0 ≤ c) (hc1 : c ≤ 4000000000000) (hn : n = l.length) (hl : n ≤ 1000000000000) (hown : w.ownsRow base 52 3 v n (ss (smarks c l n))) :
    Calls Try.prog 28 #[v, .int .i64 c] w fun e w' => e = .returned (.int .i64 (c + 3 * (n : Int))) ∧ w = w' := by
  have h2 := hown.2
  rcases h2 with ⟨rfl, rfl⟩ | ⟨g, cap, cur, rfl, hb, hg, _⟩
  · refine (heldSendS_zero none 0 w c).mono ?_
    rintro e w' ⟨rfl, rfl⟩
    exact ⟨by simp, rfl⟩
  · refine heldSendS_pos g 0 cap n w c hc0 hc1 hl (fun i hi => ?_)
    have h := sown_cells hown (by rw [smarks_length]; exact hn) i hi
    have hm := smarks_get c l n i (by rw [← hn]; exact hi) hi
    unfold Sat3 at h
    rw [hm.1, hm.2.1, hm.2.2] at h
    simpa using h

end Go.Proofs.Ytghfkgbmmkcjhaa
