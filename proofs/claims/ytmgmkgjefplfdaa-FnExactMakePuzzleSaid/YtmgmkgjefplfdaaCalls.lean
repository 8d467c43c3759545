/- Lists of calls in memory. -/
import Derived.Test.YtmgmkgjefplfdaaGen
namespace Go.Proofs.Ytmgmkgjefplfdaa
open Go.ChangeShapes Go.WideShapes Go.ChangeAt Go.RowKit
set_option linter.unusedVariables false

theorem info83 : (Try.prog.info? 83).map (fun i => (i.zero, i.size, i.bytes)) = some (some (.agg #[.int .i64 0, .int .i64 0]), 2, 16) := by kernel_rfl

theorem toCall_any (a b : Int) (w : World) :
    Calls Try.prog 77 #[.agg #[.int .i64 a, .int .i64 b]] w fun e w' => e = .returned (.agg #[.int .i64 a, .int .i64 b]) ∧ Below w.heap.size w w' := by
  go_enter Try.func77, Try.ntmps77
  go_wp2
  exact bodyPost_ret (v := .agg #[.int .i64 a, .int .i64 b]) (by simp [results, Try.results77, go_sem]) rfl ⟨rfl, by go_grown⟩

theorem toCallS_pos (b off cap : Nat) (l : List (Int × Int)) (n : Nat) (w : World) (Hn : Hid (n = l.length)) (hl : n ≤ 1048576) (hl0 : 0 < n)
    (Hc : Hid (∀ i, i < n → w.cell? ⟨b, off + i * 2, none⟩ = some (.int .i64 (ca l i)) ∧ w.cell? ⟨b, off + i * 2 + 1, none⟩ = some (.int .i64 (cb l i)))) :
    Calls Try.prog 30 #[.slice (some ⟨b, off, none⟩) n cap] w fun e w' => ∃ cap', e = .returned (.slice (some ⟨w.heap.size, 0, none⟩) n cap') ∧ w'.ownsRow w.heap.size 83 2 (.slice (some ⟨w.heap.size, 0, none⟩) n cap') n (cs l) ∧ Below w.heap.size w w' := by
  obtain ⟨i0, hi, hz0, hz1, hz2⟩ := info_parts info83
  have Hz := Lib.hid (And.intro hz0 (And.intro hz1 hz2))
  have hb : b < w.heap.size := World.block_lt_of_cell? w _ (Hc.out 0 hl0).1
  clear hz0 hz1 hz2
  go_enter Try.func30, Try.ntmps30
  go_wp2_with (refine wpList_make_full _ rfl _ _ 46 rfl w.heap.size 83 i0 (.agg #[.int .i64 0, .int .i64 0]) 2 Try.underlying46 hi Hz.out.1 Hz.out.2.1 .i64 .i64 _ _ n rfl rfl rfl rfl ?_ ?_ ?_ ?_)
  · rw [Hz.out.2.2]; omega
  · unfold maxLen; omega
  · exact Nat.le_refl _
  intro w1 hown hgr
  rw [zero_cells] at hown
  go_wp2_with fail
  go_loopw [4] (fun i wr => ∃ k : Nat, k ≤ n ∧ i = .int .i64 k ∧ wr.ownsRow w.heap.size 83 2 (.slice (some ⟨w.heap.size, 0, none⟩) n n) n (cs (part l k)) ∧ Below w.heap.size w wr) (fun i _ => n - (intOf i).toNat)
  case atStart => exact ⟨0, Nat.zero_le _, rfl, by rw [part_zero, ← Hn.out]; exact hown, (Below.refl _ _).grown hgr (Nat.le_refl _) (fun _ h => by cases h)⟩
  case round =>
    obtain ⟨k, hk, rfl, hor, hbel⟩ := hrel
    clear hown hgr
    by_cases hlt : k < n
    · have h0 := hbel.cell (p := ⟨b, off + k * 2, none⟩) hb
      have h1 := hbel.cell (p := ⟨b, off + k * 2 + 1, none⟩) hb
      rw [(Hc.out k hlt).1] at h0
      rw [(Hc.out k hlt).2] at h1
      have hlt1 : w.heap.size < wr.heap.size := (hor.lt _ rfl).2
      go_wp2_with fail
      refine (toCall_any _ _ _).mono ?_
      rintro e w2 ⟨rfl, hb2⟩
      have hor2 := own_later hor hb2
      obtain ⟨u0, z0⟩ := own_some hor2 (k * 2) (by omega)
      obtain ⟨u1, z1⟩ := own_some hor2 (k * 2 + 1) (by omega)
      have zf0 := hor2.frozenAt (k * 2)
      have zf1 := hor2.frozenAt (k * 2 + 1)
      have hor3 := own_set2 hor2 k (ca l k) (cb l k)
      rw [part_set l k (by rw [← Hn.out]; exact hlt)] at hor3
      have Hor3 := Lib.hid hor3
      clear hor3 hor hor2
      have hb3 := hbel.trans (hb2.mono (Nat.le_of_lt hlt1))
      go_wp2_with fail
      go_roundw
      case rel => exact ⟨k + 1, by omega, by go_num, Hor3.out, (hb3.setCell (Nat.le_refl _) _).setCell (Nat.le_refl _) _⟩
      case measure => simp [intOf]; omega
    · have hk' : k = n := by omega
      have hp : part l k = l := by rw [hk', Hn.out, part_all]
      rw [hp] at hor
      have Hor := Lib.hid hor
      clear hor hp hk'
      go_wp2
      go_ret
      exact ⟨n, rfl, Hor.out, hbel⟩

theorem toCallS_zero (ao : Option Addr) (cap : Nat) (w : World) :
    Calls Try.prog 30 #[.slice ao 0 cap] w fun e w' => ∃ cap', e = .returned (.slice (some ⟨w.heap.size, 0, none⟩) 0 cap') ∧ w'.ownsRow w.heap.size 83 2 (.slice (some ⟨w.heap.size, 0, none⟩) 0 cap') 0 (cs []) ∧ Below w.heap.size w w' := by
  obtain ⟨i0, hi, hz0, hz1, hz2⟩ := info_parts info83
  have Hz := Lib.hid (And.intro hz0 (And.intro hz1 hz2))
  clear hz0 hz1 hz2
  go_enter Try.func30, Try.ntmps30
  go_wp2_with (refine wpList_make_full _ rfl _ _ 46 rfl w.heap.size 83 i0 (.agg #[.int .i64 0, .int .i64 0]) 2 Try.underlying46 hi Hz.out.1 Hz.out.2.1 .i64 .i64 _ _ 0 rfl rfl rfl rfl ?_ ?_ ?_ ?_)
  · omega
  · unfold maxLen; omega
  · exact Nat.le_refl _
  intro w1 hown hgr
  have zc := zero_cells 0
  rw [Nat.zero_mul] at zc
  rw [zc] at hown
  clear zc
  have Hown := Lib.hid hown
  have Hbel := Lib.hid ((Below.refl w.heap.size w).grown hgr (Nat.le_refl _) (fun _ h => by cases h))
  clear hown hgr
  go_wp2_with fail
  go_rounds 1
  go_ret
  exact ⟨0, rfl, Hown.out, Hbel.out⟩

theorem toCallS_any (ao : Option Addr) (cap : Nat) (l : List (Int × Int)) (n : Nat) (w : World) (Hn : Hid (n = l.length)) (hl : n ≤ 1048576) (Hc : Hid (CallsAt w ao l)) :
    Calls Try.prog 30 #[.slice ao n cap] w fun e w' => ∃ cap', e = .returned (.slice (some ⟨w.heap.size, 0, none⟩) n cap') ∧ w'.ownsRow w.heap.size 83 2 (.slice (some ⟨w.heap.size, 0, none⟩) n cap') n (cs l) ∧ Below w.heap.size w w' := by
  by_cases h0 : n = 0
  · subst h0
    have : l = [] := List.eq_nil_of_length_eq_zero Hn.out.symm
    subst this
    exact toCallS_zero ao cap w
  · rcases Hc.out with h | ⟨b, off, rfl, hc⟩
    · subst h; exact absurd Hn.out h0
    · exact toCallS_pos b off cap l n w Hn hl (by omega) (by rw [Hn.out]; exact hc)

theorem eqCall_yes (a b : Int) (w : World) :
    Calls Try.prog 80 #[.agg #[.int .i64 a, .int .i64 b], .agg #[.int .i64 a, .int .i64 b]] w fun e w' => e = .returned (.bool true) ∧ Below w.heap.size w w' := by
  have h1 : (a != a) = false := by simp
  have h2 : (b != b) = false := by simp
  go_enter Try.func80, Try.ntmps80
  go_wp2
  go_ret
  exact ⟨rfl, by go_grown⟩

theorem eqCallS_zero (ao bo : Option Addr) (ca' cb' : Nat) (w : World) :
    Calls Try.prog 32 #[.slice ao 0 ca', .slice bo 0 cb'] w fun e w' => e = .returned (.bool true) ∧ Below w.heap.size w w' := by
  go_enter Try.func32, Try.ntmps32
  go_wp2_with fail
  go_rounds 1
  go_ret
  exact ⟨rfl, Below.refl _ _⟩

set_option maxRecDepth 100000 in
theorem eqCallS_pos (b off b' off' ka kb : Nat) (l : List (Int × Int)) (n : Nat) (w : World) (hl : n ≤ 9223372036854775807)
    (Hc : Hid (∀ i, i < n → w.cell? ⟨b, off + i * 2, none⟩ = some (.int .i64 (ca l i)) ∧ w.cell? ⟨b, off + i * 2 + 1, none⟩ = some (.int .i64 (cb l i))))
    (Hd : Hid (∀ i, i < n → w.cell? ⟨b', off' + i * 2, none⟩ = some (.int .i64 (ca l i)) ∧ w.cell? ⟨b', off' + i * 2 + 1, none⟩ = some (.int .i64 (cb l i)))) :
    Calls Try.prog 32 #[.slice (some ⟨b, off, none⟩) n ka, .slice (some ⟨b', off', none⟩) n kb] w fun e w' => e = .returned (.bool true) ∧ Below w.heap.size w w' := by
  have hnn : ((n : Int) != (n : Int)) = false := by simp
  go_enter Try.func32, Try.ntmps32
  go_wp2_with fail
  go_loopw [5] (fun i wr => ∃ k : Nat, k ≤ n ∧ i = .int .i64 k ∧ Below w.heap.size w wr) (fun i _ => n - (intOf i).toNat)
  case atStart => exact ⟨0, Nat.zero_le _, rfl, Below.refl _ _⟩
  case round =>
    obtain ⟨k, hk, rfl, hbel⟩ := hrel
    by_cases hlt : k < n
    · have h0 := hbel.cell (p := ⟨b, off + k * 2, none⟩) (World.block_lt_of_cell? w _ (Hc.out k hlt).1)
      have h1 := hbel.cell (p := ⟨b, off + k * 2 + 1, none⟩) (World.block_lt_of_cell? w _ (Hc.out k hlt).2)
      have h2 := hbel.cell (p := ⟨b', off' + k * 2, none⟩) (World.block_lt_of_cell? w _ (Hd.out k hlt).1)
      have h3 := hbel.cell (p := ⟨b', off' + k * 2 + 1, none⟩) (World.block_lt_of_cell? w _ (Hd.out k hlt).2)
      rw [(Hc.out k hlt).1] at h0
      rw [(Hc.out k hlt).2] at h1
      rw [(Hd.out k hlt).1] at h2
      rw [(Hd.out k hlt).2] at h3
      go_wp2_with fail
      go_still_tail 8, (by kernel_rfl)
      change wpList _ _ _ _ _ wr.drew
      go_wp2_with fail
      refine (eqCall_yes _ _ _).mono ?_
      rintro e w2 ⟨rfl, hb2⟩
      have hs := hbel.size
      have hb3 := hbel.drew.trans (hb2.mono hs)
      clear hb2
      go_wp2_with fail
      go_roundw
      case rel => exact ⟨k + 1, by omega, by go_num, hb3⟩
      case measure => simp [intOf]; omega
    · go_wp2
      go_ret
      exact ⟨rfl, hbel⟩

theorem eqCallS_any (ao bo : Option Addr) (ka kb : Nat) (l : List (Int × Int)) (n m : Nat) (w : World) (hn : n = l.length) (hm : m = l.length) (hl : n ≤ 9223372036854775807) (Hc : CallsAt w ao l) (Hd : CallsAt w bo l) :
    Calls Try.prog 32 #[.slice ao n ka, .slice bo m kb] w fun e w' => e = .returned (.bool true) ∧ Below w.heap.size w w' := by
  obtain rfl : n = m := hn.trans hm.symm
  by_cases h0 : n = 0
  · subst h0
    exact eqCallS_zero ao bo ka kb w
  · rcases Hc with h | ⟨b, off, rfl, hc⟩
    · subst h; exact absurd hn h0
    rcases Hd with h | ⟨b', off', rfl, hd⟩
    · subst h; exact absurd hn h0
    exact eqCallS_pos b off b' off' ka kb l n w hl (by rw [hn]; exact hc) (by rw [hn]; exact hd)

theorem eqCallS_own {b1 b2 : Nat} (v1 v2 : Value) (l : List (Int × Int)) (n m : Nat) (w : World) (hn : n = l.length) (hm : m = l.length) (hl : n ≤ 9223372036854775807) (h1 : w.ownsRow b1 83 2 v1 n (cs l)) (h2 : w.ownsRow b2 83 2 v2 m (cs l)) :
    Calls Try.prog 32 #[v1, v2] w fun e w' => e = .returned (.bool true) ∧ Below w.heap.size w w' := by
  obtain ⟨ao, ka, rfl, hc, _⟩ := own_shape h1 hn
  obtain ⟨bo, kb, rfl, hd, _⟩ := own_shape h2 hm
  exact eqCallS_any ao bo ka kb l n m w hn hm hl hc hd

end Go.Proofs.Ytmgmkgjefplfdaa
