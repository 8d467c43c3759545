/- A list of numbers copied by the laws. -/
import Derived.Test.YtaangjidkkpogaaDoorInts
namespace Go.Proofs.YtaangjidkkpogaaDoor
open Go.ChangeShapes Go.WideShapes Go.ChangeAt Go.RowKit
set_option linter.unusedVariables false

theorem toIntS_pos (b off cap : Nat) (l : List Int) (n : Nat) (w : World) (Hn : Hid (n = l.length)) (hl : n ≤ 1048576) (hl0 : 0 < n)
    (Hc : Hid (∀ i, i < n → w.cell? ⟨b, off + i, none⟩ = some (.int .i64 (na l i)))) :
    Calls Tryd.prog 18 #[.slice (some ⟨b, off, none⟩) n cap] w fun e w' => ∃ cap', e = .returned (.slice (some ⟨w.heap.size, 0, none⟩) n cap') ∧ w'.ownsRow w.heap.size 3 1 (.slice (some ⟨w.heap.size, 0, none⟩) n cap') n (ns l) ∧ Below w.heap.size w w' := by
  obtain ⟨i0, hi, hz0, hz1, hz2⟩ := info_parts info3
  have Hz := Lib.hid (And.intro hz0 (And.intro hz1 hz2))
  have hb : b < w.heap.size := World.block_lt_of_cell? w _ (Hc.out 0 hl0)
  clear hz0 hz1 hz2
  go_enter Tryd.func18, Tryd.ntmps18
  go_wp2_with (refine wpList_make_full _ rfl _ _ 34 rfl w.heap.size 3 i0 (.int .i64 0) 1 Tryd.underlying34 hi Hz.out.1 Hz.out.2.1 .i64 .i64 _ _ n rfl rfl rfl rfl ?_ ?_ ?_ ?_)
  · rw [Hz.out.2.2]; omega
  · unfold maxLen; omega
  · exact Nat.le_refl _
  intro w1 hown hgr
  have hown2 : w1.ownsRow w.heap.size 3 1 (.slice (some ⟨w.heap.size, 0, none⟩) n n) n (ns (List.replicate n 0)) := by rw [← zero_nums, Nat.mul_one]; simpa using hown
  have Hown0 := Lib.hid hown2
  have Hgr := Lib.hid hgr
  clear hown hgr hown2
  go_wp2_with fail
  go_loopw [4] (fun i wr => ∃ k : Nat, k ≤ n ∧ i = .int .i64 k ∧ wr.ownsRow w.heap.size 3 1 (.slice (some ⟨w.heap.size, 0, none⟩) n n) n (ns (npart l k)) ∧ Below w.heap.size w wr) (fun i _ => n - (intOf i).toNat)
  case atStart => exact ⟨0, Nat.zero_le _, rfl, by rw [npart_zero, ← Hn.out]; exact Hown0.out, (Below.refl _ _).grown Hgr.out (Nat.le_refl _) (fun _ h => by cases h)⟩
  case round =>
    obtain ⟨k, hk, rfl, hor, hbel⟩ := hrel
    by_cases hlt : k < n
    · have h0 := hbel.cell (p := ⟨b, off + k, none⟩) hb
      rw [Hc.out k hlt] at h0
      obtain ⟨u0, z0⟩ := own_some hor k (by omega)
      have zf0 := hor.frozenAt k
      have hor3 := (hor.stored k (.int .i64 (na l k))).1
      rw [ns_set, npart_set l k (by rw [← Hn.out]; exact hlt)] at hor3
      have Hor3 := Lib.hid hor3
      clear hor3 hor
      go_wp2_with fail
      go_roundw
      case rel => exact ⟨k + 1, by omega, by go_num, Hor3.out, hbel.setCell (Nat.le_refl _) _⟩
      case measure => simp [intOf]; omega
    · have hk' : k = n := by omega
      have hp : npart l k = l := by rw [hk', Hn.out, npart_all]
      rw [hp] at hor
      have Hor := Lib.hid hor
      clear hor hp hk'
      go_wp2
      go_ret
      exact ⟨n, rfl, Hor.out, hbel⟩

theorem toIntS_zero (ao : Option Addr) (cap : Nat) (w : World) :
    Calls Tryd.prog 18 #[.slice ao 0 cap] w fun e w' => ∃ cap', e = .returned (.slice (some ⟨w.heap.size, 0, none⟩) 0 cap') ∧ w'.ownsRow w.heap.size 3 1 (.slice (some ⟨w.heap.size, 0, none⟩) 0 cap') 0 (ns []) ∧ Below w.heap.size w w' := by
  obtain ⟨i0, hi, hz0, hz1, hz2⟩ := info_parts info3
  have Hz := Lib.hid (And.intro hz0 (And.intro hz1 hz2))
  clear hz0 hz1 hz2
  go_enter Tryd.func18, Tryd.ntmps18
  go_wp2_with (refine wpList_make_full _ rfl _ _ 34 rfl w.heap.size 3 i0 (.int .i64 0) 1 Tryd.underlying34 hi Hz.out.1 Hz.out.2.1 .i64 .i64 _ _ 0 rfl rfl rfl rfl ?_ ?_ ?_ ?_)
  · omega
  · unfold maxLen; omega
  · exact Nat.le_refl _
  intro w1 hown hgr
  have zc := zero_nums 0
  rw [Nat.zero_mul] at zc
  rw [zc] at hown
  have Hown := Lib.hid hown
  have Hbel := Lib.hid ((Below.refl w.heap.size w).grown hgr (Nat.le_refl _) (fun _ h => by cases h))
  clear hown hgr zc
  go_wp2_with fail
  go_rounds 1
  go_ret
  exact ⟨0, rfl, Hown.out, Hbel.out⟩

theorem toIntS_any (ao : Option Addr) (cap : Nat) (l : List Int) (n : Nat) (w : World) (Hn : Hid (n = l.length)) (hl : n ≤ 1048576) (Hc : Hid (NumsAt w ao l)) :
    Calls Tryd.prog 18 #[.slice ao n cap] w fun e w' => ∃ cap', e = .returned (.slice (some ⟨w.heap.size, 0, none⟩) n cap') ∧ w'.ownsRow w.heap.size 3 1 (.slice (some ⟨w.heap.size, 0, none⟩) n cap') n (ns l) ∧ Below w.heap.size w w' := by
  by_cases h0 : n = 0
  · subst h0
    have : l = [] := List.eq_nil_of_length_eq_zero Hn.out.symm
    subst this
    exact toIntS_zero ao cap w
  · rcases Hc.out with h | ⟨b, off, rfl, hc⟩
    · subst h; exact absurd Hn.out h0
    · exact toIntS_pos b off cap l n w Hn hl (by omega) (by rw [Hn.out]; exact hc)

end Go.Proofs.YtaangjidkkpogaaDoor
