/- The laws' own helpers on lists of clues: copies, comparisons. -/
import Derived.Test.YtnhkabhchepieaaDoorClu
namespace Go.Proofs.YtnhkabhchepieaaDoor
open Go.ChangeShapes Go.WideShapes Go.ChangeAt Go.RowKit
set_option linter.unusedVariables false


theorem infoCL : (Tryd.prog.info? 83).map (fun i => (i.zero, i.size, i.bytes)) = some (some (.agg #[.int .i64 0, .int .i64 0, .int .i64 0, .int .i64 0]), 4, 32) := by kernel_rfl

theorem toClue_any (a b c d : Int) (w : World) :
    Calls Tryd.prog 74 #[.agg #[.int .i64 a, .int .i64 b, .int .i64 c, .int .i64 d]] w fun e w' => e = .returned (.agg #[.int .i64 a, .int .i64 b, .int .i64 c, .int .i64 d]) ∧ Below w.heap.size w w' := by
  go_enter Tryd.func74, Tryd.ntmps74
  go_wp2
  exact bodyPost_ret (v := .agg #[.int .i64 a, .int .i64 b, .int .i64 c, .int .i64 d]) (by simp [results, Tryd.results74, go_sem]) rfl ⟨rfl, by go_grown⟩

theorem toClueS_pos (b off cap : Nat) (l : List Clu) (n : Nat) (w : World) (Hn : Hid (n = l.length)) (hl : n ≤ 1048576) (hl0 : 0 < n)
    (Hc : Hid (∀ i, i < n → Sat4 w b off l i)) :
    Calls Tryd.prog 50 #[.slice (some ⟨b, off, none⟩) n cap] w fun e w' => ∃ cap', e = .returned (.slice (some ⟨w.heap.size, 0, none⟩) n cap') ∧ w'.ownsRow w.heap.size 83 4 (.slice (some ⟨w.heap.size, 0, none⟩) n cap') n (ks l) ∧ Below w.heap.size w w' := by
  obtain ⟨i0, hi, hz0, hz1, hz2⟩ := info_parts infoCL
  have Hz := Lib.hid (And.intro hz0 (And.intro hz1 hz2))
  have hb : b < w.heap.size := World.block_lt_of_cell? w _ (Hc.out 0 hl0).1
  clear hz0 hz1 hz2
  go_enter Tryd.func50, Tryd.ntmps50
  go_wp2_with (refine wpList_make_full _ rfl _ _ 42 rfl w.heap.size 83 i0 (.agg #[.int .i64 0, .int .i64 0, .int .i64 0, .int .i64 0]) 4 Tryd.underlying42 hi Hz.out.1 Hz.out.2.1 .i64 .i64 _ _ n rfl rfl rfl rfl ?_ ?_ ?_ ?_)
  · rw [Hz.out.2.2]; omega
  · unfold maxLen; omega
  · exact Nat.le_refl _
  intro w1 hown hgr
  have hown2 : w1.ownsRow w.heap.size 83 4 (.slice (some ⟨w.heap.size, 0, none⟩) n n) n (ks (List.replicate n (0, 0, 0, 0))) := by rw [← zero_clues]; exact hown
  have Hown0 := Lib.hid hown2
  have Hgr := Lib.hid hgr
  clear hown hgr hown2
  go_wp2_with fail
  go_loopw [4] (fun i wr => ∃ k : Nat, k ≤ n ∧ i = .int .i64 k ∧ wr.ownsRow w.heap.size 83 4 (.slice (some ⟨w.heap.size, 0, none⟩) n n) n (ks (kpart l k)) ∧ Below w.heap.size w wr) (fun i _ => n - (intOf i).toNat)
  case atStart => exact ⟨0, Nat.zero_le _, rfl, by rw [kpart_zero, ← Hn.out]; exact Hown0.out, (Below.refl _ _).grown Hgr.out (Nat.le_refl _) (fun _ h => by cases h)⟩
  case round =>
    obtain ⟨k, hk, rfl, hor, hbel⟩ := hrel
    by_cases hlt : k < n
    · obtain ⟨h0, h1, h2, h7⟩ := (Hc.out k hlt).kept hbel
      have hlt1 : w.heap.size < wr.heap.size := (hor.lt _ rfl).2
      go_wp2_with fail
      refine (toClue_any _ _ _ _ _).mono ?_
      rintro e w2 ⟨rfl, hb2⟩
      have hor2 := own_later hor hb2
      obtain ⟨u0, z0⟩ := own_some hor2 (k * 4) (by omega)
      obtain ⟨u1, z1⟩ := own_some hor2 (k * 4 + 1) (by omega)
      obtain ⟨u2, z2⟩ := own_some hor2 (k * 4 + 2) (by omega)
      obtain ⟨u3, z3⟩ := own_some hor2 (k * 4 + 3) (by omega)
      have zf0 := hor2.frozenAt (k * 4)
      have zf1 := hor2.frozenAt (k * 4 + 1)
      have zf2 := hor2.frozenAt (k * 4 + 2)
      have zf3 := hor2.frozenAt (k * 4 + 3)
      have hor3 := own_set4 hor2 k (k0 l k) (k1 l k) (k2 l k) (k3 l k)
      rw [kpart_set l k (by rw [← Hn.out]; exact hlt)] at hor3
      have Hor3 := Lib.hid hor3
      clear hor3 hor hor2
      have hb3 := hbel.trans (hb2.mono (Nat.le_of_lt hlt1))
      go_wp2_with fail
      go_roundw
      case rel => exact ⟨k + 1, by omega, by go_num, Hor3.out, (((hb3.setCell (Nat.le_refl _) _).setCell (Nat.le_refl _) _).setCell (Nat.le_refl _) _).setCell (Nat.le_refl _) _⟩
      case measure => simp [intOf]; omega
    · have hk' : k = n := by omega
      have hp : kpart l k = l := by rw [hk', Hn.out, kpart_all]
      rw [hp] at hor
      have Hor := Lib.hid hor
      clear hor hp hk'
      go_wp2
      go_ret
      exact ⟨n, rfl, Hor.out, hbel⟩

theorem toClueS_zero (ao : Option Addr) (cap : Nat) (w : World) :
    Calls Tryd.prog 50 #[.slice ao 0 cap] w fun e w' => ∃ cap', e = .returned (.slice (some ⟨w.heap.size, 0, none⟩) 0 cap') ∧ w'.ownsRow w.heap.size 83 4 (.slice (some ⟨w.heap.size, 0, none⟩) 0 cap') 0 (ks []) ∧ Below w.heap.size w w' := by
  obtain ⟨i0, hi, hz0, hz1, hz2⟩ := info_parts infoCL
  have Hz := Lib.hid (And.intro hz0 (And.intro hz1 hz2))
  clear hz0 hz1 hz2
  go_enter Tryd.func50, Tryd.ntmps50
  go_wp2_with (refine wpList_make_full _ rfl _ _ 42 rfl w.heap.size 83 i0 (.agg #[.int .i64 0, .int .i64 0, .int .i64 0, .int .i64 0]) 4 Tryd.underlying42 hi Hz.out.1 Hz.out.2.1 .i64 .i64 _ _ 0 rfl rfl rfl rfl ?_ ?_ ?_ ?_)
  · omega
  · unfold maxLen; omega
  · exact Nat.le_refl _
  intro w1 hown hgr
  have zc := zero_clues 0
  rw [Nat.zero_mul] at zc
  rw [zc] at hown
  clear zc
  have Hown := Lib.hid hown
  have Hbel := Lib.hid ((Below.refl w.heap.size w).grown hgr (Nat.le_refl _) (fun _ h => by cases h))
  clear hown hgr
  go_wp2_with fail
  go_rounds 1
  go_ret
  exact ⟨0, rfl, Hown.out, Hbel.out⟩

theorem toClueS_any (ao : Option Addr) (cap : Nat) (l : List Clu) (n : Nat) (w : World) (Hn : Hid (n = l.length)) (hl : n ≤ 1048576) (Hc : Hid (CluesAt w ao l)) :
    Calls Tryd.prog 50 #[.slice ao n cap] w fun e w' => ∃ cap', e = .returned (.slice (some ⟨w.heap.size, 0, none⟩) n cap') ∧ w'.ownsRow w.heap.size 83 4 (.slice (some ⟨w.heap.size, 0, none⟩) n cap') n (ks l) ∧ Below w.heap.size w w' := by
  by_cases h0 : n = 0
  · subst h0
    have : l = [] := List.eq_nil_of_length_eq_zero Hn.out.symm
    subst this
    exact toClueS_zero ao cap w
  · rcases Hc.out with h | ⟨b, off, rfl, hc⟩
    · subst h; exact absurd Hn.out h0
    · exact toClueS_pos b off cap l n w Hn hl (by omega) (by rw [Hn.out]; exact hc)

theorem eqClue_yes (a b c d : Int) (w : World) :
    Calls Tryd.prog 78 #[.agg #[.int .i64 a, .int .i64 b, .int .i64 c, .int .i64 d], .agg #[.int .i64 a, .int .i64 b, .int .i64 c, .int .i64 d]] w fun e w' => e = .returned (.bool true) ∧ Below w.heap.size w w' := by
  have h1 : (a != a) = false := by simp
  have h2 : (b != b) = false := by simp
  have h3 : (c != c) = false := by simp
  have h4 : (d != d) = false := by simp
  go_enter Tryd.func78, Tryd.ntmps78
  go_wp2
  go_ret
  exact ⟨rfl, by go_grown⟩

theorem eqClueS_zero (ao bo : Option Addr) (ca' cb' : Nat) (w : World) :
    Calls Tryd.prog 55 #[.slice ao 0 ca', .slice bo 0 cb'] w fun e w' => e = .returned (.bool true) ∧ Below w.heap.size w w' := by
  go_enter Tryd.func55, Tryd.ntmps55
  go_wp2_with fail
  go_rounds 1
  go_ret
  exact ⟨rfl, Below.refl _ _⟩

set_option maxRecDepth 100000 in
theorem eqClueS_pos (b off b' off' ka kb : Nat) (l : List Clu) (n : Nat) (w : World) (hl : n ≤ 9223372036854775807)
    (Hc : Hid (∀ i, i < n → Sat4 w b off l i))
    (Hd : Hid (∀ i, i < n → Sat4 w b' off' l i)) :
    Calls Tryd.prog 55 #[.slice (some ⟨b, off, none⟩) n ka, .slice (some ⟨b', off', none⟩) n kb] w fun e w' => e = .returned (.bool true) ∧ Below w.heap.size w w' := by
  have hnn : ((n : Int) != (n : Int)) = false := by simp
  go_enter Tryd.func55, Tryd.ntmps55
  go_wp2_with fail
  go_loopw [5] (fun i wr => ∃ k : Nat, k ≤ n ∧ i = .int .i64 k ∧ Below w.heap.size w wr) (fun i _ => n - (intOf i).toNat)
  case atStart => exact ⟨0, Nat.zero_le _, rfl, Below.refl _ _⟩
  case round =>
    obtain ⟨k, hk, rfl, hbel⟩ := hrel
    by_cases hlt : k < n
    · obtain ⟨h0, h1, h2, h7⟩ := (Hc.out k hlt).kept hbel
      obtain ⟨h3, h4, h5, h6⟩ := (Hd.out k hlt).kept hbel
      go_wp2_with fail
      go_still_tail 8, (by kernel_rfl)
      change wpList _ _ _ _ _ wr.drew
      go_wp2_with fail
      refine (eqClue_yes _ _ _ _ _).mono ?_
      rintro e w2 ⟨rfl, hb2⟩
      have hs := hbel.size
      have hb3 := hbel.drew.trans (hb2.mono hs)
      clear hb2
      go_wp2_with fail
      go_roundw
      case rel => exact ⟨k + 1, by omega, by go_num, hb3⟩
      case measure => simp [intOf]; omega
    · go_wp2
      go_ret
      exact ⟨rfl, hbel⟩

theorem eqClueS_any (ao bo : Option Addr) (ka kb : Nat) (l : List Clu) (n m : Nat) (w : World) (hn : n = l.length) (hm : m = l.length) (hl : n ≤ 9223372036854775807) (Hc : CluesAt w ao l) (Hd : CluesAt w bo l) :
    Calls Tryd.prog 55 #[.slice ao n ka, .slice bo m kb] w fun e w' => e = .returned (.bool true) ∧ Below w.heap.size w w' := by
  obtain rfl : n = m := hn.trans hm.symm
  by_cases h0 : n = 0
  · subst h0
    exact eqClueS_zero ao bo ka kb w
  · rcases Hc with h | ⟨b, off, rfl, hc⟩
    · subst h; exact absurd hn h0
    rcases Hd with h | ⟨b', off', rfl, hd⟩
    · subst h; exact absurd hn h0
    exact eqClueS_pos b off b' off' ka kb l n w hl (by rw [hn]; exact hc) (by rw [hn]; exact hd)

theorem eqClueS_own {b1 b2 : Nat} (v1 v2 : Value) (l : List Clu) (n m : Nat) (w : World) (hn : n = l.length) (hm : m = l.length) (hl : n ≤ 9223372036854775807) (h1 : w.ownsRow b1 83 4 v1 n (ks l)) (h2 : w.ownsRow b2 83 4 v2 m (ks l)) :
    Calls Tryd.prog 55 #[v1, v2] w fun e w' => e = .returned (.bool true) ∧ Below w.heap.size w w' := by
  obtain ⟨ao, ka, rfl, hc, _⟩ := kown_shape h1 hn
  obtain ⟨bo, kb, rfl, hd, _⟩ := kown_shape h2 hm
  exact eqClueS_any ao bo ka kb l n m w hn hm hl hc hd

end Go.Proofs.YtnhkabhchepieaaDoor
