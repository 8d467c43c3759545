/- The laws' own helpers on lists of sends: copies, comparisons. -/
import Derived.Test.YtghfkgbmmkcjhaaSnd
namespace Go.Proofs.Ytghfkgbmmkcjhaa
open Go.ChangeShapes Go.WideShapes Go.ChangeAt Go.RowKit
set_option linter.unusedVariables false


theorem infoSE : (Try.prog.info? 52).map (fun i => (i.zero, i.size, i.bytes)) = some (some (.agg #[.int .i64 0, .int .i64 0, .int .i64 0]), 3, 24) := by kernel_rfl

theorem toSend_any (a b c : Int) (w : World) :
    Calls Try.prog 64 #[.agg #[.int .i64 a, .int .i64 b, .int .i64 c]] w fun e w' => e = .returned (.agg #[.int .i64 a, .int .i64 b, .int .i64 c]) ∧ Below w.heap.size w w' := by
  go_enter Try.func64, Try.ntmps64
  go_wp2
  exact bodyPost_ret (v := .agg #[.int .i64 a, .int .i64 b, .int .i64 c]) (by simp [results, Try.results64, go_sem]) rfl ⟨rfl, by go_grown⟩

theorem toSendS_pos (b off cap : Nat) (l : List Snd) (n : Nat) (w : World) (Hn : Hid (n = l.length)) (hl : n ≤ 1048576) (hl0 : 0 < n)
    (Hc : Hid (∀ i, i < n → Sat3 w b off l i)) :
    Calls Try.prog 31 #[.slice (some ⟨b, off, none⟩) n cap] w fun e w' => ∃ cap', e = .returned (.slice (some ⟨w.heap.size, 0, none⟩) n cap') ∧ w'.ownsRow w.heap.size 52 3 (.slice (some ⟨w.heap.size, 0, none⟩) n cap') n (ss l) ∧ Below w.heap.size w w' := by
  obtain ⟨i0, hi, hz0, hz1, hz2⟩ := info_parts infoSE
  have Hz := Lib.hid (And.intro hz0 (And.intro hz1 hz2))
  have hb : b < w.heap.size := World.block_lt_of_cell? w _ (Hc.out 0 hl0).1
  clear hz0 hz1 hz2
  go_enter Try.func31, Try.ntmps31
  go_wp2_with (refine wpList_make_full _ rfl _ _ 25 rfl w.heap.size 52 i0 (.agg #[.int .i64 0, .int .i64 0, .int .i64 0]) 3 Try.underlying25 hi Hz.out.1 Hz.out.2.1 .i64 .i64 _ _ n rfl rfl rfl rfl ?_ ?_ ?_ ?_)
  · rw [Hz.out.2.2]; omega
  · unfold maxLen; omega
  · exact Nat.le_refl _
  intro w1 hown hgr
  have hown2 : w1.ownsRow w.heap.size 52 3 (.slice (some ⟨w.heap.size, 0, none⟩) n n) n (ss (List.replicate n (0, 0, 0))) := by rw [← zero_sends]; exact hown
  have Hown0 := Lib.hid hown2
  have Hgr := Lib.hid hgr
  clear hown hgr hown2
  go_wp2_with fail
  go_loopw [4] (fun i wr => ∃ k : Nat, k ≤ n ∧ i = .int .i64 k ∧ wr.ownsRow w.heap.size 52 3 (.slice (some ⟨w.heap.size, 0, none⟩) n n) n (ss (spart l k)) ∧ Below w.heap.size w wr) (fun i _ => n - (intOf i).toNat)
  case atStart => exact ⟨0, Nat.zero_le _, rfl, by rw [spart_zero, ← Hn.out]; exact Hown0.out, (Below.refl _ _).grown Hgr.out (Nat.le_refl _) (fun _ h => by cases h)⟩
  case round =>
    obtain ⟨k, hk, rfl, hor, hbel⟩ := hrel
    by_cases hlt : k < n
    · obtain ⟨h0, h1, h2⟩ := (Hc.out k hlt).kept hbel
      have hlt1 : w.heap.size < wr.heap.size := (hor.lt _ rfl).2
      go_wp2_with fail
      refine (toSend_any _ _ _ _).mono ?_
      rintro e w2 ⟨rfl, hb2⟩
      have hor2 := own_later hor hb2
      obtain ⟨u0, z0⟩ := own_some hor2 (k * 3) (by omega)
      obtain ⟨u1, z1⟩ := own_some hor2 (k * 3 + 1) (by omega)
      obtain ⟨u2, z2⟩ := own_some hor2 (k * 3 + 2) (by omega)
      have zf0 := hor2.frozenAt (k * 3)
      have zf1 := hor2.frozenAt (k * 3 + 1)
      have zf2 := hor2.frozenAt (k * 3 + 2)
      have hor3 := own_set3 hor2 k (sf l k) (st l k) (sm l k)
      rw [spart_set l k (by rw [← Hn.out]; exact hlt)] at hor3
      have Hor3 := Lib.hid hor3
      clear hor3 hor hor2
      have hb3 := hbel.trans (hb2.mono (Nat.le_of_lt hlt1))
      go_wp2_with fail
      go_roundw
      case rel => exact ⟨k + 1, by omega, by go_num, Hor3.out, ((hb3.setCell (Nat.le_refl _) _).setCell (Nat.le_refl _) _).setCell (Nat.le_refl _) _⟩
      case measure => simp [intOf]; omega
    · have hk' : k = n := by omega
      have hp : spart l k = l := by rw [hk', Hn.out, spart_all]
      rw [hp] at hor
      have Hor := Lib.hid hor
      clear hor hp hk'
      go_wp2
      go_ret
      exact ⟨n, rfl, Hor.out, hbel⟩

theorem toSendS_zero (ao : Option Addr) (cap : Nat) (w : World) :
    Calls Try.prog 31 #[.slice ao 0 cap] w fun e w' => ∃ cap', e = .returned (.slice (some ⟨w.heap.size, 0, none⟩) 0 cap') ∧ w'.ownsRow w.heap.size 52 3 (.slice (some ⟨w.heap.size, 0, none⟩) 0 cap') 0 (ss []) ∧ Below w.heap.size w w' := by
  obtain ⟨i0, hi, hz0, hz1, hz2⟩ := info_parts infoSE
  have Hz := Lib.hid (And.intro hz0 (And.intro hz1 hz2))
  clear hz0 hz1 hz2
  go_enter Try.func31, Try.ntmps31
  go_wp2_with (refine wpList_make_full _ rfl _ _ 25 rfl w.heap.size 52 i0 (.agg #[.int .i64 0, .int .i64 0, .int .i64 0]) 3 Try.underlying25 hi Hz.out.1 Hz.out.2.1 .i64 .i64 _ _ 0 rfl rfl rfl rfl ?_ ?_ ?_ ?_)
  · omega
  · unfold maxLen; omega
  · exact Nat.le_refl _
  intro w1 hown hgr
  have zc := zero_sends 0
  rw [Nat.zero_mul] at zc
  rw [zc] at hown
  clear zc
  have Hown := Lib.hid hown
  have Hbel := Lib.hid ((Below.refl w.heap.size w).grown hgr (Nat.le_refl _) (fun _ h => by cases h))
  clear hown hgr
  go_wp2_with fail
  go_rounds 1
  go_ret
  exact ⟨0, rfl, Hown.out, Hbel.out⟩

theorem toSendS_any (ao : Option Addr) (cap : Nat) (l : List Snd) (n : Nat) (w : World) (Hn : Hid (n = l.length)) (hl : n ≤ 1048576) (Hc : Hid (SendsAt w ao l)) :
    Calls Try.prog 31 #[.slice ao n cap] w fun e w' => ∃ cap', e = .returned (.slice (some ⟨w.heap.size, 0, none⟩) n cap') ∧ w'.ownsRow w.heap.size 52 3 (.slice (some ⟨w.heap.size, 0, none⟩) n cap') n (ss l) ∧ Below w.heap.size w w' := by
  by_cases h0 : n = 0
  · subst h0
    have : l = [] := List.eq_nil_of_length_eq_zero Hn.out.symm
    subst this
    exact toSendS_zero ao cap w
  · rcases Hc.out with h | ⟨b, off, rfl, hc⟩
    · subst h; exact absurd Hn.out h0
    · exact toSendS_pos b off cap l n w Hn hl (by omega) (by rw [Hn.out]; exact hc)

theorem eqSend_yes (a b c : Int) (w : World) :
    Calls Try.prog 62 #[.agg #[.int .i64 a, .int .i64 b, .int .i64 c], .agg #[.int .i64 a, .int .i64 b, .int .i64 c]] w fun e w' => e = .returned (.bool true) ∧ Below w.heap.size w w' := by
  have h1 : (a != a) = false := by simp
  have h2 : (b != b) = false := by simp
  have h3 : (c != c) = false := by simp
  go_enter Try.func62, Try.ntmps62
  go_wp2
  go_ret
  exact ⟨rfl, by go_grown⟩

theorem eqSendS_zero (ao bo : Option Addr) (ca' cb' : Nat) (w : World) :
    Calls Try.prog 26 #[.slice ao 0 ca', .slice bo 0 cb'] w fun e w' => e = .returned (.bool true) ∧ Below w.heap.size w w' := by
  go_enter Try.func26, Try.ntmps26
  go_wp2_with fail
  go_rounds 1
  go_ret
  exact ⟨rfl, Below.refl _ _⟩

set_option maxRecDepth 100000 in
theorem eqSendS_pos (b off b' off' ka kb : Nat) (l : List Snd) (n : Nat) (w : World) (hl : n ≤ 9223372036854775807)
    (Hc : Hid (∀ i, i < n → Sat3 w b off l i))
    (Hd : Hid (∀ i, i < n → Sat3 w b' off' l i)) :
    Calls Try.prog 26 #[.slice (some ⟨b, off, none⟩) n ka, .slice (some ⟨b', off', none⟩) n kb] w fun e w' => e = .returned (.bool true) ∧ Below w.heap.size w w' := by
  have hnn : ((n : Int) != (n : Int)) = false := by simp
  go_enter Try.func26, Try.ntmps26
  go_wp2_with fail
  go_loopw [5] (fun i wr => ∃ k : Nat, k ≤ n ∧ i = .int .i64 k ∧ Below w.heap.size w wr) (fun i _ => n - (intOf i).toNat)
  case atStart => exact ⟨0, Nat.zero_le _, rfl, Below.refl _ _⟩
  case round =>
    obtain ⟨k, hk, rfl, hbel⟩ := hrel
    by_cases hlt : k < n
    · obtain ⟨h0, h1, h2⟩ := (Hc.out k hlt).kept hbel
      obtain ⟨h3, h4, h5⟩ := (Hd.out k hlt).kept hbel
      go_wp2_with fail
      go_still_tail 8, (by kernel_rfl)
      change wpList _ _ _ _ _ wr.drew
      go_wp2_with fail
      refine (eqSend_yes _ _ _ _).mono ?_
      rintro e w2 ⟨rfl, hb2⟩
      have hs := hbel.size
      have hb3 := hbel.drew.trans (hb2.mono hs)
      clear hb2
      go_wp2_with fail
      go_roundw
      case rel => exact ⟨k + 1, by omega, by go_num, hb3⟩
      case measure => simp [intOf]; omega
    · go_wp2
      go_ret
      exact ⟨rfl, hbel⟩

theorem eqSendS_any (ao bo : Option Addr) (ka kb : Nat) (l : List Snd) (n m : Nat) (w : World) (hn : n = l.length) (hm : m = l.length) (hl : n ≤ 9223372036854775807) (Hc : SendsAt w ao l) (Hd : SendsAt w bo l) :
    Calls Try.prog 26 #[.slice ao n ka, .slice bo m kb] w fun e w' => e = .returned (.bool true) ∧ Below w.heap.size w w' := by
  obtain rfl : n = m := hn.trans hm.symm
  by_cases h0 : n = 0
  · subst h0
    exact eqSendS_zero ao bo ka kb w
  · rcases Hc with h | ⟨b, off, rfl, hc⟩
    · subst h; exact absurd hn h0
    rcases Hd with h | ⟨b', off', rfl, hd⟩
    · subst h; exact absurd hn h0
    exact eqSendS_pos b off b' off' ka kb l n w hl (by rw [hn]; exact hc) (by rw [hn]; exact hd)

theorem eqSendS_own {b1 b2 : Nat} (v1 v2 : Value) (l : List Snd) (n m : Nat) (w : World) (hn : n = l.length) (hm : m = l.length) (hl : n ≤ 9223372036854775807) (h1 : w.ownsRow b1 52 3 v1 n (ss l)) (h2 : w.ownsRow b2 52 3 v2 m (ss l)) :
    Calls Try.prog 26 #[v1, v2] w fun e w' => e = .returned (.bool true) ∧ Below w.heap.size w w' := by
  obtain ⟨ao, ka, rfl, hc, _⟩ := sown_shape h1 hn
  obtain ⟨bo, kb, rfl, hd, _⟩ := sown_shape h2 hm
  exact eqSendS_any ao bo ka kb l n m w hn hm hl hc hd

end Go.Proofs.Ytghfkgbmmkcjhaa
