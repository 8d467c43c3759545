/- All casts, the program's way. -/
import Derived.Test.YtaangjidkkpogaaGrow
namespace Go.Proofs.Ytaangjidkkpogaa
open Go.ChangeShapes Go.WideShapes Go.ChangeAt Go.RowKit
set_option linter.unusedVariables false


set_option maxHeartbeats 400000 in
set_option maxRecDepth 20000 in
theorem allCasts_any (n : Nat) (w : World) (hn : n ≤ 8) :
    Calls Try.prog 68 #[.int .i64 (n : Int)] w fun e w' => ∃ g cap N, Hid (N = (allC n).length) ∧ e = .returned (.slice (some ⟨g, 0, none⟩) N cap) ∧ w'.ownsRow w.heap.size 60 1 (.slice (some ⟨g, 0, none⟩) N cap) N (ts (tc (allC n))) ∧ Below w.heap.size w w' := by
  obtain ⟨i0, hi, hz0, hz1, hz2⟩ := info_parts infoCT
  obtain ⟨H, hH⟩ : ∃ H, w.heap.size = H := ⟨_, rfl⟩
  have H1 : Hid ((w.alloc (.cells #[.string ⟨#[]⟩] 60)).ownsRow H 60 1 (.slice (some ⟨w.heap.size, 0, none⟩) 1 1) 1 (ts (tc (allC 0)))) := Lib.hid (World.ownsRow_lit w #[.string ⟨#[]⟩] 1 (by omega) (by decide) rfl)
  have HB : Hid (Below H w (w.alloc (.cells #[.string ⟨#[]⟩] 60))) := Lib.hid (by rw [← hH]; exact (Below.refl _ _).alloc (Nat.le_refl _) _)
  rw [hH]
  have HH := Lib.hid hH
  clear hH
  go_enter Try.func68, Try.ntmps68
  go_wp2_with fail
  go_loopw [3, 9] (fun v i wr => ∃ (k N g cap : Nat), k ≤ n ∧ i = .int .i64 k ∧ Hid (N = (allC k).length) ∧ v = .slice (some ⟨g, 0, none⟩) N cap ∧ wr.ownsRow H 60 1 (.slice (some ⟨g, 0, none⟩) N cap) N (ts (tc (allC k))) ∧ Below H w wr) (fun _ i _ => n - (intOf i).toNat)
  case atStart => exact ⟨0, 1, w.heap.size, 1, Nat.zero_le _, rfl, Lib.hid rfl, rfl, H1.out, HB.out⟩
  case round =>
    obtain ⟨k, N, g, cap, hk, rfl, HN, rfl, hor, hbel⟩ := hrel
    by_cases hlt : k < n
    · obtain ⟨wa, hwa⟩ : ∃ q, wr = q := ⟨_, rfl⟩
      rw [hwa] at hor hbel ⊢
      clear hwa
      have HLs : Hid (allC (k + 1) = dbl (allC k)) := Lib.hid rfl
      have hN2 : N = 2 ^ k := by rw [HN.out, allC_len]
      have hN1 : 1 ≤ N := by rw [hN2]; exact Nat.one_le_two_pow
      have hN8 : N ≤ 128 := by rw [hN2]; exact Nat.le_trans (Nat.pow_le_pow_right (by omega) (show k ≤ 7 by omega)) (by decide)
      have hcap := own_cap3 hor
      have hgs : g < wa.heap.size := (hor.lt g rfl).2
      obtain ⟨H2, hH2⟩ : ∃ q, wa.heap.size = q := ⟨_, rfl⟩
      have hHH : H ≤ H2 := by have := hbel.size; have := HH.out; omega
      have HH2 := Lib.hid hH2
      have HC : Hid (∀ j, (hj : j < (allC k).length) → wa.cell? ⟨g, j, none⟩ = some (.string (cbs (allC k)[j]))) := Lib.hid (fun j hj => by
        have h1 := hor.cellAt j (by rw [HN.out]; omega)
        rw [ts_get _ j (by rw [tc_len]; exact hj), tc_get _ j hj] at h1
        exact h1)
      have HLen : Hid (∀ c ∈ allC k, c.length = k) := allC_mem k
      have Hbel := Lib.hid hbel
      obtain ⟨L, hL⟩ : ∃ q, allC k = q := ⟨_, rfl⟩
      rw [hL] at HC HLs HN HLen
      clear hor hbel hN2 hL hH2
      go_wp2_with fail
      go_loopw [4, 13] (fun v i wr => ∃ (j M : Nat), j ≤ N ∧ i = .int .i64 j ∧ Hid (M = 2 * j) ∧ wr.ownsRow H2 60 1 v M (ts (tc (dbl (L.take j)))) ∧ Below H2 wa wr) (fun _ i _ => N - (intOf i).toNat)
      case atStart => exact ⟨0, 0, Nat.zero_le _, rfl, Lib.hid rfl, World.ownsRow_nil _ _ _ _, by rw [← HH2.out]; exact Below.refl _ _⟩
      case round =>
        obtain ⟨j, M, hj, rfl, HM, hor, hb2⟩ := hrel
        have hM : M ≤ 1000 := by have := HM.out; omega
        have hsz : H2 ≤ wr.heap.size := by have := hb2.size; have := HH2.out; omega
        by_cases hltj : j < N
        · have hjl : j < L.length := by rw [← HN.out]; exact hltj
          have hc := (hb2.cell (p := ⟨g, j, none⟩) (by have := HH2.out; show g < H2; omega)).trans (HC.out j hjl)
          have HT : Hid (tc (dbl (L.take (j + 1))) = tc (dbl (L.take j)) ++ [cbs (L[j] ++ [true]), cbs (L[j] ++ [false])]) := Lib.hid (by rw [dbl_take L j hjl, tc_append]; rfl)
          rw [← cbs_push, ← cbs_push] at HT
          have hsl : (cbs L[j]).size ≤ 100 := by
            rw [cbs_size, HLen.out _ (List.getElem_mem hjl)]; omega
          generalize cbs L[j] = s at hc HT hsl
          have Hb3 := Lib.hid (hb2.alloc hsz (.cells #[.string (s ++ ⟨#[104]⟩), .string (s ++ ⟨#[108]⟩)] 60))
          have Hor3 := Lib.hid (hor.alloc (.cells #[.string (s ++ ⟨#[104]⟩), .string (s ++ ⟨#[108]⟩)] 60))
          have HCC : Hid (∀ q, q < 2 → (wr.alloc (.cells #[.string (s ++ ⟨#[104]⟩), .string (s ++ ⟨#[108]⟩)] 60)).cell? ⟨wr.heap.size, q, none⟩ = some (.string (ta [s ++ ⟨#[104]⟩, s ++ ⟨#[108]⟩] q))) := Lib.hid (fun q hq => by
            obtain rfl | rfl : q = 0 ∨ q = 1 := by omega
            · simp [ta]
            · simp [ta])
          clear hor hb2
          go_wp2_with (at_builtin; refine push_strs _ rfl _ _ 54 60 rfl H2 i0 Try.underlying54 hi hz0 hz1 hz2 _ _ M rfl Hor3.out (by omega) [s ++ ⟨#[104]⟩, s ++ ⟨#[108]⟩] 2 rfl (by decide) (by decide) _ wr.heap.size rfl HCC.out (by simp; omega) ?_)
          intro g3 cap3 w4 own4 gr4 _
          have Own4 : Hid (w4.ownsRow H2 60 1 (.slice (some ⟨g3, 0, none⟩) (M + 2) cap3) (M + 2) (ts (tc (dbl (L.take (j + 1)))))) := Lib.hid (by rw [HT.out]; exact own4)
          have Hb4 := Lib.hid (Hb3.out.grown gr4 (by simp; omega) (fun k hk => (Hor3.out.lt k hk).1))
          clear own4 gr4
          go_wp2_with fail
          go_roundw
          case rel => exact ⟨j + 1, M + 2, by omega, by go_num, Lib.hid (by have := HM.out; omega), Own4.out, Hb4.out⟩
          case measure => simp [intOf]; omega
        · obtain rfl : j = N := by omega
          have hT : L.take j = L := List.take_of_length_le (by rw [HN.out]; exact Nat.le_refl _)
          rw [hT, ← HLs.out] at hor
          obtain ⟨g2, cap2, rfl⟩ := own_apos hor (by have := HM.out; omega)
          have Hor := Lib.hid (own_base hor hHH)
          have Hb2 := Lib.hid (Hbel.out.trans (hb2.mono hHH))
          have HM2 : Hid (M = (allC (k + 1)).length) := Lib.hid (by rw [HM.out, HLs.out, HN.out, dbl_len])
          clear hor hb2 hT HC
          go_wp2_with fail
          go_roundw
          case rel => exact ⟨k + 1, M, g2, cap2, by omega, by go_num, HM2.out, rfl, Hor.out, Hb2.out⟩
          case measure => simp [intOf]; omega
    · obtain rfl : k = n := by omega
      have Hor := Lib.hid hor
      clear hor
      go_wp2
      go_ret
      exact ⟨g, cap, N, HN, rfl, Hor.out, hbel⟩

end Go.Proofs.Ytaangjidkkpogaa
