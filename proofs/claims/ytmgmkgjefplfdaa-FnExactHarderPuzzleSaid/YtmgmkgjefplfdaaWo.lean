/- pzWithout. -/
import Derived.Test.YtmgmkgjefplfdaaCat
namespace Go.Proofs.Ytmgmkgjefplfdaa
open Go.ChangeShapes Go.WideShapes Go.ChangeAt Go.RowKit
set_option linter.unusedVariables false


set_option maxHeartbeats 1600000 in
set_option maxRecDepth 20000 in
theorem pzWithout_any (b off : Nat) (l : List Clu) (N cap k : Nat) (w : World) (Hn : Hid (N = l.length)) (hk : k < N) (hN : N ≤ 6) (hcap : N ≤ cap) (hc4 : Hid (∀ i, i < N → Sat4 w b off l i)) :
    Calls Try.prog 85 #[.slice (some ⟨b, off, none⟩) N cap, .int .i64 (k : Int)] w fun e w' => ∃ v, e = .returned v ∧ w'.ownsRow w.heap.size 25 4 v (N - 1) (ks (less l k)) ∧ Below w.heap.size w w' := by
  obtain ⟨i0, hi, hz0, hz1, hz2⟩ := info_parts infoCL
  have hk0 : (0 : Int) ≤ (k : Int) := by omega
  have hkc : (k : Int) ≤ (cap : Int) := by omega
  have hk3 : (0 : Int) ≤ (k : Int) + 1 := by omega
  have hk4 : (k : Int) + 1 ≤ (N : Int) := by omega
  have hk5 : (N : Int) ≤ (cap : Int) := by omega
  have hki : (k : Int) ≤ (N : Int) := by omega
  have hw1 : IntKind.i64.wrap ((k : Int) + 1) = (k : Int) + 1 := IntWalk.i64_in _ (by omega)
  have hw2 : ((k : Int) + 1).toNat = k + 1 := by omega
  have hkl : k < l.length := by rw [← Hn.out]; exact hk
  obtain ⟨off2, hif, hoff⟩ := tail_at b off cap N k hcap hk
  have HN1 : Hid (∀ w', Below w.heap.size w w' → ∀ j u, (ks (l.take k))[j]? = some u → w'.cell? ((⟨b, off, none⟩ : Addr).add j) = some u) := Lib.hid (fun w' hb => clues_news fun i hi => by
    have hi2 := hi
    rw [List.length_take] at hi2
    exact ((hc4.out i (by omega)).kept hb).take (by omega))
  have HN2 : Hid (∀ w', Below w.heap.size w w' → ∀ j u, (ks (l.drop (k + 1)))[j]? = some u → w'.cell? ((⟨b, off2, none⟩ : Addr).add j) = some u) := Lib.hid (fun w' hb => clues_news (tail_cells Hn.out hoff (fun i hi => (hc4.out i hi).kept hb)))
  have HL1 : Hid ((ks (l.take k)).length = k * 4) := Lib.hid (by rw [ks_length, List.length_take, ← Hn.out]; omega)
  have HL2 : Hid ((ks (l.drop (k + 1))).length = (N - (k + 1)) * 4) := Lib.hid (by rw [ks_length, List.length_drop, ← Hn.out])
  have HB0 : Hid (∀ o, Below w.heap.size w (w.alloc o).drew) := fun o => ((Below.refl _ _).alloc (Nat.le_refl _) _).drew
  have HO0 : Hid ((w.alloc (.cells #[] 25)).drew.ownsRow w.heap.size 25 4 (.slice (some ⟨w.heap.size, 0, none⟩) 0 0) 0 []) := (World.ownsRow_lit w #[] 0 (Nat.le_refl _) (by unfold maxLen; omega) rfl).drew
  have Hless : Hid ((less l k).length = 0 + k + (N - (k + 1)) ∧ ks (less l k) = [] ++ ks (l.take k) ++ ks (l.drop (k + 1)) ∧ (less l k).length = N - 1) := Lib.hid ⟨by rw [less_len hkl, ← Hn.out]; omega, by simp [less, ks_append], by rw [less_len hkl, ← Hn.out]⟩
  clear hoff
  go_enter Try.func85, Try.ntmps85
  go_upto_region 1 with (fail)
  go_region_held3 (fun w' => Below w.heap.size w w')
    (first | exact (Below.refl _ _).drew | exact (HB0.out _) | assumption | go_keep)
    (first
      | (refine step_append_mine _ (by rfl) _ _ _ (by rfl) w.heap.size 25 i0 _ 4 32 Try.underlying33 hi hz0 hz1 hz2 rfl (by omega) _ 0 [] (by rfl) HO0.out ⟨b, off, none⟩ k _ (ks (l.take k)) (by rfl) HL1.out (HN1.out _ (HB0.out _)) (ks_one _) (by unfold maxLen; omega) (by omega) (by simp) ?_
         intro v1 w11 own11 gr11
         have hb11 : Below w.heap.size w w11 := (HB0.out _).grown gr11 (by simp) (by intro b hb; cases hb; exact Nat.le_refl _))
      | (refine step_append_mine _ (by rfl) _ _ _ (by rfl) w.heap.size 25 i0 _ 4 32 Try.underlying33 hi hz0 hz1 hz2 rfl (by omega) _ _ _ (by rfl) own11 ⟨b, off2, none⟩ (N - (k + 1)) _ (ks (l.drop (k + 1))) (by rfl) HL2.out (HN2.out _ hb11) (ks_one _) (by unfold maxLen; omega) (by omega) hb11.size ?_
         intro v2 w2 own2 gr2
         have hb2 : Below w.heap.size w w2 := hb11.grown gr2 hb11.size (fun b hb => (own11.lt b hb).1))
      | fail)
  all_goals (
    have hl0 : 0 + k + (N - (k + 1)) = N - 1 := by omega
    rw [← Hless.out.2.1, hl0] at own2
    have Own2 := Lib.hid own2
    have Hb2 := Lib.hid hb2
    clear hw1 hw2 hif own11 gr11 hb11 own2 gr2 hb2 HN1 HN2
    go_wp2_with fail
    go_ret
    exact ⟨_, rfl, Own2.out, Hb2.out⟩)

end Go.Proofs.Ytmgmkgjefplfdaa
