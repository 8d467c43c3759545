/- Labels: the size of a group in the model. -/
import Derived.Test.YtcedacneagpjcaaLb
namespace Go.Proofs.Ytcedacneagpjcaa
open Go.ChangeShapes Go.WideShapes Go.ChangeAt Go.RowKit
set_option linter.unusedVariables false


set_option maxHeartbeats 800000 in
set_option maxRecDepth 20000 in
theorem cbSize_pos (b off cap : Nat) (l : List Int) (n k : Nat) (w : World) (Hn : Hid (n = l.length)) (Hg : Hid (grB l = true)) (hk : k < n)
    (Hc : Hid (∀ i, i < n → w.cell? ⟨b, off + i, none⟩ = some (.int .i64 (na l i)))) :
    Calls Try.prog 69 #[.slice (some ⟨b, off, none⟩) n cap, .int .i64 (k : Int)] w fun e w' => e = .returned (.int .i64 ((sz l k : Nat) : Int)) ∧ Below w.heap.size w w' := by
  have hkl : k < l.length := by have := Hn.out; omega
  have hga := grB_at Hg.out hkl
  obtain ⟨G, hG⟩ := Int.eq_ofNat_of_zero_le hga.1
  have hgl := gl_length l l.length (grB_to Hg.out (Nat.le_refl _))
  have hmono := nx_mono l (show k + 1 ≤ l.length by omega)
  have hGL : G < (gl l n).length := by rw [Hn.out]; omega
  have Hsz : Hid ((row (gl l n) G).length = sz l k) := by show _ = _; rw [Hn.out]; exact gl_size l Hg.out k G hG
  have h0 := Hc.out k hk
  rw [hG] at h0
  have H0 := Lib.hid h0
  have Hgr := Lib.hid (cbGroups_any (some ⟨b, off, none⟩) cap l n w.drew Hn Hg (.inr ⟨b, off, rfl, fun i hi => Hc.out i (by rw [Hn.out]; exact hi)⟩))
  obtain ⟨LG, hLG⟩ : ∃ LG, LG = gl l n := ⟨_, rfl⟩
  rw [← hLG] at hGL Hsz Hgr
  obtain ⟨S, hS⟩ : ∃ S, S = sz l k := ⟨_, rfl⟩
  rw [← hS] at Hsz ⊢
  have hb0 : (0 : Int) ≤ k := by omega
  have hb1 : (k : Int) < n := by omega
  have hG0 : (0 : Int) ≤ G := by omega
  have hG1 : (G : Int) < LG.length := by omega
  clear hga hgl hmono hG hLG hS
  go_enter Try.func69, Try.ntmps69
  go_upto_region 1 with (fail)
  refine wp_region_any (by kernel_rfl) ?_
  change wpAny _ _ _ _ _ _ _ (World.drew _)
  have hbd : Below w.heap.size w w.drew := (Below.refl _ _).drew
  have h4 : w.drew.cell? ⟨b, off + k, none⟩ = some (.int .i64 (G : Int)) := h0
  obtain ⟨W4, hW4⟩ : ∃ W4, w.drew = W4 := ⟨_, rfl⟩
  rw [hW4] at Hgr hbd h4 ⊢
  have Hbd := Lib.hid hbd
  clear hW4 h0 H0 hbd
  refine wpAny_take (i := 0) (v := ?_) rfl (by kernel_rfl) (by kernel_rfl) (by kernel_rfl) (fun _ _ _ h => h) (Or.inl ⟨by rfl, ?y0⟩) ?_
  case y0 => intro w; go_simp; first | done | with_reducible rfl
  refine wpAny_take (i := 2) (v := ?_) rfl (by kernel_rfl) (by kernel_rfl) (by kernel_rfl) (fun _ _ _ h => h) (Or.inl ⟨by rfl, ?y2⟩) ?_
  case y2 => intro w; go_simp; first | done | with_reducible rfl
  refine wpAny_take (i := 3) (v := ?_) rfl (by kernel_rfl) (by kernel_rfl) (by kernel_rfl) (fun _ _ _ h => h) (Or.inl ⟨by rfl, ?y3⟩) ?_
  case y3 => intro w; go_simp; first | done | with_reducible rfl
  refine wpAny_take (i := 4) (v := .pointer (some ⟨b, off + k, none⟩)) rfl (by kernel_rfl) (by kernel_rfl) (by kernel_rfl) (fun _ _ _ h => h) (Or.inl ⟨by rfl, ?y4⟩) ?_
  case y4 => intro w; go_simp; first | done | rfl
  refine wpAny_ready (rs := [1, 5]) (by kernel_rfl) (by simp) ?_
  refine AllReady.cons rfl (fun K hK => ?_) ?_
  · go_simp
    go_wp2_with (go_at_call 61; (with_reducible refine Hgr.out.mono ?_); rintro e w3 ⟨v, X, rfl, hO, hb3⟩)
    try (refine hK _ _ ?_; clear hK K)
    have h3 := cell_old hb3 h4
    obtain ⟨g2, cap7, rfl, hg2⟩ := hO.outer (by omega)
    obtain ⟨a7, c7, hX7, hc7, own7⟩ := hO.cellOf rfl G hGL
    rw [Hsz.out] at hc7
    have Hb3 := Lib.hid (Hbd.out.trans (hb3.mono Hbd.out.size))
    clear hX7 own7 hO hb3
    refine wpAny_ready (rs := [5]) (by kernel_rfl) (by simp) ?_
    refine AllReady.cons rfl (fun K hK => ?_) AllReady.nil
    go_simp
    try (refine hK _ _ ?_; clear hK K)
    refine wpAny_ready (rs := [6]) (by kernel_rfl) (by simp) ?_
    refine AllReady.cons rfl (fun K hK => ?_) AllReady.nil
    go_simp
    try (refine hK _ _ ?_; clear hK K)
    refine wpAny_ready (rs := [7]) (by kernel_rfl) (by simp) ?_
    refine AllReady.cons rfl (fun K hK => ?_) AllReady.nil
    go_simp
    try (refine hK _ _ ?_; clear hK K)
    refine wpAny_ready (rs := [8]) (by kernel_rfl) (by simp) ?_
    refine AllReady.cons rfl (fun K hK => ?_) AllReady.nil
    go_simp
    try (refine hK _ _ ?_; clear hK K)
    refine wpAny_ready (rs := [9]) (by kernel_rfl) (by simp) ?_
    refine AllReady.cons rfl (fun K hK => ?_) AllReady.nil
    go_simp
    try (refine hK _ _ ?_; clear hK K)
    refine wpAny_done (by kernel_rfl) ?_ _
    go_wp2_with fail
    go_ret
    exact ⟨rfl, Hb3.out⟩
  refine AllReady.cons rfl (fun K hK => ?_) AllReady.nil
  go_simp
  try (refine hK _ _ ?_; clear hK K)
  refine wpAny_ready (rs := [1]) (by kernel_rfl) (by simp) ?_
  refine AllReady.cons rfl (fun K hK => ?_) AllReady.nil
  go_simp
  go_wp2_with (go_at_call 61; (with_reducible refine Hgr.out.mono ?_); rintro e w3 ⟨v, X, rfl, hO, hb3⟩)
  try (refine hK _ _ ?_; clear hK K)
  have h3 := cell_old hb3 h4
  obtain ⟨g2, cap7, rfl, hg2⟩ := hO.outer (by omega)
  obtain ⟨a7, c7, hX7, hc7, own7⟩ := hO.cellOf rfl G hGL
  rw [Hsz.out] at hc7
  have Hb3 := Lib.hid (Hbd.out.trans (hb3.mono Hbd.out.size))
  clear hX7 own7 hO hb3
  refine wpAny_ready (rs := [6]) (by kernel_rfl) (by simp) ?_
  refine AllReady.cons rfl (fun K hK => ?_) AllReady.nil
  go_simp
  try (refine hK _ _ ?_; clear hK K)
  refine wpAny_ready (rs := [7]) (by kernel_rfl) (by simp) ?_
  refine AllReady.cons rfl (fun K hK => ?_) AllReady.nil
  go_simp
  try (refine hK _ _ ?_; clear hK K)
  refine wpAny_ready (rs := [8]) (by kernel_rfl) (by simp) ?_
  refine AllReady.cons rfl (fun K hK => ?_) AllReady.nil
  go_simp
  try (refine hK _ _ ?_; clear hK K)
  refine wpAny_ready (rs := [9]) (by kernel_rfl) (by simp) ?_
  refine AllReady.cons rfl (fun K hK => ?_) AllReady.nil
  go_simp
  try (refine hK _ _ ?_; clear hK K)
  refine wpAny_done (by kernel_rfl) ?_ _
  go_wp2_with fail
  go_ret
  exact ⟨rfl, Hb3.out⟩

end Go.Proofs.Ytcedacneagpjcaa
