/- The sizes of groups: the program. -/
import Derived.Test.YtcedacneagpjcaaSrt
namespace Go.Proofs.Ytcedacneagpjcaa
open Go.ChangeShapes Go.WideShapes Go.ChangeAt Go.RowKit
set_option linter.unusedVariables false


set_option maxHeartbeats 1600000 in
set_option maxRecDepth 20000 in
theorem sizesOf_any (ao : Option Addr) (cap : Nat) (l : List Int) (n : Nat) (w : World) (Hn : Hid (n = l.length)) (Hg : Hid (grB l = true)) (hc : NumsAt w ao l) :
    Calls Try.prog 50 #[.slice ao n cap] w fun e w' => ∃ v, e = .returned v ∧ w'.ownsRow w.heap.size 3 1 v (gl l n).length (ns (szS (gl l n))) ∧ Below w.heap.size w w' := by
  obtain ⟨i3, hi3, hz30, hz31, hz32⟩ := info_parts info3
  have HC := groupsOf_any ao cap l n w Hn Hg hc
  have hs := gl_some Hg.out
  rw [← Hn.out] at hs
  obtain ⟨L, hL⟩ : ∃ L, gl l n = L := ⟨_, rfl⟩
  rw [hL] at HC hs ⊢
  obtain ⟨N, hN⟩ : ∃ N, N = L.length := ⟨_, rfl⟩
  have HN := Lib.hid hN
  have hN0 : 0 < N := by omega
  have hN12 : N ≤ 12 := by omega
  have HCC := Lib.hid HC
  clear HC hs hN hL hc
  go_enter Try.func50, Try.ntmps50
  go_wp2_with fail
  refine HCC.out.mono ?_
  rintro e w1 ⟨vC, XC, rfl, hOC, hb1⟩
  obtain ⟨g0, cap0, rfl, hg0⟩ := hOC.outer (by rw [← HN.out]; exact hN0)
  rw [← HN.out] at hOC ⊢
  have hs1 := hb1.size
  have HI := Lib.hid hOC
  have Hb1 := Lib.hid hb1
  clear hOC hb1 HCC
  go_wp2_with fail
  go_loopw [3, 9] (fun v i wr => ∃ K : Nat, K ≤ N ∧ i = .int .i64 K ∧ wr.ownsRow w1.heap.size 3 1 v K (ns (szL L K)) ∧ Below w1.heap.size w1 wr) (fun _ i _ => N - (intOf i).toNat)
  case atStart => exact ⟨0, Nat.zero_le _, rfl, World.ownsRow_nil _ _ _ _, Below.refl _ _⟩
  case round =>
    obtain ⟨K, hK, rfl, hor, hbel⟩ := hrel
    have hKL : K ≤ L.length := by rw [← HN.out]; exact hK
    obtain ⟨ao3, cap3, rfl, _⟩ := nums_shape hor (szL_length L K hKL).symm
    by_cases hlt : K < N
    · have hKl : K < L.length := by rw [← HN.out]; exact hlt
      obtain ⟨a1, c1, hx1, hc0, own1⟩ := HI.out.cellOf HN.out K hKl
      have hc1 := cell_old hbel hc0
      have hsu := szL_succ L K hKl
      obtain ⟨C, hC⟩ : ∃ C, (row L K).length = C := ⟨_, rfl⟩
      rw [hC] at hc1 hsu
      have Hsu := Lib.hid hsu
      have hsz := hbel.size
      have bd : Below wr.heap.size wr (wr.alloc (.cells #[.int .i64 (C : Int)] 3)) := (Below.refl wr.heap.size wr).alloc (Nat.le_refl _) _
      have Hrow := Lib.hid (own_later hor bd)
      have Hb7 := Lib.hid (hbel.trans (bd.mono hsz))
      have hszW : (wr.alloc (.cells #[.int .i64 (C : Int)] 3)).heap.size = wr.heap.size + 1 := by simp
      have hck : (wr.alloc (.cells #[.int .i64 (C : Int)] 3)).cell? ⟨wr.heap.size, 0, none⟩ = some (.int .i64 (C : Int)) := by rw [cell_of_row _ _ _ _ _ _ (heap_alloc_new wr _)]; rfl
      have Hck := Lib.hid hck
      clear hor hbel bd hck hsu hx1 hc0 own1 hC hKl hKL
      go_wp2_with (at_builtin; refine push_num _ rfl _ _ 22 rfl w1.heap.size i3 Try.underlying22 hi3 hz30 hz31 hz32 (.slice ao3 K cap3) _ K rfl Hrow.out (by omega) (C : Int) 1 wr.heap.size rfl Hck.out (by rw [hszW]; omega) ?_)
      intro g9 cap9 w9 own9 hgr9 hat9
      rw [← Hsu.out] at own9
      have HA9 := Lib.hid own9
      have Hb9 := Lib.hid (Hb7.out.grown hgr9 (by rw [hszW]; omega) (fun bb hb => (Hrow.out.lt bb hb).1))
      clear own9 hgr9 hat9 Hrow Hb7 Hck
      go_wp2_with fail
      go_roundw
      case rel => exact ⟨K + 1, by omega, by go_num, HA9.out, Hb9.out⟩
      case measure => simp [intOf]; omega
    · obtain rfl : K = N := by omega
      have hlen : K = (szL L K).length := (szL_length L K hKL).symm
      have hszS : szS L = srtD (szL L K) := by unfold szS; rw [← HN.out]
      have HszS := Lib.hid hszS
      have HSo := Lib.hid (sort_any w1.heap.size _ (szL L K) K wr hlen (by omega) hor)
      have Hlt := Lib.hid (fun bb hb => (hor.lt bb hb).1)
      have hsz := hbel.size
      have Hbel := Lib.hid hbel
      clear hor hbel hlen hszS
      go_wp2_with fail
      refine HSo.out.mono ?_
      rintro e w5 ⟨rfl, own5, hgr5⟩
      have Hb5 := Lib.hid (Hb1.out.trans ((Hbel.out.grown hgr5 hsz Hlt.out).mono hs1))
      rw [← HszS.out] at own5
      have Ho5 := Lib.hid (own_base hs1 own5)
      clear own5 hgr5 HSo
      go_wp2_with fail
      go_ret
      exact ⟨_, rfl, by rw [← HN.out]; exact Ho5.out, Hb5.out⟩

end Go.Proofs.Ytcedacneagpjcaa
