/- The sizes of groups: the model. -/
import Derived.Test.YtcedacneagpjcaaSrt
namespace Go.Proofs.Ytcedacneagpjcaa
open Go.ChangeShapes Go.WideShapes Go.ChangeAt Go.RowKit
set_option linter.unusedVariables false
theorem l1Own_at (g cap k : Nat) (l : List Int) (w : World) (Hn : Hid (k = l.length)) (hk : k ≤ 1000) (Hnews : Hid (∀ j u, (ns l)[j]? = some u → w.cell? ((⟨g, 0, none⟩ : Addr).add j) = some u)) :
    Calls Try.prog 62 #[.slice (some ⟨g, 0, none⟩) k cap] w fun e w' => ∃ v', e = .returned v' ∧ w'.ownsRow w.heap.size 3 1 v' k (ns l) ∧ Below w.heap.size w w' := by
  obtain ⟨i0, hi, hz0, hz1, hz2⟩ := info_parts info3
  have hown0 : (w.alloc (.cells #[] 3)).ownsRow w.heap.size 3 1 (.slice (some ⟨w.heap.size, 0, none⟩) 0 0) 0 [] := World.ownsRow_lit w #[] 0 (Nat.le_refl _) (by unfold maxLen; omega) rfl
  have Hown0 := Lib.hid hown0
  have Hbw : Hid (∀ j u, (ns l)[j]? = some u → (w.alloc (.cells #[] 3)).cell? ((⟨g, 0, none⟩ : Addr).add j) = some u) := Lib.hid (fun j u hu => by
    have hc := Hnews.out j u hu
    rw [show (⟨g, 0, none⟩ : Addr).add j = ⟨g, j, none⟩ by unfold Addr.add; split <;> simp_all] at hc ⊢
    rw [World.cell?_of_block (w := w) (Below.heap_alloc w _ _ (World.block_lt_of_cell? w _ hc)), hc])
  clear hown0
  go_enter Try.func62, Try.ntmps62
  go_wp2_with (at_builtin; refine wpList_append_own _ rfl _ _ 22 rfl w.heap.size 3 i0 (.int .i64 0) 1 8 Try.underlying22 hi hz0 hz1 hz2 rfl (by decide) _ _ _ rfl Hown0.out ⟨g, 0, none⟩ k cap (ns l) rfl ?c0 ?c1 ?c2 ?c3 ?c4 ?c5 ?_)
  case c0 => rw [ns_length, Nat.mul_one, ← Hn.out]
  case c1 => exact Hbw.out
  case c2 => exact ns_one _
  case c3 => unfold maxLen; omega
  case c4 => omega
  case c5 => simp
  intro v' w1 hown' hgr hnil
  have hown2 : w1.ownsRow w.heap.size 3 1 v' k (ns l) := by simpa using hown'
  have Hown := Lib.hid hown2
  have Hbel := Lib.hid (((Below.refl w.heap.size w).alloc (Nat.le_refl _) (.cells #[] 3)).grown hgr (by simp) (fun b hb => (Hown0.out.lt b hb).1))
  clear hown' hgr hnil hown2
  go_wp2_with fail
  go_ret
  exact ⟨_, rfl, Hown.out, Hbel.out⟩

set_option maxHeartbeats 1600000 in
set_option maxRecDepth 20000 in
theorem cbSizes_any (ao : Option Addr) (cap : Nat) (l : List Int) (n : Nat) (w : World) (Hn : Hid (n = l.length)) (Hg : Hid (grB l = true)) (hc : NumsAt w ao l) :
    Calls Try.prog 45 #[.slice ao n cap] w fun e w' => ∃ v, e = .returned v ∧ w'.ownsRow w.heap.size 3 1 v (gl l n).length (ns (szS (gl l n))) ∧ Below w.heap.size w w' := by
  obtain ⟨i3, hi3, hz30, hz31, hz32⟩ := info_parts info3
  have HC := cbGroups_any ao cap l n w Hn Hg hc
  have hs := gl_some Hg.out
  rw [← Hn.out] at hs
  obtain ⟨L, hL⟩ : ∃ L, gl l n = L := ⟨_, rfl⟩
  rw [hL] at HC hs ⊢
  obtain ⟨N, hN⟩ : ∃ N, N = L.length := ⟨_, rfl⟩
  have HN := Lib.hid hN
  have hN0 : 0 < N := by omega
  have hN12 : N ≤ 12 := by omega
  have HCC := Lib.hid HC
  clear HC hs hN hL hc
  go_enter Try.func45, Try.ntmps45
  go_wp2_with fail
  refine HCC.out.mono ?_
  rintro e w1 ⟨vC, XC, rfl, hOC, hb1⟩
  obtain ⟨g0, cap0, rfl, hg0⟩ := hOC.outer (by rw [← HN.out]; exact hN0)
  rw [← HN.out] at hOC ⊢
  have hs1 := hb1.size
  have HI := Lib.hid hOC
  have Hb1 := Lib.hid hb1
  clear hOC hb1 HCC
  go_wp2_with fail
  go_loopw [3, 11] (fun v i wr => ∃ K : Nat, K ≤ N ∧ i = .int .i64 K ∧ wr.ownsRow w1.heap.size 3 1 v K (ns (srtD (szL L K))) ∧ (K = 0 → v = .slice none 0 0) ∧ Below w1.heap.size w1 wr) (fun _ i _ => N - (intOf i).toNat)
  case atStart => exact ⟨0, Nat.zero_le _, rfl, by rw [szL_zero, srtD_nil]; exact World.ownsRow_nil _ _ _ _, fun _ => rfl, Below.refl _ _⟩
  case round =>
    obtain ⟨K, hK, rfl, hor, hv0, hbel⟩ := hrel
    have hKL : K ≤ L.length := by rw [← HN.out]; exact hK
    obtain ⟨wa, hwa⟩ : ∃ q, q = wr := ⟨_, rfl⟩
    subst hwa
    by_cases hlt : K < N
    · have hKl : K < L.length := by rw [← HN.out]; exact hlt
      obtain ⟨a1, c1, hx1, hc0, own1⟩ := HI.out.cellOf HN.out K hKl
      have hc1 := cell_old hbel hc0
      have hnext := sz_next L K hKl
      obtain ⟨C, hC⟩ : ∃ C, (row L K).length = C := ⟨_, rfl⟩
      rw [hC] at hc1 hnext
      have hSl : K = (srtD (szL L K)).length := by rw [srtD_length, szL_length L K hKL]
      obtain ⟨S, hS⟩ : ∃ S, srtD (szL L K) = S := ⟨_, rfl⟩
      rw [hS] at hor hnext hSl
      have HS := Lib.hid hSl
      have Hnext := Lib.hid hnext
      have Hbel := Lib.hid hbel
      clear hx1 hc0 own1 hC hKl hKL hS hnext hSl hbel
      by_cases hK0 : K = 0
      · subst hK0
        have hv := hv0 rfl
        subst hv
        have hSn : S = [] := List.eq_nil_of_length_eq_zero HS.out.symm
        have hne := Hnext.out 0 rfl
        rw [hSn] at hne
        have Hne := Lib.hid hne
        have HOw := Lib.hid (l1Own_nil wa)
        clear hor hv0 hne hSn
        go_wp2_with fail
        go_loopw [6] (fun i wr => i = .int .i64 0 ∧ wa = wr) (fun _ _ => 0)
        case atStart => exact ⟨rfl, rfl⟩
        case round =>
         obtain ⟨rfl, hw0⟩ := hrel
         subst hw0
         go_wp2_with fail
         refine HOw.out.mono ?_
         rintro e w3 ⟨v3, rfl, own3, hb3⟩
         obtain ⟨ao3, cap3, rfl, _⟩ := nums_shape own3 rfl
         have hs3 := hb3.size
         have bd : Below w3.heap.size w3 (w3.alloc (.cells #[.int .i64 (C : Int)] 3)) := (Below.refl w3.heap.size w3).alloc (Nat.le_refl _) _
         have Hrow := Lib.hid (own_later own3 bd)
         have Hb7 := Lib.hid (hb3.trans (bd.mono hs3))
         have hszW : (w3.alloc (.cells #[.int .i64 (C : Int)] 3)).heap.size = w3.heap.size + 1 := by simp
         have hck : (w3.alloc (.cells #[.int .i64 (C : Int)] 3)).cell? ⟨w3.heap.size, 0, none⟩ = some (.int .i64 (C : Int)) := by rw [cell_of_row _ _ _ _ _ _ (heap_alloc_new w3 _)]; rfl
         have Hck := Lib.hid hck
         clear own3 hb3 bd hck HOw
         go_wp2_with (at_builtin; refine push_num _ rfl _ _ 22 rfl wa.heap.size i3 Try.underlying22 hi3 hz30 hz31 hz32 (.slice ao3 0 cap3) _ 0 rfl Hrow.out (by omega) (C : Int) 1 w3.heap.size rfl Hck.out (by rw [hszW]; omega) ?_)
         intro g9 cap9 w9 own9 hgr9 hat9
         have HA9 := Lib.hid own9
         have Hb9 := Lib.hid (Hb7.out.grown hgr9 (by rw [hszW]; omega) (fun bb hb => (Hrow.out.lt bb hb).1))
         clear own9 hgr9 hat9 Hrow Hb7 Hck
         go_wp2_with (at_builtin; refine wpList_append_own_none rfl _ _ 22 rfl wa.heap.size 3 i3 1 Try.underlying22 hi3 _ _ _ rfl HA9.out rfl ?_)
         have own5 := HA9.out
         have e5 : ([(C : Int)] : List Int) = srtD (szL L 1) := by rw [show (1 : Nat) = 0 + 1 from rfl, ← Hne.out]; simp
         rw [e5] at own5
         have HA5 := Lib.hid (own_base (by have := Hbel.out.size; omega) own5)
         have Hb5 := Lib.hid (Hbel.out.trans (Hb9.out.mono Hbel.out.size))
         exact ⟨⟨1, by omega, rfl, HA5.out, fun h => absurd h (by omega), Hb5.out⟩, by show N - 1 < N - 0; omega⟩
      · obtain ⟨g, cap1, rfl, hg⟩ := own_pos hor (by omega)
        clear hv0
        have hs2 := Hbel.out.size
        go_wp2_with fail
        go_loopw [6] (fun i wr => ∃ j : Nat, j ≤ K ∧ i = .int .i64 j ∧ Hid (posD S (C : Int) K = posD S (C : Int) j) ∧ wa = wr) (fun i _ => (intOf i).toNat)
        case atStart => exact ⟨K, Nat.le_refl _, rfl, rfl, rfl⟩
        case round =>
          obtain ⟨j, hj, rfl, Hpos0, hw0⟩ := hrel
          subst hw0
          by_cases hj0 : j = 0
          · have hgt : decide ((0 : Int) < (j : Int)) = false := by simp; omega
            have hgtN : decide (0 < j) = false := by simp; omega
            have hgt2 : ¬ ((j : Int) > 0) := by omega
            have Hpos : Hid (posD S (C : Int) K = j) := by show _ = _; rw [Hpos0.out, hj0]; rfl
            clear Hpos0 hj0
            have hcapK := own_capS hor
            have Hout := Lib.hid hor
            have hp0 : (0 : Int) ≤ (j : Int) := by omega
            have hp1 : (j : Int) ≤ (K : Int) := by omega
            have hp2 : (K : Int) ≤ (cap1 : Int) := by omega
            have hp3 : (j : Int) ≤ (cap1 : Int) := by omega
            have hjc : j ≤ cap1 := by omega
            have Hne := Lib.hid (Hnext.out j Hpos.out)
            have HT := Lib.hid (own_newsT hor HS.out j)
            have Htk : Hid (j = (S.take j).length) := by show _ = _; rw [List.length_take, ← HS.out]; omega
            have HOw := Lib.hid (l1Own_at g cap1 j (S.take j) wa Htk (by omega) HT)
            clear hor
            go_wp2_with fail
            refine HOw.out.mono ?_
            rintro e w3 ⟨v3, rfl, own3, hb3⟩
            obtain ⟨ao3, cap3, rfl, _⟩ := nums_shape own3 Htk.out
            have hs3 := hb3.size
            have bd : Below w3.heap.size w3 (w3.alloc (.cells #[.int .i64 (C : Int)] 3)) := (Below.refl w3.heap.size w3).alloc (Nat.le_refl _) _
            have Hrow := Lib.hid (own_later own3 bd)
            have Hb7 := Lib.hid (hb3.trans (bd.mono hs3))
            have hszW : (w3.alloc (.cells #[.int .i64 (C : Int)] 3)).heap.size = w3.heap.size + 1 := by simp
            have hck : (w3.alloc (.cells #[.int .i64 (C : Int)] 3)).cell? ⟨w3.heap.size, 0, none⟩ = some (.int .i64 (C : Int)) := by rw [cell_of_row _ _ _ _ _ _ (heap_alloc_new w3 _)]; rfl
            have Hck := Lib.hid hck
            clear own3 hb3 bd hck HOw HT
            go_wp2_with (at_builtin; refine push_num _ rfl _ _ 22 rfl wa.heap.size i3 Try.underlying22 hi3 hz30 hz31 hz32 (.slice ao3 j cap3) _ j rfl Hrow.out (by omega) (C : Int) 1 w3.heap.size rfl Hck.out (by rw [hszW]; omega) ?_)
            intro g9 cap9 w9 own9 hgr9 hat9
            have HA9 := Lib.hid own9
            have hb9 := Hb7.out.grown hgr9 (by rw [hszW]; omega) (fun bb hb => (Hrow.out.lt bb hb).1)
            have hs9 := hb9.size
            have hout9 := own_later Hout.out hb9
            obtain ⟨off2, hif, hnd⟩ := own_newsD hout9 HS.out j (by omega)
            have Hif := Lib.hid hif
            have Hnd := Lib.hid hnd
            have Hb9 := Lib.hid hb9
            clear own9 hgr9 hat9 Hrow Hb7 Hck hout9 hif hnd hb9
            by_cases hcj : cap1 = j
            · have hcj2 : j = cap1 := hcj.symm
              subst hcj2
              have Hnd : Hid (∀ i u, (ns (S.drop j))[i]? = some u → w9.cell? ((⟨g, 0, none⟩ : Addr).add i) = some u) := by
                have h1 := Hif.out
                rw [if_pos rfl] at h1
                simp only [Option.some.injEq, Addr.mk.injEq, and_true, true_and] at h1
                have h2 := Hnd.out
                rw [← h1] at h2
                exact h2
              clear hcj Hif
              go_wp2_with (at_builtin; refine wpList_append_own _ rfl _ _ 22 rfl wa.heap.size 3 i3 (.int .i64 0) 1 8 Try.underlying22 hi3 hz30 hz31 hz32 rfl (by decide) (.slice (some ⟨g9, 0, none⟩) (j + 1) cap9) (j + 1) _ rfl HA9.out ⟨g, 0, none⟩ _ _ (ns (S.drop j)) rfl ?c0 ?c1 (ns_one _) ?c3 ?c4 ?c5 ?_)
              case c0 => rw [ns_length, List.length_drop, ← HS.out]; omega
              case c1 => exact Hnd.out
              case c3 => unfold maxLen; omega
              case c4 => omega
              case c5 => omega
              intro v5 w5 own5 hgr5 hnil5
              have own5 : w5.ownsRow wa.heap.size 3 1 v5 (K + 1) (ns (S.take j ++ [(C : Int)]) ++ ns (S.drop j)) := by
                first | (have e : j + 1 + (K - j) = K + 1 := (by omega); rw [← e]; exact own5) | (have e : j + 1 = K + 1 := (by omega); rw [← e]; exact own5)
              rw [← ns_append, Hne.out] at own5
              have HA5 := Lib.hid (own_base (by omega) own5)
              have Hb5 := Lib.hid (Hbel.out.trans ((Hb9.out.grown hgr5 hs9 (fun bb hb => (HA9.out.lt bb hb).1)).mono Hbel.out.size))
              clear own5 hgr5 hnil5 HA9 Hb9
              go_wp2_with fail
              go_roundw
              case rel => exact ⟨K + 1, by omega, by go_num, HA5.out, fun h => absurd h (by omega), Hb5.out⟩
              case measure => simp [intOf]; omega
            · have Hnd : Hid (∀ i u, (ns (S.drop j))[i]? = some u → w9.cell? ((⟨g, j, none⟩ : Addr).add i) = some u) := by
                have h1 := Hif.out
                rw [if_neg hcj] at h1
                simp only [Option.some.injEq, Addr.mk.injEq, and_true, true_and] at h1
                have h2 := Hnd.out
                rw [← h1] at h2
                exact h2
              clear Hif
              go_wp2_with (at_builtin; refine wpList_append_own _ rfl _ _ 22 rfl wa.heap.size 3 i3 (.int .i64 0) 1 8 Try.underlying22 hi3 hz30 hz31 hz32 rfl (by decide) (.slice (some ⟨g9, 0, none⟩) (j + 1) cap9) (j + 1) _ rfl HA9.out ⟨g, j, none⟩ _ _ (ns (S.drop j)) rfl ?c0 ?c1 (ns_one _) ?c3 ?c4 ?c5 ?_)
              case c0 => rw [ns_length, List.length_drop, ← HS.out]; omega
              case c1 => exact Hnd.out
              case c3 => unfold maxLen; omega
              case c4 => omega
              case c5 => omega
              intro v5 w5 own5 hgr5 hnil5
              have own5 : w5.ownsRow wa.heap.size 3 1 v5 (K + 1) (ns (S.take j ++ [(C : Int)]) ++ ns (S.drop j)) := by
                first | (have e : j + 1 + (K - j) = K + 1 := (by omega); rw [← e]; exact own5) | (have e : j + 1 = K + 1 := (by omega); rw [← e]; exact own5)
              rw [← ns_append, Hne.out] at own5
              have HA5 := Lib.hid (own_base (by omega) own5)
              have Hb5 := Lib.hid (Hbel.out.trans ((Hb9.out.grown hgr5 hs9 (fun bb hb => (HA9.out.lt bb hb).1)).mono Hbel.out.size))
              clear own5 hgr5 hnil5 HA9 Hb9
              go_wp2_with fail
              go_roundw
              case rel => exact ⟨K + 1, by omega, by go_num, HA5.out, fun h => absurd h (by omega), Hb5.out⟩
              case measure => simp [intOf]; omega
          · obtain ⟨q, hjq⟩ : ∃ q, j = q + 1 := ⟨j - 1, by omega⟩
            have hcq := own_num hor HS.out q (by omega)
            have hgt2 : ((j : Int) > 0) := by omega
            have hgt : decide ((0 : Int) < (j : Int)) = true := decide_eq_true (by omega)
            have hgtN : decide (0 < j) = true := decide_eq_true (by omega)
            have hjm : (j : Int) - 1 = (q : Int) := by omega
            have hjw : IntKind.i64.wrap ((j : Int) - 1) = (q : Int) := by rw [hjm]; exact IntWalk.i64_in _ (by omega)
            have hq0 : (0 : Int) ≤ (q : Int) := by omega
            have hqK : (q : Int) < (K : Int) := by omega
            have hp : posD S (C : Int) j = if na S q < (C : Int) then posD S (C : Int) q else j := by rw [hjq, posD]
            have Hjq := Lib.hid hjq
            clear hjq hj0
            by_cases hl : na S q < (C : Int)
            · have hdl : decide (na S q < (C : Int)) = true := decide_eq_true hl
              have Hp2 : Hid (posD S (C : Int) K = posD S (C : Int) q) := by show _ = _; rw [Hpos0.out, hp, if_pos hl]
              have Hor := Lib.hid hor
              clear hor Hpos0 hp
              go_wp2_with fail
              go_roundw
              case rel => exact ⟨q, by omega, by go_num, Hp2, by trivial⟩
              case measure => have := Hjq.out; simp [intOf] <;> omega
            · have hdl : decide (na S q < (C : Int)) = false := decide_eq_false hl
              have Hpos : Hid (posD S (C : Int) K = j) := by show _ = _; rw [Hpos0.out, hp, if_neg hl]
              clear Hpos0 hp
              have hcapK := own_capS hor
              have Hout := Lib.hid hor
              have hp0 : (0 : Int) ≤ (j : Int) := by omega
              have hp1 : (j : Int) ≤ (K : Int) := by omega
              have hp2 : (K : Int) ≤ (cap1 : Int) := by omega
              have hp3 : (j : Int) ≤ (cap1 : Int) := by omega
              have hjc : j ≤ cap1 := by omega
              have Hne := Lib.hid (Hnext.out j Hpos.out)
              have HT := Lib.hid (own_newsT hor HS.out j)
              have Htk : Hid (j = (S.take j).length) := by show _ = _; rw [List.length_take, ← HS.out]; omega
              have HOw := Lib.hid (l1Own_at g cap1 j (S.take j) wa Htk (by omega) HT)
              clear hor
              go_wp2_with fail
              refine HOw.out.mono ?_
              rintro e w3 ⟨v3, rfl, own3, hb3⟩
              obtain ⟨ao3, cap3, rfl, _⟩ := nums_shape own3 Htk.out
              have hs3 := hb3.size
              have bd : Below w3.heap.size w3 (w3.alloc (.cells #[.int .i64 (C : Int)] 3)) := (Below.refl w3.heap.size w3).alloc (Nat.le_refl _) _
              have Hrow := Lib.hid (own_later own3 bd)
              have Hb7 := Lib.hid (hb3.trans (bd.mono hs3))
              have hszW : (w3.alloc (.cells #[.int .i64 (C : Int)] 3)).heap.size = w3.heap.size + 1 := by simp
              have hck : (w3.alloc (.cells #[.int .i64 (C : Int)] 3)).cell? ⟨w3.heap.size, 0, none⟩ = some (.int .i64 (C : Int)) := by rw [cell_of_row _ _ _ _ _ _ (heap_alloc_new w3 _)]; rfl
              have Hck := Lib.hid hck
              clear own3 hb3 bd hck HOw HT
              go_wp2_with (at_builtin; refine push_num _ rfl _ _ 22 rfl wa.heap.size i3 Try.underlying22 hi3 hz30 hz31 hz32 (.slice ao3 j cap3) _ j rfl Hrow.out (by omega) (C : Int) 1 w3.heap.size rfl Hck.out (by rw [hszW]; omega) ?_)
              intro g9 cap9 w9 own9 hgr9 hat9
              have HA9 := Lib.hid own9
              have hb9 := Hb7.out.grown hgr9 (by rw [hszW]; omega) (fun bb hb => (Hrow.out.lt bb hb).1)
              have hs9 := hb9.size
              have hout9 := own_later Hout.out hb9
              obtain ⟨off2, hif, hnd⟩ := own_newsD hout9 HS.out j (by omega)
              have Hif := Lib.hid hif
              have Hnd := Lib.hid hnd
              have Hb9 := Lib.hid hb9
              clear own9 hgr9 hat9 Hrow Hb7 Hck hout9 hif hnd hb9
              by_cases hcj : cap1 = j
              · have hcj2 : j = cap1 := hcj.symm
                subst hcj2
                have Hnd : Hid (∀ i u, (ns (S.drop j))[i]? = some u → w9.cell? ((⟨g, 0, none⟩ : Addr).add i) = some u) := by
                  have h1 := Hif.out
                  rw [if_pos rfl] at h1
                  simp only [Option.some.injEq, Addr.mk.injEq, and_true, true_and] at h1
                  have h2 := Hnd.out
                  rw [← h1] at h2
                  exact h2
                clear hcj Hif
                go_wp2_with (at_builtin; refine wpList_append_own _ rfl _ _ 22 rfl wa.heap.size 3 i3 (.int .i64 0) 1 8 Try.underlying22 hi3 hz30 hz31 hz32 rfl (by decide) (.slice (some ⟨g9, 0, none⟩) (j + 1) cap9) (j + 1) _ rfl HA9.out ⟨g, 0, none⟩ _ _ (ns (S.drop j)) rfl ?c0 ?c1 (ns_one _) ?c3 ?c4 ?c5 ?_)
                case c0 => rw [ns_length, List.length_drop, ← HS.out]; omega
                case c1 => exact Hnd.out
                case c3 => unfold maxLen; omega
                case c4 => omega
                case c5 => omega
                intro v5 w5 own5 hgr5 hnil5
                have own5 : w5.ownsRow wa.heap.size 3 1 v5 (K + 1) (ns (S.take j ++ [(C : Int)]) ++ ns (S.drop j)) := by
                  first | (have e : j + 1 + (K - j) = K + 1 := (by omega); rw [← e]; exact own5) | (have e : j + 1 = K + 1 := (by omega); rw [← e]; exact own5)
                rw [← ns_append, Hne.out] at own5
                have HA5 := Lib.hid (own_base (by omega) own5)
                have Hb5 := Lib.hid (Hbel.out.trans ((Hb9.out.grown hgr5 hs9 (fun bb hb => (HA9.out.lt bb hb).1)).mono Hbel.out.size))
                clear own5 hgr5 hnil5 HA9 Hb9
                go_wp2_with fail
                go_roundw
                case rel => exact ⟨K + 1, by omega, by go_num, HA5.out, fun h => absurd h (by omega), Hb5.out⟩
                case measure => simp [intOf]; omega
              · have Hnd : Hid (∀ i u, (ns (S.drop j))[i]? = some u → w9.cell? ((⟨g, j, none⟩ : Addr).add i) = some u) := by
                  have h1 := Hif.out
                  rw [if_neg hcj] at h1
                  simp only [Option.some.injEq, Addr.mk.injEq, and_true, true_and] at h1
                  have h2 := Hnd.out
                  rw [← h1] at h2
                  exact h2
                clear Hif
                go_wp2_with (at_builtin; refine wpList_append_own _ rfl _ _ 22 rfl wa.heap.size 3 i3 (.int .i64 0) 1 8 Try.underlying22 hi3 hz30 hz31 hz32 rfl (by decide) (.slice (some ⟨g9, 0, none⟩) (j + 1) cap9) (j + 1) _ rfl HA9.out ⟨g, j, none⟩ _ _ (ns (S.drop j)) rfl ?c0 ?c1 (ns_one _) ?c3 ?c4 ?c5 ?_)
                case c0 => rw [ns_length, List.length_drop, ← HS.out]; omega
                case c1 => exact Hnd.out
                case c3 => unfold maxLen; omega
                case c4 => omega
                case c5 => omega
                intro v5 w5 own5 hgr5 hnil5
                have own5 : w5.ownsRow wa.heap.size 3 1 v5 (K + 1) (ns (S.take j ++ [(C : Int)]) ++ ns (S.drop j)) := by
                  first | (have e : j + 1 + (K - j) = K + 1 := (by omega); rw [← e]; exact own5) | (have e : j + 1 = K + 1 := (by omega); rw [← e]; exact own5)
                rw [← ns_append, Hne.out] at own5
                have HA5 := Lib.hid (own_base (by omega) own5)
                have Hb5 := Lib.hid (Hbel.out.trans ((Hb9.out.grown hgr5 hs9 (fun bb hb => (HA9.out.lt bb hb).1)).mono Hbel.out.size))
                clear own5 hgr5 hnil5 HA9 Hb9
                go_wp2_with fail
                go_roundw
                case rel => exact ⟨K + 1, by omega, by go_num, HA5.out, fun h => absurd h (by omega), Hb5.out⟩
                case measure => simp [intOf]; omega
    · obtain rfl : K = N := by omega
      obtain ⟨ao3, cap3, rfl, _⟩ := nums_shape hor (by rw [srtD_length, szL_length L K hKL])
      have hszS : szS L = srtD (szL L K) := by unfold szS; rw [← HN.out]
      rw [← hszS] at hor
      have Ho5 := Lib.hid (own_base hs1 hor)
      have Hb5 := Lib.hid (Hb1.out.trans (hbel.mono hs1))
      clear hor hbel hszS
      go_wp2_with fail
      go_ret
      exact ⟨_, rfl, by rw [← HN.out]; exact Ho5.out, Hb5.out⟩

end Go.Proofs.Ytcedacneagpjcaa
