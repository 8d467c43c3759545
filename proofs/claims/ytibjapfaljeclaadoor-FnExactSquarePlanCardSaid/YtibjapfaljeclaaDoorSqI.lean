/- The squares: the program. -/
import Derived.Test.YtibjapfaljeclaaDoorSqL
namespace Go.Proofs.YtibjapfaljeclaaDoor
open Go.ChangeShapes Go.WideShapes Go.ChangeAt Go.RowKit
set_option linter.unusedVariables false


set_option maxHeartbeats 8000000 in
set_option maxRecDepth 20000 in
theorem squaresOf_any (ao : Option Addr) (cap : Nat) (l : List (Int × Int)) (n : Nat) (M : Int) (w : World) (Hn : Hid (n = l.length)) (hs : n ≤ 1048576) (Hg : Hid (twoB l)) (HA : Hid (CallsAt w ao l)) (hM : 1 ≤ M)
    (T : List (List Int)) (HT : Hid (wP (lkT l l.length) 10 = T ∧ T.length ≤ 10000)) :
    Calls Tryd.prog 45 #[.slice ao n cap, .int .i64 M] w fun e w' => ∃ v, e = .returned v ∧ w'.ownsRow w.heap.size 51 4 v (T.take M.toNat).length (ns (T.take M.toNat).flatten) ∧ Below w.heap.size w w' := by
  obtain ⟨i0, hi, iz0, iz1, iz2⟩ := info_parts info51
  go_enter Tryd.func45, Tryd.ntmps45
  go_wp2_with fail
  go_step3
  go_wp2_with fail
  refine (linksOf_any ao cap l n w Hn hs Hg HA).mono ?_
  rintro e w2 ⟨rfl, hb2⟩
  obtain ⟨S, hS⟩ : ∃ S, lkT l l.length = S := ⟨_, rfl⟩
  rw [hS]
  have HSm : Hid (∀ v, S v < 1024) := Lib.hid (fun v => by rw [← hS]; exact lk_small Hg.out l.length (Nat.le_refl _) v)
  have HTe : Hid (wP S 10 = T ∧ T.length ≤ 10000) := by rw [← hS]; exact HT
  have hs2 := hb2.size
  clear hS HT
  go_wp2_with (refine wpList_store_row rfl 41 (.tmp 6) (.tmp 15) rfl w2.heap.size (LA S) rfl rfl 41 (ZL) (heap_alloc_new w2 _) (by rw [infoL, LA_size]) (by first | rfl | (rw [LA_size, LA_size]) | (rw [LA_size]; rfl)) (LA_one _) ?_)
  obtain ⟨B, hB⟩ : ∃ B, w2.heap.size = B := ⟨_, rfl⟩
  obtain ⟨w4, hw4⟩ : ∃ w4, (w2.alloc (.cells ZL 41)).setRow w2.heap.size (LA S) = w4 := ⟨_, rfl⟩
  have HK4 : Hid (w4.heap[B]? = some (.cells (LA S) 41 (0, 0))) := Lib.hid (by rw [← hw4, ← hB]; exact setRow_heap _ _ _ _ _ _ (heap_alloc_new w2 _))
  have Hb4 : Hid (Below w.heap.size w w4) := Lib.hid (by rw [← hw4]; exact below_setRow (hb2.alloc hs2 _) (by omega) _)
  have hBw : w.heap.size ≤ B := by omega
  try simp only [Act.put]
  try rw [← ZL_eq]
  try rw [hw4]
  try rw [hB]
  clear hw4 hb2 hB
  go_step3
  go_wp2_with fail
  go_loopw [5, 16] (fun v i wr => ∃ (a N : Nat) (G : Option Addr) (C : Nat), a ≤ 10 ∧ i = .int .i64 a ∧ v = .slice G N C ∧ Hid (N = (wP S a).length) ∧ Hid (wr.ownsRow (B + 1) 51 4 (.slice G N C) N (ns (wP S a).flatten)) ∧ (N : Int) < M ∧ N ≤ 10000 ∧ Hid (wr.heap[B]? = some (.cells (LA S) 41 (0, 0))) ∧ Below w.heap.size w wr) (fun _ i _ => 10 - (intOf i).toNat)
  case atStart => exact ⟨0, 0, none, 0, Nat.zero_le _, rfl, rfl, Lib.hid rfl, Lib.hid (World.ownsRow_nil _ _ _ _), by omega, Nat.zero_le _, HK4, Hb4.out⟩
  case round =>
    clear HK4 Hb4
    obtain ⟨a, N, G, C, ha, rfl, rfl, HN, Hor, hNM, hN4, HK, hbel⟩ := hrel
    by_cases hla : a < 10
    · have fa := cell_of_row wr B a _ _ _ HK.out
      rw [LA_get _ a hla] at fa
      have hsz := hbel.size
      have hBr : B < wr.heap.size := (Array.getElem?_eq_some_iff.1 HK.out).1
      have hla2 : (a : Int) < 10 := by omega
      have hw1 : wP S (a + 1) = wP S a ++ xP S a := col_yes rfl
      have hpre : wP S a ++ (bl (ab (S a) a) 10).flatMap (fun x => yP S a x.toNat) <+: T := by
        have h : wP S (a + 1) <+: wP S (a + 1 + (9 - a)) := col_pre (fun _ => true) (xP S) (a + 1) (9 - a)
        rw [show a + 1 + (9 - a) = 10 by omega, HTe.out.1, hw1] at h
        exact h
      obtain ⟨L1, f1, hL1, hl1, hf10, hf1n, hat1⟩ := pre_open _ _ hpre
      have HF10 := Lib.hid hf10
      have HF1n : Hid (f1 L1.length = wP S (a + 1)) := Lib.hid (by rw [hw1]; exact hf1n)
      have Hat1 := Lib.hid hat1
      clear hpre hw1 hf10 hf1n hat1
      go_wp2_with fail
      refine (above_any (S a) a wr (HSm.out a) hla).mono ?_
      rintro e w' ⟨rfl, rfl⟩
      go_wp2_with fail
      refine (list_any (ab (S a) a) wr (Nat.lt_of_le_of_lt (ab_le _ _) (HSm.out a))).mono ?_
      rintro e w6 ⟨v1, rfl, own1, hb1⟩
      rw [← bl_length, ← hL1] at own1
      obtain ⟨g1, c1, rfl, _⟩ := nums_shape own1 rfl
      have HK1 : Hid (Kp w6 G g1 L1) := Lib.hid (Kp.new own1 rfl (fun a ha => (Hor.out.lt a.block (by rw [ha]; rfl)).2))
      have Hor1 := Lib.hid (own_later Hor.out hb1)
      have HB1 := Lib.hid ((hb1.block _ hBr).trans HK.out)
      have Hb1 := Lib.hid (hbel.trans (hb1.mono hsz))
      have HN1 : Hid (N = (f1 0).length) := Lib.hid (by rw [HF10.out]; exact HN.out)
      rw [← HF10.out] at Hor1
      clear own1 hb1 hL1 Hor HK HN hbel fa
      go_wp2_with fail
      go_loopw [5, 26] (fun v i wr => ∃ (k N : Nat) (G : Option Addr) (C : Nat), k ≤ L1.length ∧ i = .int .i64 k ∧ v = .slice G N C ∧ Hid (N = (f1 k).length) ∧ Hid (wr.ownsRow (B + 1) 51 4 (.slice G N C) N (ns (f1 k).flatten)) ∧ (N : Int) < M ∧ N ≤ 10000 ∧ Hid (wr.heap[B]? = some (.cells (LA S) 41 (0, 0))) ∧ Hid (Kp wr G g1 L1) ∧ Below w.heap.size w wr) (fun _ i _ => L1.length - (intOf i).toNat)
      case atStart => exact ⟨0, N, G, C, Nat.zero_le _, rfl, rfl, HN1, Hor1, hNM, hN4, HB1, HK1, Hb1.out⟩
      case round =>
        clear HN1 Hor1 hNM hN4 HB1 HK1 Hb1
        obtain ⟨k, N, G, C, hk, rfl, rfl, HN, Hor, hNM, hN4, HK, HK1, hbel⟩ := hrel
        by_cases hlk : k < L1.length
        · obtain ⟨x, hx, hx10, hst1, hpre2⟩ := Hat1.out k hlk
          rcases HK1.out.here with e | ⟨b1, o1, rfl, hc1⟩
          · exact absurd hlk (by rw [e]; simp)
          have h0 := hc1 k hlk
          rw [hx] at h0
          have fx := cell_of_row wr B x _ _ _ HK.out
          rw [LA_get _ x hx10] at fx
          have hsz := hbel.size
          have hBr : B < wr.heap.size := (Array.getElem?_eq_some_iff.1 HK.out).1
          have hlk2 : (k : Int) < (L1.length : Nat) := by omega
          have hx2 : (x : Int) < 10 := by omega
          have hpre3 : f1 k ++ (bl (ab (S x) a) 10).flatMap (fun y => zP S a x y.toNat) <+: T := hpre2
          obtain ⟨L2, f2, hL2, hl2, hf20, hf2n, hat2⟩ := pre_open _ _ hpre3
          have HF20 := Lib.hid hf20
          have HF2n : Hid (f2 L2.length = f1 (k + 1)) := Lib.hid (by rw [hst1]; exact hf2n)
          have Hat2 := Lib.hid hat2
          clear hpre2 hpre3 hf20 hf2n hat2 hst1 hc1 hx
          go_wp2_with fail
          refine (above_any (S x) a wr (HSm.out x) hla).mono ?_
          rintro e w' ⟨rfl, rfl⟩
          go_wp2_with fail
          refine (list_any (ab (S x) a) wr (Nat.lt_of_le_of_lt (ab_le _ _) (HSm.out x))).mono ?_
          rintro e w6 ⟨v2, rfl, own2, hb2⟩
          rw [← bl_length, ← hL2] at own2
          obtain ⟨g2, c2, rfl, _⟩ := nums_shape own2 rfl
          have HK2 : Hid (Kp w6 G g2 L2) := Lib.hid (Kp.new own2 rfl (fun a ha => (Hor.out.lt a.block (by rw [ha]; rfl)).2))
          have HK1' := Lib.hid (HK1.out.below hb2)
          have Hor2 := Lib.hid (own_later Hor.out hb2)
          have HB2 := Lib.hid ((hb2.block _ hBr).trans HK.out)
          have Hb2 := Lib.hid (hbel.trans (hb2.mono hsz))
          have HN2 : Hid (N = (f2 0).length) := Lib.hid (by rw [HF20.out]; exact HN.out)
          rw [← HF20.out] at Hor2
          clear own2 hb2 hL2 Hor HK HN hbel fx HK1 h0
          go_wp2_with fail
          go_loopw [5, 37] (fun v i wr => ∃ (j N : Nat) (G : Option Addr) (C : Nat), j ≤ L2.length ∧ i = .int .i64 j ∧ v = .slice G N C ∧ Hid (N = (f2 j).length) ∧ Hid (wr.ownsRow (B + 1) 51 4 (.slice G N C) N (ns (f2 j).flatten)) ∧ (N : Int) < M ∧ N ≤ 10000 ∧ Hid (wr.heap[B]? = some (.cells (LA S) 41 (0, 0))) ∧ Hid (Kp wr G (some ⟨b1, o1, none⟩) L1) ∧ Hid (Kp wr G g2 L2) ∧ Below w.heap.size w wr) (fun _ i _ => L2.length - (intOf i).toNat)
          case atStart => exact ⟨0, N, G, C, Nat.zero_le _, rfl, rfl, HN2, Hor2, hNM, hN4, HB2, HK1', HK2, Hb2.out⟩
          case round =>
            clear HN2 Hor2 hNM hN4 HB2 HK1' HK2 Hb2
            obtain ⟨j, N, G, C, hj, rfl, rfl, HN, Hor, hNM, hN4, HK, HK1, HK2, hbel⟩ := hrel
            by_cases hlj : j < L2.length
            · obtain ⟨y, hy, hy10, hst2, hpre2⟩ := Hat2.out j hlj
              rcases HK2.out.here with e | ⟨b2, o2, rfl, hc2⟩
              · exact absurd hlj (by rw [e]; simp)
              have h0 := hc2 j hlj
              rw [hy] at h0
              have fa := cell_of_row wr B a _ _ _ HK.out
              rw [LA_get _ a hla] at fa
              have fy := cell_of_row wr B y _ _ _ HK.out
              rw [LA_get _ y hy10] at fy
              have Fa := Lib.hid fa
              have Fy := Lib.hid fy
              have hsz := hbel.size
              have hBr : B < wr.heap.size := (Array.getElem?_eq_some_iff.1 HK.out).1
              have hlj2 : (j : Int) < (L2.length : Nat) := by omega
              have hy2 : (y : Int) < 10 := by omega
              have hand := bits_and_nat (S a) (S y) (HSm.out a) (HSm.out y)
              obtain ⟨q, hq⟩ : ∃ q, S a &&& S y = q := ⟨_, rfl⟩
              have hq1 : q < 1024 := by rw [← hq]; exact and_small (HSm.out a) _
              have hpre3 : f2 j ++ (bl (ab q x) 10).flatMap (fun z => [qd a x y z.toNat]) <+: T := by rw [← hq]; exact hpre2
              rw [hq] at hand
              obtain ⟨L3, f3, hL3, hl3, hf30, hf3n, hat3⟩ := pre_open _ _ hpre3
              have HF30 := Lib.hid hf30
              have HF3n : Hid (f3 L3.length = f2 (j + 1)) := Lib.hid (by rw [hst2]; show _ = f2 j ++ zP S a x y; rw [zP, hq]; exact hf3n)
              have Hat3 := Lib.hid hat3
              have HL3 := Lib.hid hL3
              have hq2 : ab q x < 1024 := Nat.lt_of_le_of_lt (ab_le _ _) hq1
              clear hpre2 hpre3 hf30 hf3n hat3 hst2 hc2 hy hq hL3
              go_wp2_with fail
              go_region_held3 (fun w' => w'.cell? ⟨B, a, none⟩ = some (.int .u16 ((S a : Nat) : Int)) ∧ w'.cell? ⟨B, y, none⟩ = some (.int .u16 ((S y : Nat) : Int)) ∧ Below wr.heap.size wr w')
                (first
                  | exact ⟨Fa.out, Fy.out, (Below.refl _ _).drew⟩
                  | (go_split_ands
                     refine ⟨?_, ?_, ?_⟩
                     · exact cell_old hb2 (by assumption)
                     · exact cell_old hb2 (by assumption)
                     · exact Below.trans (by assumption) (hb2.mono (Below.size (by assumption))))
                  | go_keep)
                (first
                  | (go_at_call 55; (with_reducible refine (above_b q x _ hq1 hx10).mono ?_); rintro e w2 ⟨rfl, hb2⟩)
                  | (go_at_call 56; (with_reducible refine (list_any (ab q x) _ hq2).mono ?_); rintro e w2 ⟨v3, rfl, own3, hb2⟩; rw [← bl_length, ← HL3.out] at own3; have own3 := own_base (b' := wr.heap.size) (by go_split_ands; exact Below.size (by assumption)) own3; obtain ⟨g3, c3, rfl, _⟩ := nums_shape own3 rfl)
                  | fail)
              rename_i hh
              have hb3 : Below wr.heap.size wr w2 := hh.2.2
              clear hh
              have HK3 : Hid (Kp w2 G g3 L3) := Lib.hid (Kp.new own3 rfl (fun a ha => (Hor.out.lt a.block (by rw [ha]; rfl)).2))
              have HK1' := Lib.hid (HK1.out.below hb3)
              have HK2' := Lib.hid (HK2.out.below hb3)
              have Hor3 := Lib.hid (own_later Hor.out hb3)
              have HB3 := Lib.hid ((hb3.block _ hBr).trans HK.out)
              have Hb3 := Lib.hid (hbel.trans (hb3.mono hsz))
              have HN3 : Hid (N = (f3 0).length) := Lib.hid (by rw [HF30.out]; exact HN.out)
              rw [← HF30.out] at Hor3
              clear own3 hb3 Hor HK HN hbel Fa Fy HK1 HK2 h0 fa fy hand
              go_wp2_with fail
              go_loopw [5, 52] (fun v i wr => ∃ (i3 N : Nat) (G : Option Addr) (C : Nat), i3 ≤ L3.length ∧ i = .int .i64 i3 ∧ v = .slice G N C ∧ Hid (N = (f3 i3).length) ∧ Hid (wr.ownsRow (B + 1) 51 4 (.slice G N C) N (ns (f3 i3).flatten)) ∧ (N : Int) < M ∧ N ≤ 10000 ∧ Hid (wr.heap[B]? = some (.cells (LA S) 41 (0, 0))) ∧ Hid (Kp wr G (some ⟨b1, o1, none⟩) L1) ∧ Hid (Kp wr G (some ⟨b2, o2, none⟩) L2) ∧ Hid (Kp wr G g3 L3) ∧ Below w.heap.size w wr) (fun _ i _ => L3.length - (intOf i).toNat)
              case atStart => exact ⟨0, N, G, C, Nat.zero_le _, rfl, rfl, HN3, Hor3, hNM, hN4, HB3, HK1', HK2', HK3, Hb3.out⟩
              case round =>
                clear HN3 Hor3 hNM hN4 HB3 HK1' HK2' HK3 Hb3
                obtain ⟨i3, N, G, C, hi3, rfl, rfl, HN, Hor, hNM, hN4, HK, HK1, HK2, HK3, hbel⟩ := hrel
                by_cases hli : i3 < L3.length
                · obtain ⟨z, hz, hz10, hst3, hpre3⟩ := Hat3.out i3 hli
                  rcases HK3.out.here with e | ⟨b3, o3, rfl, hc3⟩
                  · exact absurd hli (by rw [e]; simp)
                  have h0 := hc3 i3 hli
                  rw [hz] at h0
                  have hsz := hbel.size
                  have hBr : B < wr.heap.size := (Array.getElem?_eq_some_iff.1 HK.out).1
                  have hli2 : (i3 : Int) < (L3.length : Nat) := by omega
                  have Hst : Hid (f3 (i3 + 1) = f3 i3 ++ [qd a x y z]) := Lib.hid hst3
                  have Hpre : Hid (f3 (i3 + 1) <+: T) := Lib.hid (by rw [hst3]; exact hpre3)
                  have HN6 : Hid (N + 1 = (f3 (i3 + 1)).length) := Lib.hid (by rw [Hst.out, List.length_append, ← HN.out]; rfl)
                  have hN5 : N + 1 ≤ 10000 := by rw [HN6.out]; exact Nat.le_trans Hpre.out.length_le HTe.out.2
                  clear hst3 hpre3 hc3 hz
                  go_wp2_with (at_builtin; refine wpList_append_lies _ rfl _ _ 71 rfl (B + 1) 51 i0 (.agg #[.int .i64 0, .int .i64 0, .int .i64 0, .int .i64 0]) 4 32 Tryd.underlying71 hi iz0 iz1 iz2 rfl (by decide) _ N _ rfl (Hor.out.alloc (.cells #[.int .i64 a, .int .i64 x, .int .i64 y, .int .i64 z] 51)) ⟨wr.heap.size, 0, none⟩ 1 1 [.int .i64 a, .int .i64 x, .int .i64 y, .int .i64 z] rfl rfl ?c1 ?c2 (by omega) ?c3 ?c4 ?c5 (wr.heap.size + 1) ?c6 ?_)
                  case c1 => exact World.news_of_block (cs := #[.int .i64 a, .int .i64 x, .int .i64 y, .int .i64 z]) (t := 51) (fr := (0, 0)) (heap_alloc_new _ _)
                  case c2 => intro u hu; simp at hu; rcases hu with rfl | rfl | rfl | rfl <;> rfl
                  case c3 => unfold maxLen; omega
                  case c4 => omega
                  case c5 => simp; omega
                  case c6 => simp
                  intro g cap6 w6 hown hgr hat _
                  have Hor6 : Hid (w6.ownsRow (B + 1) 51 4 (.slice (some ⟨g, 0, none⟩) (N + 1) cap6) (N + 1) (ns (f3 (i3 + 1)).flatten)) := Lib.hid (by rw [Hst.out, flat_snoc, ns_append]; exact hown)
                  have hbA : Below wr.heap.size wr (wr.alloc (.cells #[.int .i64 a, .int .i64 x, .int .i64 y, .int .i64 z] 51)) := (Below.refl _ _).alloc (Nat.le_refl _) _
                  have HK1' := Lib.hid ((HK1.out.below hbA).grown hgr hat (by simp))
                  have HK2' := Lib.hid ((HK2.out.below hbA).grown hgr hat (by simp))
                  have HK3' := Lib.hid ((HK3.out.below hbA).grown hgr hat (by simp))
                  have HB6 : Hid (w6.heap[B]? = some (.cells (LA S) 41 (0, 0))) := Lib.hid ((hgr.block B (by simp; omega) (fun e => by have := (Hor.out.lt B e.symm).1; omega)).trans ((hbA.block B hBr).trans HK.out))
                  have Hb6 := Lib.hid ((hbel.alloc hsz _).grown hgr (by simp; omega) (fun b hb => by have := (Hor.out.lt b hb).1; omega))
                  clear hown hgr hat hbA Hor HK HK1 HK2 HK3 hbel HN Hst h0
                  by_cases hM2 : (N : Int) + 1 = M
                  · have q1 : ((N : Int) + 1 == M) = true := by simpa using hM2
                    have q2 : (((N + 1 : Nat) : Int) == M) = true := by simpa using hM2
                    have Hfin : Hid (w6.ownsRow w.heap.size 51 4 (.slice (some ⟨g, 0, none⟩) (N + 1) cap6) (T.take M.toNat).length (ns (T.take M.toNat).flatten)) := Lib.hid (by rw [take_pre Hpre.out (by rw [← HN6.out]; exact hM2), ← HN6.out]; exact own_base (by omega) Hor6.out)
                    clear hM2
                    go_wp2_with fail
                    try rw [Exit.noGoto_ret]
                    go_ret
                    exact ⟨_, rfl, Hfin.out, Hb6.out⟩
                  · have q1 : ((N : Int) + 1 == M) = false := by simpa using hM2
                    have q2 : (((N + 1 : Nat) : Int) == M) = false := by simpa using hM2
                    have hNM2 : ((N + 1 : Nat) : Int) < M := by omega
                    clear hM2
                    go_wp2_with fail
                    go_roundw
                    case rel => exact ⟨i3 + 1, N + 1, some ⟨g, 0, none⟩, cap6, by omega, by go_num, rfl, HN6, Hor6, hNM2, hN5, HB6, HK1', HK2', HK3', Hb6.out⟩
                    case measure => simp [intOf]; omega
                · obtain rfl : i3 = L3.length := by omega
                  have HN' : Hid (N = (f2 (j + 1)).length) := Lib.hid (by rw [← HF3n.out]; exact HN.out)
                  rw [HF3n.out] at Hor
                  go_wp2_with fail
                  go_roundw
                  case rel => exact ⟨j + 1, N, G, C, by omega, by go_num, rfl, HN', Hor, hNM, hN4, HK, HK1, HK2, hbel⟩
                  case measure => simp [intOf]; omega
            · obtain rfl : j = L2.length := by omega
              have HN' : Hid (N = (f1 (k + 1)).length) := Lib.hid (by rw [← HF2n.out]; exact HN.out)
              rw [HF2n.out] at Hor
              go_wp2_with fail
              go_roundw
              case rel => exact ⟨k + 1, N, G, C, by omega, by go_num, rfl, HN', Hor, hNM, hN4, HK, HK1, hbel⟩
              case measure => simp [intOf]; omega
        · obtain rfl : k = L1.length := by omega
          have HN' : Hid (N = (wP S (a + 1)).length) := Lib.hid (by rw [← HF1n.out]; exact HN.out)
          rw [HF1n.out] at Hor
          go_wp2_with fail
          go_roundw
          case rel => exact ⟨a + 1, N, G, C, by omega, by go_num, rfl, HN', Hor, hNM, hN4, HK, hbel⟩
          case measure => simp [intOf]; omega
    · obtain rfl : a = 10 := by omega
      rw [HTe.out.1] at HN Hor
      have Hfin : Hid (wr.ownsRow w.heap.size 51 4 (.slice G N C) (T.take M.toNat).length (ns (T.take M.toNat).flatten)) := Lib.hid (by rw [take_all (by rw [← HN.out]; exact hNM), ← HN.out]; exact own_base (by omega) Hor.out)
      go_wp2_with fail
      try rw [Exit.noGoto_ret]
      go_ret
      exact ⟨_, rfl, Hfin.out, hbel⟩

end Go.Proofs.YtibjapfaljeclaaDoor
