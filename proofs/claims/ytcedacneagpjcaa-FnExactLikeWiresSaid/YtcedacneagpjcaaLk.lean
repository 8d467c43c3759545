/- Like wires: the model. -/
import Derived.Test.YtcedacneagpjcaaSm
namespace Go.Proofs.Ytcedacneagpjcaa
open Go.ChangeShapes Go.WideShapes Go.ChangeAt Go.RowKit
set_option linter.unusedVariables false


set_option maxHeartbeats 3200000 in
set_option maxRecDepth 20000 in
theorem cbLike_pos (w : World) (b off ka b' off' kb : Nat) (l m : List Int) (n : Nat) (Hn : Hid (n = l.length)) (Hm : Hid (n = m.length)) (Hg : Hid (grB l = true)) (Hg2 : Hid (grB m = true))
    (Hc : Hid (∀ i, i < n → w.cell? ⟨b, off + i, none⟩ = some (.int .i64 (na l i)))) (Hd : Hid (∀ i, i < n → w.cell? ⟨b', off' + i, none⟩ = some (.int .i64 (na m i)))) :
    Calls Try.prog 32 #[.slice (some ⟨b, off, none⟩) n ka, .slice (some ⟨b', off', none⟩) n kb] w fun e w' => ∃ v X, e = .returned v ∧ OwnSS w' w.heap.size v X (lkL l m n n) ∧ Below w.heap.size w w' := by
  obtain ⟨i3, hi3, hz30, hz31, hz32⟩ := info_parts info3
  obtain ⟨i22, hi22, hz220, hz221, hz222⟩ := info_parts info22
  have hlen := grB_len Hg.out
  have hn12 : n ≤ 12 := by have := Hn.out; omega
  have hn1 : 1 ≤ n := by have := Hn.out; omega
  clear hlen
  go_enter Try.func32, Try.ntmps32
  go_wp2_with fail
  refine (cbLabels_pos w b off ka b' off' kb l m n Hn Hm Hg Hg2 Hc Hd).mono ?_
  rintro e w1 ⟨vL, XL, rfl, hOL, hb1⟩
  obtain ⟨gL, capL, rfl, hgL⟩ := hOL.outer (by rw [llTo_length]; omega)
  have hs1 := hb1.size
  have HL1 := Lib.hid hOL
  have Hb1 := Lib.hid hb1
  rw [llTo_length] at HL1 ⊢
  clear hOL hb1
  go_wp2_with fail
  go_loopw [6, 16] (fun v i wr => ∃ (j : Nat) (X : List Value), j ≤ n ∧ i = .int .i64 j ∧ OwnSS wr w1.heap.size v X (lkL l m n j) ∧ Below w1.heap.size w1 wr) (fun _ i _ => n - (intOf i).toNat)
  case atStart => exact ⟨0, [], Nat.zero_le _, rfl, OwnSS.nil _ _, Below.refl _ _⟩
  case round =>
    obtain ⟨j, X, hj, rfl, hor, hbel⟩ := hrel
    by_cases hlt : j < n
    · obtain ⟨wa, hwa⟩ : ∃ q, q = wr := ⟨_, rfl⟩
      subst hwa
      have hsz := hbel.size
      obtain ⟨ao, cap, rfl, _⟩ := hor.reads
      obtain ⟨LU, hLU⟩ : ∃ LU, (lkL l m n j).length = LU := ⟨_, rfl⟩
      rw [hLU] at hor ⊢
      have HLU := Lib.hid hLU
      have hLU12 : LU ≤ 12 := by have := lkL_len l m n j; omega
      have hlit := World.ownsRow_lit (base := wa.heap.size) (e := 3) (size := 1) wa #[.int .i64 (j : Int)] 1 (Nat.le_refl _) (by unfold maxLen; omega) rfl
      obtain ⟨wl, hwl⟩ : ∃ wl, wl = wa.alloc (.cells #[.int .i64 (j : Int)] 3) := ⟨_, rfl⟩
      have HLit : Hid (wl.ownsRow wa.heap.size 3 1 (.slice (some ⟨wa.heap.size, 0, none⟩) 1 1) 1 (ns (lkTo l m j 0))) := by show World.ownsRow _ _ _ _ _ _ _; rw [hwl]; exact hlit
      have HBl : Hid (Below wa.heap.size wa wl) := by show Below _ _ _; rw [hwl]; exact (Below.refl _ _).alloc (Nat.le_refl _) _
      have Hor := Lib.hid hor
      have Hbel := Lib.hid hbel
      have Hwl := Lib.hid hwl
      clear hor hbel hLU hlit hwl
      go_upto_region 7 with (fail)
      rw [← Hwl.out]
      clear Hwl
      go_wp2_with fail
      go_loopw [8, 9, 23] (fun v f i wk => ∃ (k q : Nat), k ≤ n ∧ i = .int .i64 k ∧ Hid (q = (lkTo l m j k).length) ∧ f = .bool (fsTo l m j k) ∧ wk.ownsRow wa.heap.size 3 1 v q (ns (lkTo l m j k)) ∧ Below wa.heap.size wa wk) (fun _ _ i _ => n - (intOf i).toNat)
      case atStart => exact ⟨0, 1, Nat.zero_le _, rfl, rfl, rfl, HLit.out, HBl.out⟩
      case round =>
        obtain ⟨k, q, hk, rfl, HQ, rfl, hol, hbk⟩ := hrel
        obtain ⟨aq, cq, rfl, _⟩ := nums_shape hol HQ.out
        have hq13 : q ≤ 13 := by rw [HQ.out]; have := lkTo_len l m j k; omega
        by_cases hkl : k < n
        · have hbw : Below w1.heap.size w1 wr := Hbel.out.trans (hbk.mono hsz)
          have hLw := HL1.out.later hbw
          have hrl1 : (row (llTo l m n) j).length = 2 := by rw [llTo_at _ _ _ _ hlt]; rfl
          have hrl2 : (row (llTo l m n) k).length = 2 := by rw [llTo_at _ _ _ _ hkl]; rfl
          obtain ⟨a1, c1, hx1, hc1, own1⟩ := hLw.cellOf (by rw [llTo_length]) j (by rw [llTo_length]; exact hlt)
          obtain ⟨a2, c2, hx2, hc2, own2⟩ := hLw.cellOf (by rw [llTo_length]) k (by rw [llTo_length]; exact hkl)
          have HRL1 : Hid (2 = (row (llTo l m n) j).length) := hrl1.symm
          have HRL2 : Hid (2 = (row (llTo l m n) k).length) := hrl2.symm
          rw [hrl1] at hc1 own1
          rw [hrl2] at hc2 own2
          obtain ⟨b1, d1, hv1, _⟩ := own_pos own1 (by omega)
          obtain ⟨b2, d2, hv2, _⟩ := own_pos own2 (by omega)
          simp only [Value.slice.injEq, true_and] at hv1 hv2
          obtain ⟨hv1, hw1⟩ := hv1
          obtain ⟨hv2, hw2⟩ := hv2
          subst hv1
          subst hv2
          have HC1 := Lib.hid hc1
          have HC2 := Lib.hid hc2
          have Hsame : Hid (Calls Try.prog 44 #[.slice (some ⟨b1, 0, none⟩) 2 c1, .slice (some ⟨b2, 0, none⟩) 2 c2] wr.drew fun e w' => e = .returned (.bool (sameL l m j k)) ∧ Below wr.drew.heap.size wr.drew w') := by
            have h := same_pos b1 0 b2 0 c1 c2 (row (llTo l m n) j) (row (llTo l m n) k) 2 wr.drew HRL1 HRL2 (by omega) (fun i hi => by rw [Nat.zero_add]; exact own_num own1 HRL1.out i hi) (fun i hi => by rw [Nat.zero_add]; exact own_num own2 HRL2.out i hi)
            rw [sameL_eq l m n j k hlt hkl] at h
            exact h
          have hp0 : (0 : Int) ≤ (j : Int) := by omega
          have hp1 : (j : Int) < (n : Int) := by omega
          have hp2 : (0 : Int) ≤ (k : Int) := by omega
          have hp3 : (k : Int) < (n : Int) := by omega
          have Hol := Lib.hid hol
          have Hbk := Lib.hid hbk
          have Hls := Lib.hid (lkTo_succ l m j k)
          have Hfs := Lib.hid (fsTo_succ l m j k)
          clear hbw hLw hrl1 hrl2 hx1 hx2 own1 own2 hw1 hw2 hol hbk
          go_wp2_with fail
          go_region_held3 (fun w' => w'.cell? ⟨gL, j, none⟩ = some (.slice (some ⟨b1, 0, none⟩) 2 c1) ∧ w'.cell? ⟨gL, k, none⟩ = some (.slice (some ⟨b2, 0, none⟩) 2 c2))
            (first
              | exact ⟨HC1.out, HC2.out⟩
              | go_keep
              | (go_split_ands
                 refine ⟨?_, ?_⟩
                 · exact cell_old hb2 (by assumption)
                 · exact cell_old hb2 (by assumption)))
            (first
              | (go_at_call 44; refine Hsame.out.mono ?_; rintro e w3 ⟨rfl, hb2⟩)
              | fail)
          rename_i hS
          clear hS
          have Hb3 : Hid (Below wa.heap.size wa w3) := Hbk.out.drew.trans (hb2.mono Hbk.out.size)
          have Hol3 : Hid (w3.ownsRow wa.heap.size 3 1 (.slice aq q cq) q (ns (lkTo l m j k))) := own_later (w := wr.drew) Hol.out hb2
          have hs3 := Hb3.out.size
          clear hb2 hc1 hc2 Hol Hbk HC1 HC2 Hsame
          cases hsm : sameL l m j k
          · have hl1 : lkTo l m j (k + 1) = lkTo l m j k := by rw [Hls.out, if_neg (by rw [hsm]; simp)]
            have hf1 : fsTo l m j (k + 1) = fsTo l m j k := by rw [Hfs.out, hsm]; simp
            have Hl1 := Lib.hid hl1
            have Hf1 := Lib.hid hf1
            clear hsm hl1 hf1
            go_wp2_with fail
            go_roundw
            case rel => exact ⟨k + 1, q, by omega, by go_num, by show q = _; rw [Hl1.out]; exact HQ.out, by rw [Hf1.out], by rw [Hl1.out]; exact Hol3.out, Hb3.out⟩
            case measure => simp [intOf]; omega
          · by_cases hjk : j < k
            · have hl1 : lkTo l m j (k + 1) = lkTo l m j k ++ [(k : Int)] := by rw [Hls.out, if_pos ⟨hjk, hsm⟩]
              have hf1 : fsTo l m j (k + 1) = fsTo l m j k := by rw [Hfs.out, hsm]; simp; intro _; omega
              have Hl1 := Lib.hid hl1
              have Hf1 := Lib.hid hf1
              have hgt : (k : Int) > (j : Int) := by omega
              have hge : (j : Int) ≤ (k : Int) := by omega
              have bd : Below w3.heap.size w3 (w3.alloc (.cells #[.int .i64 (k : Int)] 3)) := (Below.refl w3.heap.size w3).alloc (Nat.le_refl _) _
              have Hrow7 := Lib.hid (own_later Hol3.out bd)
              have Hb7 := Lib.hid (Hb3.out.trans (bd.mono hs3))
              have hszW : (w3.alloc (.cells #[.int .i64 (k : Int)] 3)).heap.size = w3.heap.size + 1 := by simp
              have hck : (w3.alloc (.cells #[.int .i64 (k : Int)] 3)).cell? ⟨w3.heap.size, 0, none⟩ = some (.int .i64 (k : Int)) := by rw [cell_of_row _ _ _ _ _ _ (heap_alloc_new w3 _)]; rfl
              have Hck := Lib.hid hck
              clear hsm hl1 hf1 bd hck Hol3
              cases hf : fsTo l m j k
              all_goals
                have HF := Lib.hid hf
                clear hf
                go_wp2_with (at_builtin; refine push_num _ rfl _ _ 22 rfl wa.heap.size i3 Try.underlying22 hi3 hz30 hz31 hz32 (.slice aq q cq) (lkTo l m j k) q rfl Hrow7.out (by omega) (k : Int) 1 w3.heap.size rfl Hck.out (by rw [hszW]; omega) ?_)
                intro g9 cap9 w9 own9 hgr9 hat9
                rw [← Hl1.out] at own9
                have Ho9 := Lib.hid own9
                have Hb9 := Lib.hid (Hb7.out.grown hgr9 (by rw [hszW]; omega) (fun bb hb => (Hrow7.out.lt bb hb).1))
                clear own9 hgr9 hat9 Hrow7 Hb7
                go_wp2_with fail
                go_roundw
                case rel => exact ⟨k + 1, q + 1, by omega, by go_num, by show q + 1 = _; rw [Hl1.out, List.length_append, ← HQ.out]; rfl, by rw [Hf1.out, HF.out], Ho9.out, Hb9.out⟩
                case measure => simp [intOf]; omega
            · have hl1 : lkTo l m j (k + 1) = lkTo l m j k := by rw [Hls.out, if_neg (fun h => hjk h.1)]
              have Hl1 := Lib.hid hl1
              have hgt : ¬ (k : Int) > (j : Int) := by omega
              by_cases hjk2 : j = k
              · have hf1 : fsTo l m j (k + 1) = fsTo l m j k := by rw [Hfs.out, hsm]; simp; intro _; omega
                have Hf1 := Lib.hid hf1
                have hge : (j : Int) ≤ (k : Int) := by omega
                clear hsm hl1 hf1 hjk2
                cases hf : fsTo l m j k
                all_goals
                  have HF := Lib.hid hf
                  clear hf
                  go_wp2_with fail
                  go_roundw
                  case rel => exact ⟨k + 1, q, by omega, by go_num, by show q = _; rw [Hl1.out]; exact HQ.out, by rw [Hf1.out, HF.out], by rw [Hl1.out]; exact Hol3.out, Hb3.out⟩
                  case measure => simp [intOf]; omega
              · have hf1 : fsTo l m j (k + 1) = false := by rw [Hfs.out, hsm]; simp; intro _; omega
                have Hf1 := Lib.hid hf1
                have hge : ¬ (j : Int) ≤ (k : Int) := by omega
                clear hsm hl1 hf1 hjk2
                cases hf : fsTo l m j k
                all_goals
                  clear hf
                  go_wp2_with fail
                  go_roundw
                  case rel => exact ⟨k + 1, q, by omega, by go_num, by show q = _; rw [Hl1.out]; exact HQ.out, by rw [Hf1.out], by rw [Hl1.out]; exact Hol3.out, Hb3.out⟩
                  case measure => simp [intOf]; omega
        · obtain rfl : k = n := by omega
          have Hbw := Lib.hid (Hbel.out.trans (hbk.mono hsz))
          have Horw := Lib.hid (Hor.out.later hbk)
          have Hls := Lib.hid (lkL_succ l m k j)
          have hlB : lkB l m k j = (fsTo l m j k && decide (1 < q)) := by unfold lkB; rw [HQ.out]
          have HlB := Lib.hid hlB
          have Hol := Lib.hid hol
          have hsW := hbk.size
          clear hlB hol hbk
          by_cases hyes : fsTo l m j k = true ∧ 1 < q
          · have hB : lkB l m k j = true := by rw [HlB.out, hyes.1]; simpa using hyes.2
            have hL1 : lkL l m k (j + 1) = lkL l m k j ++ [lkTo l m j k] := by rw [Hls.out, if_pos hB]
            have HL2 := Lib.hid hL1
            have HF := Lib.hid hyes.1
            have hq1 : (q : Int) > 1 := by omega
            have bd : Below wr.heap.size wr (wr.alloc (.cells #[.slice aq q cq] 22)) := (Below.refl wr.heap.size wr).alloc (Nat.le_refl _) _
            have Hor7 := Lib.hid (Horw.out.later bd)
            have Hol7 : Hid ((wr.alloc (.cells #[.slice aq q cq] 22)).ownsRow w1.heap.size 3 1 (.slice aq q cq) (lkTo l m j k).length (ns (lkTo l m j k))) := by show World.ownsRow _ _ _ _ _ _ _; rw [← HQ.out]; exact own_base hsz (own_later Hol.out bd)
            have HpV : Hid (∀ bb, (Value.slice aq q cq).ownBlock = some bb → (Value.slice ao LU cap).ownBlock ≠ some bb) := fun bb hb e => by have h1 := (Hol.out.lt bb hb).1; have h2 := (Hor.out.1.lt bb e).2; omega
            have HpX : Hid (∀ (i : Nat) (u : Value) (bb : Nat), X[i]? = some u → u.ownBlock = some bb → (Value.slice aq q cq).ownBlock ≠ some bb) := fun i u bb hu hb e => by
              have h1 := (Hol.out.lt bb e).1
              have hi := (List.getElem?_eq_some_iff.1 hu).1
              have h2 := ((Hor.out.2.2.1 i u _ hu (List.getElem?_eq_getElem (by rw [← Hor.out.2.1]; exact hi))).1.lt bb hb).2
              omega
            have Hb7 := Lib.hid (Hbw.out.trans (bd.mono Hbw.out.size))
            have hszW : (wr.alloc (.cells #[.slice aq q cq] 22)).heap.size = wr.heap.size + 1 := by simp
            have hck : (wr.alloc (.cells #[.slice aq q cq] 22)).cell? ⟨wr.heap.size, 0, none⟩ = some (.slice aq q cq) := by rw [cell_of_row _ _ _ _ _ _ (heap_alloc_new wr _)]; rfl
            have Hck := Lib.hid hck
            have hsw1 := Hbw.out.size
            clear hB hL1 bd hck hyes
            rw [HF.out]
            go_wp2_with (at_builtin; refine push_row _ rfl _ _ 39 rfl w1.heap.size i22 Try.underlying39 hi22 hz220 hz221 hz222 _ X (lkL l m k j) LU HLU.out rfl Hor7.out (by omega) (.slice aq q cq) (lkTo l m j k) Hol7.out HpV.out HpX.out 1 wr.heap.size rfl Hck.out rfl (by rw [hszW]; omega) ?_)
            intro v6 w6 own6 hgr6 hat6
            rw [← HL2.out] at own6
            have Ho6 := Lib.hid own6
            have Hb6 := Lib.hid (Hb7.out.grown hgr6 (by rw [hszW]; omega) (fun bb hb => (Hor7.out.1.lt bb hb).1))
            clear own6 hgr6 hat6 Hor7 Hb7
            go_wp2_with fail
            go_roundw
            case rel => exact ⟨j + 1, _, by omega, by go_num, Ho6.out, Hb6.out⟩
            case measure => simp [intOf]; omega
          · have hB : ¬ lkB l m k j = true := by rw [HlB.out]; simpa using hyes
            have hL1 : lkL l m k (j + 1) = lkL l m k j := by rw [Hls.out, if_neg hB]
            have HL2 := Lib.hid hL1
            have Hor7 : Hid (OwnSS wr w1.heap.size (.slice ao LU cap) X (lkL l m k (j + 1))) := by show OwnSS _ _ _ _ _; rw [hL1]; exact Horw.out
            clear hB hL1
            cases hf : fsTo l m j k
            · clear hyes
              go_wp2_with fail
              go_roundw
              case rel => exact ⟨j + 1, X, by omega, by go_num, Hor7.out, Hbw.out⟩
              case measure => simp [intOf]; omega
            · have hq1 : ¬ (q : Int) > 1 := fun h => hyes ⟨hf, by omega⟩
              clear hyes
              go_wp2_with fail
              go_roundw
              case rel => exact ⟨j + 1, X, by omega, by go_num, Hor7.out, Hbw.out⟩
              case measure => simp [intOf]; omega
    · obtain rfl : j = n := by omega
      have Hor := Lib.hid (hor.weaken hs1)
      have Hbf := Lib.hid (Hb1.out.trans (hbel.mono hs1))
      clear hor
      go_wp2_with fail
      go_ret
      exact ⟨_, X, rfl, Hor.out, Hbf.out⟩

end Go.Proofs.Ytcedacneagpjcaa
