/- Broken wires that fit: the model. -/
import Derived.Test.YtoigafjocckepaaFi0
import Derived.Test.YtoigafjocckepaaWa
import Derived.Test.YtoigafjocckepaaRs2
namespace Go.Proofs.Ytoigafjocckepaa
open Go.ChangeShapes Go.WideShapes Go.ChangeAt Go.RowKit
set_option linter.unusedVariables false


set_option maxHeartbeats 1600000 in
set_option maxRecDepth 20000 in
theorem wiFit_any (w : World) (ao : Option Addr) (cap : Nat) (L : List (List Int)) (n : Nat) (s : ByteArray) (f m : Nat) (Hn : Hid (n = L.length)) (Hg : Hid (wiB (f : Int) L = true)) (Hc : Hid (RowsAt w ao L)) (hf : f ≤ 10) (hm : m ≤ 10) :
    Calls Try.prog 34 #[.int .i64 (f : Int), .slice ao n cap, .string s, .int .i64 (m : Int)] w fun e w' => ∃ v X, e = .returned v ∧ OwnSS w' w.heap.size v X (fitL L s f m) ∧ Below w.heap.size w w' := by
  obtain ⟨i22, hi22, hz220, hz221, hz222⟩ := info_parts info36
  go_enter Try.func34, Try.ntmps34
  go_wp2_with fail
  refine (wiAll_any w f m hf hm).mono ?_
  rintro e w1 ⟨vA, XA, rfl, oA, hb1⟩
  obtain ⟨N, hN⟩ : ∃ N, (wL f m).length = N := ⟨_, rfl⟩
  have hNb : N ≤ 11264 := by rw [← hN]; have := wL_len hf m; omega
  obtain ⟨aA, cA, rfl, _⟩ := oA.reads
  rw [hN] at oA ⊢
  have HN : Hid (N = (wL f m).length) := hN.symm
  have HlN : Hid ((la f m).length = N) := by show _ = _; rw [la_lenw hf]; exact hN
  have HlA : Hid (SSlt (.slice aA N cA) XA w1.heap.size) := oA.lt
  have HA := Lib.hid oA
  have Hb1 := Lib.hid hb1
  have hs1 := hb1.size
  have Hc1 := Lib.hid (Hc.out.kept hb1)
  clear oA hb1 hN
  go_wp2_with fail
  go_loopw [9, 16] (fun v i wr => ∃ (k q : Nat), k ≤ N ∧ i = .int .i64 k ∧ Hid (q = (idx (fp L s f m) k).length) ∧ wr.ownsRow w1.heap.size 36 1 v q (ptX XA (idx (fp L s f m) k)) ∧ Below w1.heap.size w1 wr) (fun _ i _ => N - (intOf i).toNat)
  case atStart => exact ⟨0, 0, Nat.zero_le _, rfl, rfl, World.ownsRow_nil _ _ _ _, Below.refl _ _⟩
  case round =>
    obtain ⟨k, q, hk, rfl, HQ, hor, hbel⟩ := hrel
    have hqk : q ≤ k := by rw [HQ.out]; exact idx_len _ k
    have hrow : ∀ vv, wr.ownsRow w1.heap.size 36 1 vv q (ptX XA (idx (fp L s f m) k)) → ∃ aq cq, vv = .slice aq q cq := by
      intro vv h
      rcases h.2 with ⟨hv, h0⟩ | ⟨g, cap, cur, hv, _⟩
      · exact ⟨none, 0, by rw [hv, h0]⟩
      · exact ⟨_, cap, hv⟩
    obtain ⟨aq, cq, rfl⟩ := hrow _ hor
    by_cases hlt : k < N
    · have hsz := hbel.size
      have hkL : k < (wL f m).length := by rw [← HN.out]; exact hlt
      obtain ⟨gA, capA, hvA, _⟩ := HA.out.outer (by omega)
      rw [← HN.out] at hvA
      simp only [Value.slice.injEq, true_and] at hvA
      obtain ⟨rfl, rfl⟩ := hvA
      obtain ⟨a1, c1, hx1, hc0, own1⟩ := HA.out.cellOf HN.out k hkL
      have hc1 := cell_old hbel hc0
      have hris := wL_row m hkL
      have hrl := ris_len (by omega : (f : Int) ≤ 10) hris
      obtain ⟨_, _, hve, hna⟩ := nums_shape own1 rfl
      simp only [Value.slice.injEq, true_and] at hve
      have hna1 : NumsAt w1 a1 (row (wL f m) k) := by rw [hve.1]; exact hna
      have hb1024 := bw_lt (by omega : (f : Int) ≤ 10) hris
      have hlak := la_at hf m k hkL
      have HB := Lib.hid (fun W (h : NumsAt W a1 (row (wL f m) k)) => wiBits_any a1 c1 (f : Int) (by omega) (row (wL f m) k) _ W rfl hris h)
      have Hna := Lib.hid (hna1.kept hbel)
      have Hcr := Lib.hid (Hc1.out.kept hbel)
      have Hfp : Hid (fp L s f m k = ((rtx (bws L) (bw (row (wL f m) k)) n).toList == s.toList)) := by show _ = _; unfold fp fit; rw [hlak, Hn.out]
      obtain ⟨x, hx⟩ : ∃ x, bw (row (wL f m) k) = x := ⟨_, rfl⟩
      obtain ⟨ln, hln⟩ : ∃ ln, (row (wL f m) k).length = ln := ⟨_, rfl⟩
      rw [hx] at hb1024 Hfp HB
      rw [hln] at hc1 hrl HB hx1
      have HR := Lib.hid (wiResults_any ao cap (f : Int) L n x wr Hn Hg hb1024 Hcr)
      have Hps := Lib.hid (idx_succ (fp L s f m) k)
      have Hxk : Hid (XA.getD k (.bool false) = .slice a1 ln c1) := by show _ = _; rw [List.getD_eq_getElem?_getD, hx1]; rfl
      have Hor := Lib.hid hor
      have Hbel := Lib.hid hbel
      have hk1 : (0 : Int) ≤ k := by omega
      have hk2 : (k : Int) < N := by omega
      obtain ⟨TX, hTX⟩ : ∃ TX, rtx (bws L) x n = TX := ⟨_, rfl⟩
      rw [hTX] at Hfp HR
      clear hor hbel hc0 own1 hris hve hna hna1 hlak hx hln hx1 hTX hrow
      cases ht : fp L s f m k
      · have hp1 : idx (fp L s f m) (k + 1) = idx (fp L s f m) k := by rw [Hps.out, if_neg (by rw [ht]; simp)]
        have Hp1 := Lib.hid hp1
        rw [ht] at Hfp
        have hte : (TX.toList == s.toList) = false := Hfp.out.symm
        clear hp1 ht
        go_wp2_with fail
        refine (HB.out wr Hna.out).mono ?_
        rintro e w' ⟨rfl, rfl⟩
        go_wp2_with fail
        refine HR.out.mono ?_
        rintro e w' ⟨rfl, rfl⟩
        go_wp2_with fail
        go_roundw
        case rel => exact ⟨k + 1, q, by omega, by go_num, by show q = _; rw [Hp1.out]; exact HQ.out, by rw [Hp1.out]; exact Hor.out, Hbel.out⟩
        case measure => simp [intOf]; omega
      · have hp1 : idx (fp L s f m) (k + 1) = idx (fp L s f m) k ++ [k] := by rw [Hps.out, if_pos ht]
        have Hp1 := Lib.hid hp1
        rw [ht] at Hfp
        have hte : (TX.toList == s.toList) = true := Hfp.out.symm
        have bd : Below wr.heap.size wr (wr.alloc (.cells #[.slice a1 ln c1] 36)) := (Below.refl wr.heap.size wr).alloc (Nat.le_refl _) _
        have Hor7 := Lib.hid (own_later Hor.out bd)
        have Hb7 := Lib.hid (Hbel.out.trans (bd.mono hsz))
        have hszW : (wr.alloc (.cells #[.slice a1 ln c1] 36)).heap.size = wr.heap.size + 1 := by simp
        have hck : (wr.alloc (.cells #[.slice a1 ln c1] 36)).cell? ⟨wr.heap.size, 0, none⟩ = some (.slice a1 ln c1) := by rw [cell_of_row _ _ _ _ _ _ (heap_alloc_new wr _)]; rfl
        have Hck := Lib.hid hck
        obtain ⟨XP, hXP⟩ : ∃ XP, ptX XA (idx (fp L s f m) k) = XP := ⟨_, rfl⟩
        rw [hXP] at Hor7
        have HXP := Lib.hid hXP
        clear hp1 ht bd hck Hor Hbel hXP
        go_wp2_with fail
        refine (HB.out wr Hna.out).mono ?_
        rintro e w' ⟨rfl, rfl⟩
        go_wp2_with fail
        refine HR.out.mono ?_
        rintro e w' ⟨rfl, rfl⟩
        go_wp2_with (at_builtin; refine push_val _ rfl _ _ 22 rfl w1.heap.size i22 Try.underlying22 hi22 hz220 hz221 hz222 _ XP q rfl Hor7.out (by omega) (.slice a1 ln c1) 1 wr.heap.size rfl Hck.out rfl (by rw [hszW]; omega) ?_)
        intro g9 cap9 w9 own9 hgr9
        have Ho9 : Hid (w9.ownsRow w1.heap.size 36 1 (.slice (some ⟨g9, 0, none⟩) (q + 1) cap9) (q + 1) (ptX XA (idx (fp L s f m) (k + 1)))) := by
          show World.ownsRow _ _ _ _ _ _ _
          rw [Hp1.out]
          unfold ptX
          rw [List.map_append]
          simp only [List.map_cons, List.map_nil]
          rw [Hxk.out]
          have e := HXP.out
          unfold ptX at e
          rw [e]
          exact own9
        have Hb9 := Lib.hid (Hb7.out.grown hgr9 (by rw [hszW]; omega) (fun bb hb => (Hor7.out.lt bb hb).1))
        clear own9 hgr9 Hor7 Hb7
        go_wp2_with fail
        go_roundw
        case rel => exact ⟨k + 1, q + 1, by omega, by go_num, by show q + 1 = _; rw [Hp1.out, List.length_append, ← HQ.out]; rfl, Ho9.out, Hb9.out⟩
        case measure => simp [intOf]; omega
    · obtain rfl : k = N := by omega
      have hfin : OwnSS wr w.heap.size (.slice aq q cq) (ptX XA (idx (fp L s f m) k)) ((idx (fp L s f m) k).map (row (wL f m))) := by
        refine OwnSS.select (HA.out.later hbel) HlA.out hs1 (by rw [← HQ.out]; exact hor) (idx_pair _ _) (fun i hi => ?_)
        have := idx_lt hi
        rw [← HN.out]; exact this
      have e : (idx (fp L s f m) k).map (row (wL f m)) = fitL L s f m := by unfold fitL fI; rw [HlN.out]
      rw [e] at hfin
      have Hfin := Lib.hid hfin
      have Hbf := Lib.hid (Hb1.out.trans (hbel.mono hs1))
      clear hor hfin e
      go_wp2_with fail
      go_ret
      first | exact ⟨_, _, rfl, Hfin.out, Hbf.out⟩ | exact ⟨_, rfl, ⟨_, Hfin.out⟩, Hbf.out⟩

end Go.Proofs.Ytoigafjocckepaa
