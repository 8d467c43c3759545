/- Broken wires that fit: the program. -/
import Derived.Test.YtoigafjocckepaaFi0
import Derived.Test.YtoigafjocckepaaLv
import Derived.Test.YtoigafjocckepaaRs1
namespace Go.Proofs.Ytoigafjocckepaa
open Go.ChangeShapes Go.WideShapes Go.ChangeAt Go.RowKit
set_option linter.unusedVariables false


theorem canBeBroken_any (f m : Int) (w : World) : Calls Try.prog 42 #[.int .i64 f, .int .i64 m] w fun e w' => e = .returned (.bool (decide (0 ≤ m ∧ m ≤ f))) ∧ w = w' := by
  by_cases h1 : 0 ≤ m
  · by_cases h2 : m ≤ f
    · rw [show decide (0 ≤ m ∧ m ≤ f) = true by simp [h1, h2]]
      go_enter Try.func42, Try.ntmps42
      go_wp2
      go_ret
      exact ⟨by first | rfl | (simp; done), rfl⟩
    · rw [show decide (0 ≤ m ∧ m ≤ f) = false by simp [h2]]
      have hd : decide (m ≤ f) = false := by simpa using h2
      go_enter Try.func42, Try.ntmps42
      go_wp2
      go_ret
      exact ⟨by first | rfl | (simp; done), rfl⟩
  · rw [show decide (0 ≤ m ∧ m ≤ f) = false by simp [h1]]
    have hd : decide (0 ≤ m) = false := by simpa using h1
    go_enter Try.func42, Try.ntmps42
    go_wp2
    go_ret
    exact ⟨by first | rfl | (simp; done), rfl⟩

def ftR (f : Int) (L : List (List Int)) (s : ByteArray) (m : Int) : List Nat := if askB f L s m then fitM L s f.toNat m.toNat else []

theorem ask_parts {f : Int} {L : List (List Int)} {s : ByteArray} {m : Int} (h : askB f L s m = true) : wiB f L = true ∧ s.size = L.length ∧ (0 ≤ m ∧ m ≤ f) ∧ okB s = true := by
  simp only [askB, Bool.and_eq_true, decide_eq_true_eq] at h
  exact ⟨h.1, h.2.1, h.2.2.1, h.2.2.2⟩

set_option maxHeartbeats 1600000 in
set_option maxRecDepth 20000 in
theorem fittingTo_any (w : World) (f : Int) (ao : Option Addr) (cap : Nat) (L : List (List Int)) (n : Nat) (Hn : Hid (n = L.length)) (hn : n ≤ 1048576) (hL : Hid (∀ i, (row L i).length ≤ 1048576)) (Hc : RowsAt w ao L) (s : ByteArray) (hs : s.size ≤ 1048576) (m : Int) :
    Calls Try.prog 36 #[.int .i64 f, .slice ao n cap, .string s, .int .i64 m] w fun e w' => ∃ v, e = .returned (.tuple #[v, .bool (askB f L s m)]) ∧ w'.ownsRow w.heap.size 52 1 v (ftR f L s m).length (ws (ftR f L s m)) ∧ Below w.heap.size w w' := by
  obtain ⟨i0, hi, hz0, hz1, hz2⟩ := info_parts infoWL
  have HC := Lib.hid Hc
  have Har := Lib.hid (areResults_any ao n cap s w hn hs)
  clear Hc
  cases hg : wiB f L
  · have hB : askB f L s m = false := by simp [askB, hg]
    have hR : ftR f L s m = [] := by simp [ftR, hB]
    rw [hR, hB]
    have Hg := Lib.hid hg
    clear hg hR hB
    go_enter Try.func36, Try.ntmps36
    go_wp2_with fail
    refine (areTests_any f ao cap L n w Hn hn hL HC).mono ?_
    rintro e w' ⟨rfl, rfl⟩
    rw [Hg.out]
    go_wp2_with fail
    go_ret2
    exact ⟨_, rfl, World.ownsRow_nil _ _ _ _, Below.refl _ _⟩
  · have Hg := Lib.hid hg
    cases ha : arB n s
    · have hB : askB f L s m = false := by
        simp only [arB, Hn.out] at ha
        cases hd : decide (s.size = L.length)
        · simp [askB, hd]
        · rw [hd, Bool.true_and] at ha
          simp [askB, ha]
      have hR : ftR f L s m = [] := by simp [ftR, hB]
      rw [hR, hB]
      rw [ha] at Har
      clear hg hR hB ha
      go_enter Try.func36, Try.ntmps36
      go_wp2_with fail
      refine (areTests_any f ao cap L n w Hn hn hL HC).mono ?_
      rintro e w' ⟨rfl, rfl⟩
      rw [Hg.out]
      go_wp2_with fail
      refine Har.out.mono ?_
      rintro e w1 ⟨rfl, hb1⟩
      go_wp2_with fail
      go_ret2
      exact ⟨_, rfl, World.ownsRow_nil _ _ _ _, hb1⟩
    · rw [ha] at Har
      cases hmm : decide (0 ≤ m ∧ m ≤ f)
      · have hB : askB f L s m = false := by simp only [askB, hmm, Bool.false_and, Bool.and_false]
        have hR : ftR f L s m = [] := by simp [ftR, hB]
        rw [hR, hB]
        have Hm := Lib.hid hmm
        clear hg hR hB ha hmm
        go_enter Try.func36, Try.ntmps36
        go_wp2_with fail
        refine (areTests_any f ao cap L n w Hn hn hL HC).mono ?_
        rintro e w' ⟨rfl, rfl⟩
        rw [Hg.out]
        go_wp2_with fail
        refine Har.out.mono ?_
        rintro e w1 ⟨rfl, hb1⟩
        go_wp2_with fail
        refine (canBeBroken_any f m w1).mono ?_
        rintro e w' ⟨rfl, rfl⟩
        rw [Hm.out]
        go_wp2_with fail
        go_ret2
        exact ⟨_, rfl, World.ownsRow_nil _ _ _ _, hb1⟩
      · have hB : askB f L s m = true := by
          simp only [arB, Bool.and_eq_true, decide_eq_true_eq] at ha
          have h1 : decide (s.size = L.length) = true := by simp only [decide_eq_true_eq]; rw [ha.1]; exact Hn.out
          simp only [askB, hg, h1, hmm, ha.2, Bool.and_self]
        have hp := wi_parts hg
        have hmp : 0 ≤ m ∧ m ≤ f := by simpa only [decide_eq_true_eq] using hmm
        obtain ⟨F, rfl⟩ := Int.eq_ofNat_of_zero_le (a := f) (by omega)
        obtain ⟨M, rfl⟩ := Int.eq_ofNat_of_zero_le (a := m) hmp.1
        have hR : ftR (F : Int) L s (M : Int) = fitM L s F M := by simp [ftR, hB]
        rw [hR, hB]
        have Hm := Lib.hid hmm
        have hF10 : F ≤ 10 := by omega
        have hM10 : M ≤ 10 := by omega
        have hn12 : n ≤ 12 := by have := Hn.out; omega
        have HMt := Lib.hid (bws_lt hg)
        have Hlen : Hid (n = (bws L).length) := by show _ = _; rw [bws_length]; exact Hn.out
        obtain ⟨N, hN⟩ : ∃ N, (la F M).length = N := ⟨_, rfl⟩
        have HN : Hid (N = (la F M).length) := hN.symm
        have hNb : N ≤ 11264 := by rw [← hN]; exact la_len hF10 M hM10
        have Hlt := Lib.hid (la_lt hF10 M)
        have Hfit : Hid (fitM L s F M = (idx (fp L s F M) N).map (wa (la F M))) := by show _ = _; unfold fitM fI; rw [hN]
        obtain ⟨RES, hRES⟩ : ∃ q, fitM L s F M = q := ⟨_, rfl⟩
        rw [hRES]
        rw [hRES] at Hfit
        clear hg hR hB ha hmm hp hmp hN hRES
        go_enter Try.func36, Try.ntmps36
        go_wp2_with fail
        refine (areTests_any (F : Int) ao cap L n w Hn hn hL HC).mono ?_
        rintro e w' ⟨rfl, rfl⟩
        rw [Hg.out]
        go_wp2_with fail
        refine Har.out.mono ?_
        rintro e w1 ⟨rfl, hb1⟩
        have Hb1 := Lib.hid hb1
        clear hb1
        go_wp2_with fail
        refine (canBeBroken_any (F : Int) (M : Int) w1).mono ?_
        rintro e w' ⟨rfl, rfl⟩
        rw [Hm.out]
        go_wp2_with fail
        refine (wireListsOf_any ao cap (F : Int) L n w1 Hn Hg (HC.out.kept Hb1.out)).mono ?_
        rintro e w2 ⟨vT, rfl, own2, hb2⟩
        obtain ⟨aT, cT, rfl, hwT⟩ := wl_at own2 Hlen.out
        have HwT := Lib.hid hwT
        have Hb2 := Lib.hid (Hb1.out.trans (hb2.mono Hb1.out.size))
        clear own2 hb2 hwT
        go_wp2_with fail
        refine (listsUpTo_any w2 F M hF10 hM10).mono ?_
        rintro e w3 ⟨vA, rfl, own3, hb3⟩
        rw [← HN.out] at own3
        obtain ⟨aA, cA, rfl, hwA⟩ := wl_at own3 HN.out
        have HwA := Lib.hid hwA
        have HwT3 := Lib.hid (HwT.out.kept hb3)
        have Hb3 := Lib.hid (Hb2.out.trans (hb3.mono Hb2.out.size))
        have hs3 := Hb3.out.size
        clear own3 hb3 hwA
        go_wp2_with fail
        go_loopw [10, 36] (fun v i wr => ∃ (k q : Nat), k ≤ N ∧ i = .int .i64 k ∧ Hid (q = (idx (fp L s F M) k).length) ∧ wr.ownsRow w3.heap.size 52 1 v q (ws ((idx (fp L s F M) k).map (wa (la F M)))) ∧ Below w3.heap.size w3 wr) (fun _ i _ => N - (intOf i).toNat)
        case atStart => exact ⟨0, 0, Nat.zero_le _, rfl, rfl, World.ownsRow_nil _ _ _ _, Below.refl _ _⟩
        case round =>
          obtain ⟨k, q, hk, rfl, HQ, hor, hbel⟩ := hrel
          have hqk : q ≤ k := by rw [HQ.out]; exact idx_len _ k
          by_cases hlt : k < N
          · have hkM : k < (la F M).length := by have := HN.out; omega
            obtain ⟨gA, offA, hao, hcA⟩ : ∃ gA offA, aA = some ⟨gA, offA, none⟩ ∧ w3.cell? ⟨gA, offA + k, none⟩ = some (.int .u16 ((wa (la F M) k : Nat) : Int)) := by
              rcases HwA.out with h | ⟨g, o, h, hc⟩
              · rw [h] at hkM; simp at hkM
              · exact ⟨g, o, h, hc k hkM⟩
            subst hao
            have hcr := cell_old hbel hcA
            have hx := Hlt.out _ (wa_mem _ k hkM)
            have hps := idx_succ (fp L s F M) k
            have hfpk : fp L s F M k = ((rtx (bws L) (wa (la F M) k) n).toList == s.toList) := by unfold fp fit; rw [Hn.out]
            obtain ⟨x, hxx⟩ : ∃ x, wa (la F M) k = x := ⟨_, rfl⟩
            rw [hxx] at hcr hx hfpk
            have Hxx := Lib.hid hxx
            have hsz := hbel.size
            have hk1 : (0 : Int) ≤ k := by omega
            have hk2 : (k : Int) < N := by omega
            have bd : Below wr.heap.size wr (wr.alloc (.cells #[.int .u16 (x : Int)] 52)) := (Below.refl wr.heap.size wr).alloc (Nat.le_refl _) _
            have hcn : (wr.alloc (.cells #[.int .u16 (x : Int)] 52)).cell? ⟨wr.heap.size, 0, none⟩ = some (.int .u16 (x : Int)) := by rw [cell_of_row _ _ _ _ _ _ (heap_alloc_new wr _)]; rfl
            have hs1 : (wr.alloc (.cells #[.int .u16 (x : Int)] 52)).heap.size = wr.heap.size + 1 := by simp
            have Hor := Lib.hid (own_later hor bd)
            have Hbel := Lib.hid (hbel.trans (bd.mono hsz))
            have Hcn := Lib.hid hcn
            have hRS := resultsOf_any aT cT (bws L) n x (wr.alloc (.cells #[.int .u16 (x : Int)] 52)) Hlen hn12 HMt hx (Lib.hid ((HwT3.out.kept hbel).kept bd))
            obtain ⟨TX, hTX⟩ : ∃ TX, rtx (bws L) x n = TX := ⟨_, rfl⟩
            rw [hTX] at hfpk hRS
            simp only [wv] at hRS
            have HRS := Lib.hid hRS
            have Hps := Lib.hid hps
            obtain ⟨V0, hV0⟩ : ∃ V0, (idx (fp L s F M) k).map (wa (la F M)) = V0 := ⟨_, rfl⟩
            rw [hV0] at Hor
            have HV0 := Lib.hid hV0
            clear hor hbel hcA hcn hxx hRS hTX hps hV0 bd
            cases ht : fp L s F M k
            · have hp1 : idx (fp L s F M) (k + 1) = idx (fp L s F M) k := by rw [Hps.out, if_neg (by rw [ht]; simp)]
              have Hp1 := Lib.hid hp1
              rw [ht] at hfpk
              have hte : (TX.toList == s.toList) = false := hfpk.symm
              clear hp1 ht hfpk
              go_wp2_with fail
              refine HRS.out.mono ?_
              rintro e w5 ⟨rfl, hb5⟩
              have Ho5 := Lib.hid (own_later Hor.out hb5)
              have Hb5 := Lib.hid (Hbel.out.trans (hb5.mono (by rw [hs1]; omega)))
              clear hb5
              go_wp2_with fail
              go_roundw
              case rel => exact ⟨k + 1, q, by omega, by go_num, by show q = _; rw [Hp1.out]; exact HQ.out, by rw [Hp1.out, HV0.out]; exact Ho5.out, Hb5.out⟩
              case measure => simp [intOf]; omega
            · have hp1 : idx (fp L s F M) (k + 1) = idx (fp L s F M) k ++ [k] := by rw [Hps.out, if_pos ht]
              have Hp1 := Lib.hid hp1
              rw [ht] at hfpk
              have hte : (TX.toList == s.toList) = true := hfpk.symm
              clear hp1 ht hfpk
              go_wp2_with fail
              refine HRS.out.mono ?_
              rintro e w5 ⟨rfl, hb5⟩
              have hs5 := hb5.size
              rw [hs1] at hs5
              have Hcn5 := Lib.hid (cell_old hb5 Hcn.out)
              have hcn5 := Hcn5.out
              have bd5 : Below w5.heap.size w5 (w5.alloc (.cells #[.int .u16 (x : Int)] 52)) := (Below.refl w5.heap.size w5).alloc (Nat.le_refl _) _
              have Hor7 := Lib.hid (own_later (own_later Hor.out hb5) bd5)
              have Hb7 := Lib.hid ((Hbel.out.trans (hb5.mono (by rw [hs1]; omega))).trans (bd5.mono (by omega)))
              have hszW : (w5.alloc (.cells #[.int .u16 (x : Int)] 52)).heap.size = w5.heap.size + 1 := by simp
              have hck : (w5.alloc (.cells #[.int .u16 (x : Int)] 52)).cell? ⟨w5.heap.size, 0, none⟩ = some (.int .u16 (x : Int)) := by rw [cell_of_row _ _ _ _ _ _ (heap_alloc_new w5 _)]; rfl
              have Hck := Lib.hid hck
              clear bd5 hck hb5 Hor Hbel
              go_wp2_with (at_builtin; refine push_wl _ rfl _ _ 47 rfl w3.heap.size i0 Try.underlying47 hi hz0 hz1 hz2 _ V0 q rfl Hor7.out (by omega) x 1 w5.heap.size rfl Hck.out (by rw [hszW]; omega) ?_)
              intro g9 cap9 w9 own9 hgr9 hat9
              have Ho9 : Hid (w9.ownsRow w3.heap.size 52 1 (.slice (some ⟨g9, 0, none⟩) (q + 1) cap9) (q + 1) (ws ((idx (fp L s F M) (k + 1)).map (wa (la F M))))) := by
                show World.ownsRow _ _ _ _ _ _ _
                rw [Hp1.out, List.map_append]
                simp only [List.map_cons, List.map_nil]
                rw [Hxx.out, HV0.out]
                exact own9
              have Hb9 := Lib.hid (Hb7.out.grown hgr9 (by rw [hszW]; omega) (fun bb hb => (Hor7.out.lt bb hb).1))
              clear own9 hgr9 hat9 Hor7 Hb7
              go_wp2_with fail
              go_roundw
              case rel => exact ⟨k + 1, q + 1, by omega, by go_num, by show q + 1 = _; rw [Hp1.out, List.length_append, ← HQ.out]; rfl, Ho9.out, Hb9.out⟩
              case measure => simp [intOf]; omega
          · obtain rfl : k = N := by omega
            have hql : q = RES.length := by rw [Hfit.out, List.length_map]; exact HQ.out
            rw [← Hfit.out, hql] at hor
            have Hor := Lib.hid (own_base hs3 hor)
            have Hbf := Lib.hid (Hb3.out.trans (hbel.mono hs3))
            clear hor hql
            go_wp2_with fail
            go_ret2
            exact ⟨_, rfl, Hor.out, Hbf.out⟩

end Go.Proofs.Ytoigafjocckepaa
