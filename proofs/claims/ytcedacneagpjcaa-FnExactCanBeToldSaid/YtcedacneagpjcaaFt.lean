/- The first two groupings that tell all wires: the model and the program. -/
import Derived.Test.YtcedacneagpjcaaFtS
namespace Go.Proofs.Ytcedacneagpjcaa
open Go.ChangeShapes Go.WideShapes Go.ChangeAt Go.RowKit
set_option linter.unusedVariables false


theorem specFt_no (w : World) (n : Int) (h : ¬ (1 ≤ n ∧ n ≤ 7)) : Calls Try.prog 16 #[.int .i64 n] w fun e w' => e = .returned (.tuple #[.slice none 0 0, .slice none 0 0, .bool false]) ∧ w = w' := by
  have Hd : Hid (decide (1 ≤ n ∧ n ≤ 7) = false) := by show _ = _; simpa only [decide_eq_false_iff_not] using h
  go_enter Try.func16, Try.ntmps16
  go_wp2_with fail
  refine (cbFew_any n w).mono ?_
  rintro e w' ⟨rfl, rfl⟩
  rw [Hd.out]
  go_wp2_with fail
  go_ret3
  exact ⟨rfl, rfl⟩

theorem implFt_no (w : World) (n : Int) (h : ¬ (1 ≤ n ∧ n ≤ 7)) : Calls Try.prog 17 #[.int .i64 n] w fun e w' => e = .returned (.tuple #[.slice none 0 0, .slice none 0 0, .bool false]) ∧ w = w' := by
  have Hd : Hid (decide (1 ≤ n ∧ n ≤ 7) = false) := by show _ = _; simpa only [decide_eq_false_iff_not] using h
  go_enter Try.func17, Try.ntmps17
  go_wp2_with fail
  refine (canBeListed_any n w).mono ?_
  rintro e w' ⟨rfl, rfl⟩
  rw [Hd.out]
  go_wp2_with fail
  go_ret3
  exact ⟨rfl, rfl⟩

set_option maxRecDepth 20000 in
theorem specFt_yes (w : World) (n : Nat) (h1 : 1 ≤ n) (hn7 : n ≤ 7) (p : Option (List Int × List Int)) (Hp : Hid (p = f2 n)) :
    Calls Try.prog 16 #[.int .i64 (n : Int)] w fun e w' => ∃ v u, e = .returned (.tuple #[v, u, .bool p.isSome]) ∧ w'.ownsRow w.heap.size 3 1 v (o1 p).length (ns (o1 p)) ∧ w'.ownsRow w.heap.size 3 1 u (o2 p).length (ns (o2 p)) ∧ Ap v u ∧ Below w.heap.size w w' := by
  have Hd : Hid (decide (1 ≤ (n : Int) ∧ (n : Int) ≤ 7) = true) := by show _ = _; simp only [decide_eq_true_eq]; omega
  go_enter Try.func16, Try.ntmps16
  go_wp2_with fail
  refine (cbFew_any n w).mono ?_
  rintro e w' ⟨rfl, rfl⟩
  rw [Hd.out]
  go_wp2_with fail
  refine (cbFirst_pos w n h1 hn7 p Hp).mono ?_
  rintro e w1 ⟨v, u, rfl, hv, hu, hap, hb1⟩
  obtain ⟨Z, hZ⟩ : ∃ Z, (o1 p).length = Z := ⟨_, rfl⟩
  obtain ⟨aq, cq, hvq⟩ : ∃ aq cq, v = .slice aq Z cq := by
    rw [hZ] at hv
    rcases hv.2 with ⟨hv, h0⟩ | ⟨g, cap, cur, hv, _⟩
    · exact ⟨none, 0, by rw [hv, h0]⟩
    · exact ⟨_, cap, hv⟩
  have Hv := Lib.hid hv
  have Hu := Lib.hid hu
  have Hap := Lib.hid hap
  clear hv hu hap
  subst hvq
  cases p with
  | none =>
    obtain rfl : Z = 0 := hZ.symm
    clear hZ
    go_wp2_with fail
    go_ret3
    exact ⟨_, _, rfl, World.ownsRow_nil _ _ _ _, World.ownsRow_nil _ _ _ _, Ap.nil _, hb1⟩
  | some y =>
    have hz : 0 < Z := by have := (f2_in Hp.out.symm).1; rw [← hZ]; show 0 < y.1.length; omega
    have hze : ((Z : Int) == 0) = false := by simp; omega
    clear hZ hz
    go_wp2_with fail
    go_ret3
    exact ⟨_, u, rfl, Hv.out, Hu.out, Hap.out, hb1⟩

set_option maxHeartbeats 3200000 in
set_option maxRecDepth 20000 in
theorem implFt_yes (w : World) (n : Nat) (h1 : 1 ≤ n) (hn7 : n ≤ 7) (p : Option (List Int × List Int)) (Hp : Hid (p = f2 n)) :
    Calls Try.prog 17 #[.int .i64 (n : Int)] w fun e w' => ∃ v u, e = .returned (.tuple #[v, u, .bool p.isSome]) ∧ w'.ownsRow w.heap.size 3 1 v (o1 p).length (ns (o1 p)) ∧ w'.ownsRow w.heap.size 3 1 u (o2 p).length (ns (o2 p)) ∧ Ap v u ∧ Below w.heap.size w w' := by
  have Hd : Hid (decide (1 ≤ (n : Int) ∧ (n : Int) ≤ 7) = true) := by show _ = _; simp only [decide_eq_true_eq]; omega
  have hlen := allG_len ⟨n, by omega⟩
  simp only at hlen
  obtain ⟨L, hL⟩ : ∃ L, L = allG n := ⟨_, rfl⟩
  have HL : Hid (∀ i, i < L.length → (row L i).length = n ∧ grB (row L i) = true) := fun i hi => by
    subst hL
    have h := allG_row hi
    exact ⟨h.1, good_of h.2 (by omega) (by omega)⟩
  obtain ⟨N, hN⟩ : ∃ N, N = L.length := ⟨_, rfl⟩
  have HN := Lib.hid hN
  have Hp2 : Hid (p = L.findSome? (tw2 L)) := by show _ = _; rw [Hp.out, hL]; rfl
  have HAll := Lib.hid (groupingsOf_any w n hn7)
  rw [← hL] at HAll
  rw [← hL, ← hN] at hlen
  clear hL hN Hp
  go_enter Try.func17, Try.ntmps17
  go_wp2_with fail
  refine (canBeListed_any n w).mono ?_
  rintro e w' ⟨rfl, rfl⟩
  rw [Hd.out]
  go_wp2_with fail
  refine HAll.out.mono ?_
  rintro e w1 ⟨vC, XC, rfl, hOC, hb1⟩
  obtain ⟨g0, cap0, rfl, hg0⟩ := hOC.outer (by rw [← HN.out]; exact hlen.2)
  rw [← HN.out] at hOC ⊢
  have hs1 := hb1.size
  have HI := Lib.hid hOC
  have Hb1 := Lib.hid hb1
  clear hOC hb1
  go_wp2_with fail
  go_loopw [17] (fun i wr => ∃ (k : Nat), k ≤ N ∧ i = .int .i64 k ∧ Hid ((L.take k).findSome? (tw2 L) = none) ∧ Below w1.heap.size w1 wr) (fun i _ => N - (intOf i).toNat)
  case atStart => exact ⟨0, Nat.zero_le _, rfl, rfl, Below.refl _ _⟩
  case round =>
    obtain ⟨k, hk, rfl, HF, hbel⟩ := hrel
    by_cases hlt : k < N
    · have hsz := hbel.size
      obtain ⟨b1, c1, hx1, hc0, own1⟩ := cell_row HI.out HN.out HL.out k hlt
      have hc1 := cell_old hbel hc0
      have hgdk := HL.out k (by rw [← HN.out]; exact hlt)
      have Hak : Hid (n = (row L k).length) := hgdk.1.symm
      have Hgk : Hid (grB (row L k) = true) := hgdk.2
      have Hfn := Lib.hid (findS_next (f := tw2 L) HF.out (by rw [← HN.out]; exact hlt))
      have Hfa : Hid (∀ y, tw2 L (row L k) = some y → L.findSome? (tw2 L) = some y) := fun y hy => findS_at HF.out (by rw [← HN.out]; exact hlt) hy
      obtain ⟨h, hh⟩ : ∃ h, h = (ptI (row L k) L L.length).head? := ⟨_, rfl⟩
      have hpf := pt_find (row L k) L L.length (Nat.le_refl _)
      rw [List.take_length, ← hh] at hpf
      have Hpf := Lib.hid hpf
      have ownk := own_later own1 hbel
      have HIr := HI.out.later hbel
      have HPo := Lib.hid (firstPartner_pos wr b1 0 c1 (row L k) n Hak Hgk (fun i hi => by rw [Nat.zero_add]; exact own_num ownk Hak.out i hi) w.heap.size g0 cap0 XC L N HN hlen.1 HIr (fun i hi => HL.out i (by rw [← HN.out]; exact hi)) h hh)
      have Ownk := Lib.hid ownk
      have Hbel := Lib.hid hbel
      cases h with
      | none =>
        have Hn2 := Lib.hid (Hfn.out (by unfold tw2; rw [Hpf.out]; rfl))
        clear hx1 hc0 own1 hgdk hh hpf ownk HIr hbel
        go_wp2_with fail
        refine HPo.out.mono ?_
        rintro e w2 ⟨rfl, hb2⟩
        have Hb2 := Lib.hid (Hbel.out.trans (hb2.mono hsz))
        clear hb2 HPo
        go_wp2_with fail
        go_roundw
        case rel => exact ⟨k + 1, by omega, by go_num, Hn2, Hb2.out⟩
        case measure => simp [intOf]; omega
      | some i =>
        have hi : i < L.length := ptI_lt (List.mem_of_mem_head? (by rw [← hh]; rfl))
        have hpe : p = some (row L k, row L i) := by rw [Hp2.out]; exact Hfa.out _ (by unfold tw2; rw [Hpf.out]; rfl)
        subst hpe
        obtain ⟨b2, c2, hx2, _, own2⟩ := cell_row HI.out HN.out HL.out i (by rw [HN.out]; exact hi)
        have Haq : Hid (n = (row L i).length) := (HL.out i hi).1.symm
        have hxu : fpV XC (some i) = .slice (some ⟨b2, 0, none⟩) n c2 := by show XC.getD i (.bool false) = _; rw [List.getD_eq_getElem?_getD, hx2]; rfl
        rw [hxu] at HPo
        have Own2 := Lib.hid own2
        clear hx1 hc0 own1 hgdk hh hpf ownk HIr hbel hx2 own2 hxu Hp2
        go_wp2_with fail
        refine HPo.out.mono ?_
        rintro e w2 ⟨rfl, hb2⟩
        have Hb2 := Lib.hid (Hbel.out.trans (hb2.mono hsz))
        have Ownk2 := Lib.hid (own_later Ownk.out hb2)
        have Hcl := Lib.hid (clone_any w.heap.size _ (row L i) n w2 Haq (by omega) (own_later Own2.out Hb2.out))
        clear hb2 HPo Ownk
        go_wp2_with fail
        refine Hcl.out.mono ?_
        rintro e w3 ⟨v3, rfl, own3, hb3⟩
        have hs2 := Hb2.out.size
        have Hk : Hid (w3.ownsRow w.heap.size 3 1 (.slice (some ⟨b1, 0, none⟩) n c1) (o1 (some (row L k, row L i))).length (ns (o1 (some (row L k, row L i))))) := by show World.ownsRow _ _ _ _ _ (row L k).length (ns (row L k)); rw [← Hak.out]; exact own_later Ownk2.out hb3
        have Hq : Hid (w3.ownsRow w.heap.size 3 1 v3 (o2 (some (row L k, row L i))).length (ns (o2 (some (row L k, row L i))))) := by show World.ownsRow _ _ _ _ _ (row L i).length (ns (row L i)); rw [← Haq.out]; exact own_base (by omega) own3
        have HAp : Hid (Ap (.slice (some ⟨b1, 0, none⟩) n c1) v3) := fun b hb hb' => by
          have h3 := (Ownk2.out.lt b hb).2
          have h4 := (own3.lt b hb').1
          omega
        have Hw3 := Lib.hid (Hb1.out.trans ((Hb2.out.trans (hb3.mono hs2)).mono hs1))
        clear own3 hb3 Hcl Ownk2
        go_wp2_with fail
        go_ret3
        exact ⟨_, _, rfl, Hk.out, Hq.out, HAp.out, Hw3.out⟩
    · obtain rfl : k = N := by omega
      have hpe : p = none := by
        have h := HF.out
        rw [HN.out, List.take_length] at h
        rw [Hp2.out]; exact h
      subst hpe
      have Hbf := Lib.hid (Hb1.out.trans (hbel.mono hs1))
      clear hbel Hp2
      go_wp2_with fail
      go_ret3
      exact ⟨_, _, rfl, World.ownsRow_nil _ _ _ _, World.ownsRow_nil _ _ _ _, Ap.nil _, Hbf.out⟩

theorem specFt_any (w : World) (n : Int) :
    Calls Try.prog 16 #[.int .i64 n] w fun e w' => ∃ v u, e = .returned (.tuple #[v, u, .bool (ftO n)]) ∧ w'.ownsRow w.heap.size 3 1 v (ftA n).length (ns (ftA n)) ∧ w'.ownsRow w.heap.size 3 1 u (ftB n).length (ns (ftB n)) ∧ Ap v u ∧ Below w.heap.size w w' := by
  by_cases h : 1 ≤ n ∧ n ≤ 7
  · obtain ⟨q, rfl⟩ := Int.eq_ofNat_of_zero_le (show 0 ≤ n by omega)
    have e : fnR (q : Int) = f2 q := by unfold fnR; rw [if_pos h]; rfl
    unfold ftO ftA ftB
    rw [e]
    exact specFt_yes w q (by omega) (by omega) (f2 q) rfl
  · have e : fnR n = none := by unfold fnR; rw [if_neg h]
    unfold ftO ftA ftB
    rw [e]
    refine (specFt_no w n h).mono ?_
    rintro e w' ⟨rfl, rfl⟩
    exact ⟨_, _, rfl, World.ownsRow_nil _ _ _ _, World.ownsRow_nil _ _ _ _, Ap.nil _, Below.refl _ _⟩

theorem implFt_any (w : World) (n : Int) :
    Calls Try.prog 17 #[.int .i64 n] w fun e w' => ∃ v u, e = .returned (.tuple #[v, u, .bool (ftO n)]) ∧ w'.ownsRow w.heap.size 3 1 v (ftA n).length (ns (ftA n)) ∧ w'.ownsRow w.heap.size 3 1 u (ftB n).length (ns (ftB n)) ∧ Ap v u ∧ Below w.heap.size w w' := by
  by_cases h : 1 ≤ n ∧ n ≤ 7
  · obtain ⟨q, rfl⟩ := Int.eq_ofNat_of_zero_le (show 0 ≤ n by omega)
    have e : fnR (q : Int) = f2 q := by unfold fnR; rw [if_pos h]; rfl
    unfold ftO ftA ftB
    rw [e]
    exact implFt_yes w q (by omega) (by omega) (f2 q) rfl
  · have e : fnR n = none := by unfold fnR; rw [if_neg h]
    unfold ftO ftA ftB
    rw [e]
    refine (implFt_no w n h).mono ?_
    rintro e w' ⟨rfl, rfl⟩
    exact ⟨_, _, rfl, World.ownsRow_nil _ _ _ _, World.ownsRow_nil _ _ _ _, Ap.nil _, Below.refl _ _⟩

def fewB (n : Int) : Bool := decide (1 ≤ n ∧ n ≤ 7)

theorem specCb_any (w : World) (n : Int) : Calls Try.prog 14 #[.int .i64 n] w fun e w' => e = .returned (.tuple #[.bool (ftO n), .bool (fewB n)]) ∧ Below w.heap.size w w' := by
  by_cases h : 1 ≤ n ∧ n ≤ 7
  · obtain ⟨q, rfl⟩ := Int.eq_ofNat_of_zero_le (show 0 ≤ n by omega)
    have e : fnR (q : Int) = f2 q := by unfold fnR; rw [if_pos h]; rfl
    have hB : fewB (q : Int) = true := by unfold fewB; simpa only [decide_eq_true_eq] using h
    have Hd : Hid (decide (1 ≤ (q : Int) ∧ (q : Int) ≤ 7) = true) := hB
    obtain ⟨p, hp⟩ : ∃ p, p = f2 q := ⟨_, rfl⟩
    have hO : ftO (q : Int) = p.isSome := by unfold ftO; rw [e, hp]
    rw [hB, hO]
    have Hp := Lib.hid hp
    have hq1 : 1 ≤ q := by omega
    have hq7 : q ≤ 7 := by omega
    clear e hB hO hp h
    go_enter Try.func14, Try.ntmps14
    go_wp2_with fail
    refine (cbFew_any q w).mono ?_
    rintro e w' ⟨rfl, rfl⟩
    rw [Hd.out]
    go_wp2_with fail
    refine (cbFirst_pos w q hq1 hq7 p Hp).mono ?_
    rintro e w1 ⟨v, u, rfl, hv, _, _, hb1⟩
    obtain ⟨Z, hZ⟩ : ∃ Z, (o1 p).length = Z := ⟨_, rfl⟩
    obtain ⟨aq, cq, hvq⟩ : ∃ aq cq, v = .slice aq Z cq := by
      rw [hZ] at hv
      rcases hv.2 with ⟨hv, h0⟩ | ⟨g, cap, cur, hv, _⟩
      · exact ⟨none, 0, by rw [hv, h0]⟩
      · exact ⟨_, cap, hv⟩
    clear hv
    subst hvq
    cases p with
    | none =>
      obtain rfl : Z = 0 := hZ.symm
      clear hZ
      go_wp2_with fail
      go_ret2
      exact ⟨rfl, hb1⟩
    | some y =>
      have hz : 0 < Z := by have := (f2_in Hp.out.symm).1; rw [← hZ]; show 0 < y.1.length; omega
      have hze : decide ((0 : Int) < (Z : Int)) = true := by simp; omega
      have Hze := Lib.hid hze
      have hz3 : (Z : Int) > 0 := by omega
      clear hZ hz hze
      go_wp2_with fail
      go_ret2
      exact ⟨by first | rfl | (simp; done) | (simp; omega), hb1⟩
  · have e : fnR n = none := by unfold fnR; rw [if_neg h]
    have hB : fewB n = false := by unfold fewB; simpa only [decide_eq_false_iff_not] using h
    have Hd : Hid (decide (1 ≤ n ∧ n ≤ 7) = false) := hB
    have hO : ftO n = false := by unfold ftO; rw [e]; rfl
    rw [hB, hO]
    clear e hB hO h
    go_enter Try.func14, Try.ntmps14
    go_wp2_with fail
    refine (cbFew_any n w).mono ?_
    rintro e w' ⟨rfl, rfl⟩
    rw [Hd.out]
    go_wp2_with fail
    go_ret2
    exact ⟨rfl, Below.refl _ _⟩

theorem implCb_any (w : World) (n : Int) : Calls Try.prog 15 #[.int .i64 n] w fun e w' => e = .returned (.tuple #[.bool (ftO n), .bool (fewB n)]) ∧ Below w.heap.size w w' := by
  go_enter Try.func15, Try.ntmps15
  go_wp2_with fail
  refine (implFt_any w n).mono ?_
  rintro e w1 ⟨v, u, rfl, _, _, _, hb1⟩
  go_wp2_with fail
  refine (canBeListed_any n w1).mono ?_
  rintro e w' ⟨rfl, rfl⟩
  rw [show decide (1 ≤ n ∧ n ≤ 7) = fewB n from rfl]
  go_wp2_with fail
  go_ret2
  exact ⟨rfl, hb1⟩

end Go.Proofs.Ytcedacneagpjcaa
