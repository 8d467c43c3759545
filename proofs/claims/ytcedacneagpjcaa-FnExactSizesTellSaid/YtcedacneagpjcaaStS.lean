/- What tells all wires by sizes: the model. -/
import Derived.Test.YtcedacneagpjcaaOf
import Derived.Test.YtcedacneagpjcaaSq
import Derived.Test.YtcedacneagpjcaaSzS
namespace Go.Proofs.Ytcedacneagpjcaa
open Go.ChangeShapes Go.WideShapes Go.ChangeAt Go.RowKit
set_option linter.unusedVariables false


theorem specStl_no1 (w : World) (W : Int) (ao : Option Addr) (ka : Nat) (l : List Int) (n : Nat) (Hn : Hid (n = l.length)) (hn : n ≤ 1048576) (hc : NumsAt w ao l) (bo : Option Addr) (kb : Nat) (m : List Int) (k : Nat) (Hk : Hid (k = m.length)) (hk : k ≤ 1048576) (hd : NumsAt w bo m) (Hf : Hid (decide (1 ≤ W ∧ W ≤ 7) = false)) :
    Calls Try.prog 20 #[.int .i64 W, .slice ao n ka, .slice bo k kb] w fun e w' => e = .returned (.tuple #[.bool false, .bool false]) ∧ Below w.heap.size w w' := by
  go_enter Try.func20, Try.ntmps20
  go_wp2_with fail
  refine (cbFew_any W w).mono ?_
  rintro e w' ⟨rfl, rfl⟩
  rw [Hf.out]
  go_wp2_with fail
  go_ret2
  exact ⟨rfl, Below.refl _ _⟩

theorem specStl_no2 (w : World) (W : Int) (ao : Option Addr) (ka : Nat) (l : List Int) (n : Nat) (Hn : Hid (n = l.length)) (hn : n ≤ 1048576) (hc : NumsAt w ao l) (bo : Option Addr) (kb : Nat) (m : List Int) (k : Nat) (Hk : Hid (k = m.length)) (hk : k ≤ 1048576) (hd : NumsAt w bo m) (Hf : Hid (decide (1 ≤ W ∧ W ≤ 7) = true)) (Ha : Hid (ofB W l = false)) :
    Calls Try.prog 20 #[.int .i64 W, .slice ao n ka, .slice bo k kb] w fun e w' => e = .returned (.tuple #[.bool false, .bool false]) ∧ Below w.heap.size w w' := by
  have Hc := Lib.hid hc
  have Hd := Lib.hid hd
  clear hc hd
  go_enter Try.func20, Try.ntmps20
  go_wp2_with fail
  refine (cbFew_any W w).mono ?_
  rintro e w' ⟨rfl, rfl⟩
  rw [Hf.out]
  go_wp2_with fail
  refine (cbOf_any W ao ka l n w Hn hn Hc.out).mono ?_
  rintro e w' ⟨rfl, rfl⟩
  rw [Ha.out]
  go_wp2_with fail
  go_ret2
  exact ⟨rfl, Below.refl _ _⟩

theorem specStl_no3 (w : World) (W : Int) (ao : Option Addr) (ka : Nat) (l : List Int) (n : Nat) (Hn : Hid (n = l.length)) (hn : n ≤ 1048576) (hc : NumsAt w ao l) (bo : Option Addr) (kb : Nat) (m : List Int) (k : Nat) (Hk : Hid (k = m.length)) (hk : k ≤ 1048576) (hd : NumsAt w bo m) (Hf : Hid (decide (1 ≤ W ∧ W ≤ 7) = true)) (Ha : Hid (ofB W l = true)) (Hm : Hid (ofB W m = false)) :
    Calls Try.prog 20 #[.int .i64 W, .slice ao n ka, .slice bo k kb] w fun e w' => e = .returned (.tuple #[.bool false, .bool false]) ∧ Below w.heap.size w w' := by
  have Hc := Lib.hid hc
  have Hd := Lib.hid hd
  clear hc hd
  go_enter Try.func20, Try.ntmps20
  go_wp2_with fail
  refine (cbFew_any W w).mono ?_
  rintro e w' ⟨rfl, rfl⟩
  rw [Hf.out]
  go_wp2_with fail
  refine (cbOf_any W ao ka l n w Hn hn Hc.out).mono ?_
  rintro e w' ⟨rfl, rfl⟩
  rw [Ha.out]
  go_wp2_with fail
  refine (cbOf_any W bo kb m k w Hk hk Hd.out).mono ?_
  rintro e w' ⟨rfl, rfl⟩
  rw [Hm.out]
  go_wp2_with fail
  go_ret2
  exact ⟨rfl, Below.refl _ _⟩

set_option maxHeartbeats 1600000 in
set_option maxRecDepth 20000 in
theorem specStl_yes (w : World) (W : Nat) (ao : Option Addr) (ka : Nat) (l : List Int) (n : Nat) (Hn : Hid (n = l.length)) (hn : n ≤ 1048576) (hc : NumsAt w ao l) (bo : Option Addr) (kb : Nat) (m : List Int) (k : Nat) (Hk : Hid (k = m.length)) (hk : k ≤ 1048576) (hd : NumsAt w bo m)
    (Hf : Hid (decide (1 ≤ (W : Int) ∧ (W : Int) ≤ 7) = true)) (Ha : Hid (ofB (W : Int) l = true)) (Hm : Hid (ofB (W : Int) m = true)) (r : Bool) (Hr : Hid (r = stT W l m)) :
    Calls Try.prog 20 #[.int .i64 (W : Int), .slice ao n ka, .slice bo k kb] w fun e w' => e = .returned (.tuple #[.bool r, .bool true]) ∧ Below w.heap.size w w' := by
  have hW := of_decide_eq_true Hf.out
  have hW1 : 1 ≤ W := by omega
  have hW7 : W ≤ 7 := by omega
  obtain ⟨hks, hfl, hfg⟩ := of_parts Ha.out hW1 (by omega)
  have hlen := allG_len ⟨W, by omega⟩
  simp only at hlen
  have Hks := Lib.hid hks
  obtain ⟨FA, hFA⟩ : ∃ FA, FA = fbL l n := ⟨_, rfl⟩
  have hFA2 : fbL l l.length = FA := by rw [hFA, ← Hn.out]
  rw [hFA2] at hfl hfg
  have Hfl : Hid (W = FA.length) := hfl.symm
  have Hfg := Lib.hid hfg
  have HFR : Hid (fbR l = FA) := by show _ = _; unfold fbR; rw [hks, if_pos rfl, hFA2]
  have HFA := Lib.hid hFA
  obtain ⟨L, hL⟩ : ∃ L, L = allG W := ⟨_, rfl⟩
  have HLr : Hid (∀ i, i < L.length → (row L i).length = W ∧ grB (row L i) = true) := fun i hi => by
    subst hL
    have h := allG_row hi
    exact ⟨h.1, good_of h.2 (by omega) (by omega)⟩
  have HL := Lib.hid hL
  obtain ⟨P, hP⟩ : ∃ P, P = ptI FA (allG W) (allG W).length := ⟨_, rfl⟩
  have HP := Lib.hid hP
  have HPL : Hid (∀ i, i ∈ P → i < L.length) := fun i hi => by rw [hP, ← hL] at hi; exact ptI_lt hi
  obtain ⟨f, hf⟩ : ∃ f : Nat → Bool, f = fun i => szS (gl (row L i) W) == m := ⟨_, rfl⟩
  have Hff : Hid (∀ i, f i = (szS (gl (row L i) W) == m)) := fun i => by rw [hf]
  have HR : Hid (r = P.any f) := by show _ = _; rw [Hr.out, stT, hFA2, hf, hL, hP]
  have hPl : P.length ≤ 1000 := by rw [hP]; exact Nat.le_trans (ptI_len _ _ _) hlen.1
  have HPl := Lib.hid hPl
  have Hlen := Lib.hid hlen
  have Hc := Lib.hid hc
  have Hd := Lib.hid hd
  have HW7 := Lib.hid hW7
  clear hW hks hfl hfg hFA hFA2 hL hP hf hPl hlen hc hd Hr
  go_enter Try.func20, Try.ntmps20
  go_wp2_with fail
  refine (cbFew_any (W : Int) w).mono ?_
  rintro e w' ⟨rfl, rfl⟩
  rw [Hf.out]
  go_wp2_with fail
  refine (cbOf_any (W : Int) ao ka l n w Hn hn Hc.out).mono ?_
  rintro e w' ⟨rfl, rfl⟩
  rw [Ha.out]
  go_wp2_with fail
  refine (cbOf_any (W : Int) bo kb m k w Hk hk Hd.out).mono ?_
  rintro e w' ⟨rfl, rfl⟩
  rw [Hm.out]
  go_wp2_with fail
  refine (specFb_any w ao ka l n Hn hn Hc.out).mono ?_
  rintro e w1 ⟨v1, rfl, hO1, hb1⟩
  rw [HFR.out, ← Hfl.out] at hO1
  rw [Hks.out]
  obtain ⟨b, cb, rfl, _⟩ := own_pos hO1 (by omega)
  have hs1 := hb1.size
  have HPa := Lib.hid (cbPartners_pos w1 b 0 cb FA W Hfl Hfg.out HW7.out (fun i hi => by rw [Nat.zero_add]; exact own_num hO1 Hfl.out i hi))
  have Hb1 := Lib.hid hb1
  clear hO1 hb1
  go_wp2_with fail
  refine HPa.out.mono ?_
  rintro e w2 ⟨v, vC, XC, rfl, hOC, hO, hb2⟩
  rw [← HP.out] at hO
  rw [← HL.out] at hOC
  have Hb2 := Lib.hid (Hb1.out.trans (hb2.mono hs1))
  clear hb2 HPa
  obtain ⟨Z, hZ⟩ : ∃ Z, P.length = Z := ⟨_, rfl⟩
  rw [hZ] at hO
  obtain ⟨aq, cq, rfl⟩ : ∃ aq cq, v = .slice aq Z cq := by
    rcases hO.2 with ⟨hv, h0⟩ | ⟨g, cap, cur, hv, _⟩
    · exact ⟨none, 0, by rw [hv, h0]⟩
    · exact ⟨_, cap, hv⟩
  have HZ := Lib.hid hZ
  have hZ9 : Z ≤ 1000 := by rw [← hZ]; exact HPl.out
  have HO := Lib.hid hO
  have HOC := Lib.hid hOC
  have hs9 := Hb2.out.size
  clear hZ hO hOC
  go_wp2_with fail
  go_loopw [35] (fun i wr => ∃ q : Nat, q ≤ Z ∧ i = .int .i64 q ∧ Hid ((P.take q).any f = false) ∧ Below w2.heap.size w2 wr) (fun i _ => Z - (intOf i).toNat)
  case atStart => exact ⟨0, Nat.zero_le _, rfl, rfl, Below.refl _ _⟩
  case round =>
    obtain ⟨q, hq, rfl, HF, hbel⟩ := hrel
    by_cases hlt : q < Z
    · obtain ⟨i, hi⟩ : ∃ i, P[q]? = some i := ⟨P[q]'(by rw [HZ.out]; exact hlt), List.getElem?_eq_getElem _⟩
      have hiL := HPL.out i (List.mem_of_getElem? hi)
      obtain ⟨g, cg, hv, _⟩ := own_pos HO.out (by omega)
      simp only [Value.slice.injEq, true_and] at hv
      obtain ⟨hv1, hv2⟩ := hv
      subst hv1
      obtain ⟨g0, cap0, hvC, _⟩ := HOC.out.outer (by omega)
      have hOC2 := HOC.out
      rw [hvC] at hOC2
      obtain ⟨a1, c1, hx1, _, own1⟩ := hOC2.cellOf rfl i hiL
      have hc0 := ptX_cell HO.out HZ.out.symm q i hi
      rw [List.getD_eq_getElem?_getD, hx1, Option.getD_some] at hc0
      have hgd := HLr.out i hiL
      rw [hgd.1] at hc0 own1
      have hc1 := cell_old hbel hc0
      have hsz := hbel.size
      have hfi := Hff.out i
      have Hrl : Hid (W = (row L i).length) := hgd.1.symm
      have own1b := own_later own1 hbel
      obtain ⟨ao1, k1, hae, hna⟩ := nums_shape own1b Hrl.out
      simp only [Value.slice.injEq, true_and] at hae
      obtain ⟨hae1, hae2⟩ := hae
      subst hae1
      subst hae2
      have HSz := Lib.hid (cbSizes_any a1 c1 (row L i) W wr Hrl hgd.2 hna)
      have hgs := gl_some hgd.2
      rw [hgd.1] at hgs
      have hgl : (szS (gl (row L i) W)).length = (gl (row L i) W).length := by unfold szS; rw [srtD_length, szL_length _ _ (Nat.le_refl _)]
      obtain ⟨SZ, hSZ⟩ : ∃ SZ, szS (gl (row L i) W) = SZ := ⟨_, rfl⟩
      obtain ⟨G, hG⟩ : ∃ G, (gl (row L i) W).length = G := ⟨_, rfl⟩
      rw [hSZ, hG] at HSz hgl
      rw [hSZ] at hfi
      rw [hG] at hgs
      have HGl : Hid (G = SZ.length) := hgl.symm
      have Hfi := Lib.hid hfi
      have Hi := Lib.hid hi
      have Hwb := Lib.hid (Hb2.out.trans (hbel.mono hs9))
      have Hbel := Lib.hid hbel
      have hG12 := hgs.2
      have hG0 := hgs.1
      clear hgs hgl hfi hi hbel own1 own1b hna hgd hOC2 hx1 hc0 hSZ hG hiL hvC hv2
      go_wp2_with fail
      refine HSz.out.mono ?_
      rintro e w6 ⟨v6, rfl, own6, hb6⟩
      obtain ⟨ao6, c6, rfl, hna6⟩ := nums_shape own6 HGl.out
      have Hw6 := Lib.hid (Hwb.out.trans (hb6.mono Hwb.out.size))
      have Hbel6 := Lib.hid (Hbel.out.trans (hb6.mono hsz))
      have HEq := Lib.hid (l1Same_any ao6 bo c6 kb SZ m G k w6 HGl Hk (by omega) hna6 (nums_old Hw6.out Hd.out))
      clear own6 hb6 hna6 HSz Hwb Hbel
      go_wp2_with fail
      refine HEq.out.mono ?_
      rintro e w7 ⟨rfl, hb7⟩
      have Hw7 := Lib.hid (Hw6.out.trans (hb7.mono Hw6.out.size))
      have Hbel7 := Lib.hid (Hbel6.out.trans (hb7.mono Hbel6.out.size))
      clear hb7 HEq
      cases heq : (SZ == m)
      · have Hn2 := Lib.hid (any_next HF.out Hi.out (by rw [Hfi.out]; exact heq))
        clear heq
        go_wp2_with fail
        go_roundw
        case rel => exact ⟨q + 1, by omega, by go_num, Hn2, Hbel7.out⟩
        case measure => simp [intOf]; omega
      · have hr : r = true := by rw [HR.out]; exact any_at Hi.out (by rw [Hfi.out]; exact heq)
        subst hr
        clear heq HR
        go_wp2_with fail
        go_ret2
        exact ⟨rfl, Hw7.out⟩
    · obtain rfl : q = Z := by omega
      have hr : r = false := by
        have h := HF.out
        rw [← HZ.out, List.take_length] at h
        rw [HR.out]; exact h
      subst hr
      have Hbf := Lib.hid (Hb2.out.trans (hbel.mono hs9))
      clear hbel HR
      go_wp2_with fail
      go_ret2
      exact ⟨rfl, Hbf.out⟩

theorem specStl_any (w : World) (W : Int) (ao : Option Addr) (ka : Nat) (l : List Int) (n : Nat) (Hn : Hid (n = l.length)) (hn : n ≤ 1048576) (hc : NumsAt w ao l) (bo : Option Addr) (kb : Nat) (m : List Int) (k : Nat) (Hk : Hid (k = m.length)) (hk : k ≤ 1048576) (hd : NumsAt w bo m) :
    Calls Try.prog 20 #[.int .i64 W, .slice ao n ka, .slice bo k kb] w fun e w' => e = .returned (.tuple #[.bool (stR W l m), .bool (stOk W l m)]) ∧ Below w.heap.size w w' := by
  cases hf : decide (1 ≤ W ∧ W ≤ 7)
  · rw [show stOk W l m = false by simp only [stOk, hf, Bool.false_and], show stR W l m = false by simp only [stR, stOk, hf, Bool.false_and]]
    exact specStl_no1 w W ao ka l n Hn hn hc bo kb m k Hk hk hd hf
  · cases ha : ofB W l
    · rw [show stOk W l m = false by simp only [stOk, ha, Bool.false_and, Bool.and_false], show stR W l m = false by simp only [stR, stOk, ha, Bool.false_and, Bool.and_false]]
      exact specStl_no2 w W ao ka l n Hn hn hc bo kb m k Hk hk hd hf ha
    · cases hm : ofB W m
      · rw [show stOk W l m = false by simp only [stOk, hm, Bool.and_false], show stR W l m = false by simp only [stR, stOk, hm, Bool.false_and, Bool.and_false]]
        exact specStl_no3 w W ao ka l n Hn hn hc bo kb m k Hk hk hd hf ha hm
      · have hW := of_decide_eq_true hf
        obtain ⟨q, rfl⟩ := Int.eq_ofNat_of_zero_le (show 0 ≤ W by omega)
        have hok : stOk (q : Int) l m = true := by simp only [stOk, hf, ha, hm, Bool.and_true]
        have hR : stR (q : Int) l m = stT q l m := by simp only [stR, hok, Bool.true_and]; rfl
        rw [hR, hok]
        exact specStl_yes w q ao ka l n Hn hn hc bo kb m k Hk hk hd hf ha hm _ rfl

end Go.Proofs.Ytcedacneagpjcaa
