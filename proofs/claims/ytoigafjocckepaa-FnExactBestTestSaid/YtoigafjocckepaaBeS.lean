/- The best test: the model. -/
import Derived.Test.YtoigafjocckepaaBe0
import Derived.OwnWalk
namespace Go.Proofs.Ytoigafjocckepaa
open Go.ChangeShapes Go.WideShapes Go.ChangeAt Go.RowKit
set_option linter.unusedVariables false


theorem l1Most_any (x y : Int) (w : World) : Calls Try.prog 52 #[.int .i64 x, .int .i64 y] w fun e w' => e = .returned (.int .i64 (max x y)) ∧ w = w' := by
  by_cases h : x > y
  · rw [show max x y = x by omega]
    go_enter Try.func52, Try.ntmps52
    go_wp2_with fail
    go_ret
    exact ⟨rfl, rfl⟩
  · rw [show max x y = y by omega]
    go_enter Try.func52, Try.ntmps52
    go_wp2_with fail
    go_ret
    exact ⟨rfl, rfl⟩
def iM (M : List Nat) : List Int := M.map fun (x : Nat) => (x : Int)
theorem iM_len (M : List Nat) : (iM M).length = M.length := by simp [iM]
theorem iM_at (M : List Nat) (k : Nat) (h : k < M.length) : na (iM M) k = ((wa M k : Nat) : Int) := by simp [na, iM, wa, List.getD_eq_getElem?_getD, h]
theorem iM_take (M : List Nat) (k : Nat) (h : k < M.length) : iM (M.take (k + 1)) = iM (M.take k) ++ [((wa M k : Nat) : Int)] := by
  unfold iM
  rw [List.take_succ_eq_append_getElem h, List.map_append, wa_get M k h]; rfl
def bv (X : List Value) (b : Nat) : Value := if b = 0 then .slice none 0 0 else X.getD b (.bool false)

set_option maxHeartbeats 3200000 in
set_option maxRecDepth 20000 in
theorem specBt_any (w : World) (f : Int) (ao : Option Addr) (cap : Nat) (L : List (List Int)) (n : Nat) (Hn : Hid (n = L.length)) (hn : n ≤ 1048576) (hL : Hid (∀ i, (row L i).length ≤ 1048576)) (Hc : RowsAt w ao L) (s : ByteArray) (hs : s.size ≤ 1048576) (m : Int) :
    Calls Try.prog 30 #[.int .i64 f, .slice ao n cap, .string s, .int .i64 m] w fun e w' => ∃ v, e = .returned (.tuple #[v, .int .i64 (btN f L s m), .bool (swB f L s m)]) ∧ w'.ownsRow w.heap.size 3 1 v (btR f L s m).length (ns (btR f L s m)) ∧ Below w.heap.size w w' := by
  obtain ⟨i3, hi3, hz30, hz31, hz32⟩ := info_parts info3
  have HC := Lib.hid Hc
  have Hask := Lib.hid (wiAsked_any f ao cap L n s m w Hn hn hL HC hs)
  clear Hc
  cases hg : askB f L s m
  · have hB : swB f L s m = false := by simp [swB, hg]
    have hR : btR f L s m = [] := by simp [btR, hB]
    have hN : btN f L s m = 0 := by simp [btN, hB]
    rw [hR, hB, hN]
    rw [hg] at Hask
    clear hg hR hB hN
    go_enter Try.func30, Try.ntmps30
    go_wp2_with fail
    refine Hask.out.mono ?_
    rintro e w1 ⟨rfl, hb1⟩
    go_wp2_with fail
    go_ret3
    exact ⟨_, rfl, World.ownsRow_nil _ _ _ _, hb1⟩
  · have hp := ask_parts hg
    have hw := wi_parts hp.1
    rw [hg] at Hask
    have hft := ftR_fitL hg
    obtain ⟨F, rfl⟩ := Int.eq_ofNat_of_zero_le (a := f) (by omega)
    obtain ⟨M0, rfl⟩ := Int.eq_ofNat_of_zero_le (a := m) hp.2.2.1.1
    have Hg := Lib.hid hp.1
    have hF : F ≤ 10 := by omega
    have hF1 : 1 ≤ F := by omega
    have hM : M0 ≤ 10 := by omega
    simp only [Int.toNat_natCast] at hft
    have hWF := fun W h => wiFit_any W ao cap L n s F M0 Hn Hg h hF hM
    have hKr := fitL_ris L s M0 hF
    obtain ⟨K, hK0⟩ : ∃ q, fitL L s F M0 = q := ⟨_, rfl⟩
    rw [hK0] at hft hKr
    simp only [hK0] at hWF
    have HWF := Lib.hid hWF
    have HKr := Lib.hid hKr
    obtain ⟨z, hz⟩ : ∃ z, K.length = z := ⟨_, rfl⟩
    have Hz := Lib.hid hz
    have hzl : (ftR (F : Int) L s (M0 : Int)).length = z := by rw [hft, List.length_map, hz]
    have hbl := ftR_len (F : Int) L s (M0 : Int)
    rw [hzl] at hbl
    have hsB : swB (F : Int) L s (M0 : Int) = !(z == 0) := by simp only [swB, hg, hzl, Bool.true_and]
    have hRF : swB (F : Int) L s (M0 : Int) = true → btR (F : Int) L s (M0 : Int) = row (wL F F) (bsI F (K.map bw)) := fun h => by simp [btR, h, hft]
    have hNF : swB (F : Int) L s (M0 : Int) = true → btN (F : Int) L s (M0 : Int) = ((bsN F (K.map bw) : Nat) : Int) := fun h => by simp [btN, h, hft]
    have hRF0 : swB (F : Int) L s (M0 : Int) = false → btR (F : Int) L s (M0 : Int) = [] ∧ btN (F : Int) L s (M0 : Int) = 0 := fun h => by simp [btR, btN, h]
    obtain ⟨B, hBq⟩ : ∃ q, swB (F : Int) L s (M0 : Int) = q := ⟨_, rfl⟩
    obtain ⟨RR, hRRq⟩ : ∃ q, btR (F : Int) L s (M0 : Int) = q := ⟨_, rfl⟩
    obtain ⟨NN, hNNq⟩ : ∃ q, btN (F : Int) L s (M0 : Int) = q := ⟨_, rfl⟩
    rw [hBq] at hsB hRF hNF hRF0
    rw [hRRq] at hRF hRF0
    rw [hNNq] at hNF hRF0
    rw [hBq, hRRq, hNNq]
    have HsB := Lib.hid hsB
    have HRF := Lib.hid hRF
    have HNF := Lib.hid hNF
    have HRF0 := Lib.hid hRF0
    clear hg hp hw hft hK0 hWF hKr hz hzl hsB hRF hNF hRF0 hBq hRRq hNNq
    go_enter Try.func30, Try.ntmps30
    go_wp2_with fail
    refine Hask.out.mono ?_
    rintro e w1 ⟨rfl, hb1⟩
    have Hb1 := Lib.hid hb1
    clear hb1
    go_wp2_with fail
    refine (HWF.out w1 (HC.out.kept Hb1.out)).mono ?_
    rintro e w2 ⟨v, X, rfl, hO, hb2⟩
    have Hb2 := Lib.hid (Hb1.out.trans (hb2.mono Hb1.out.size))
    have hs2 := Hb2.out.size
    obtain ⟨aO, cO, rfl, _⟩ := hO.reads
    rw [Hz.out] at hO ⊢
    have HO := Lib.hid hO
    clear hb2 hO
    go_wp2_with fail
    go_loopw [11, 34] (fun v i wr => ∃ k : Nat, k ≤ z ∧ i = .int .i64 k ∧ wr.ownsRow w2.heap.size 3 1 v k (ns (iM ((K.map bw).take k))) ∧ Below w2.heap.size w2 wr) (fun _ i _ => z - (intOf i).toNat)
    case atStart => exact ⟨0, Nat.zero_le _, rfl, World.ownsRow_nil _ _ _ _, Below.refl _ _⟩
    case round =>
      obtain ⟨k, hk, rfl, hor, hbel⟩ := hrel
      by_cases hlt : k < z
      · have hkL : k < K.length := by rw [Hz.out]; exact hlt
        obtain ⟨gO, capO, hvO, _⟩ := HO.out.outer (by rw [Hz.out]; omega)
        rw [Hz.out] at hvO
        simp only [Value.slice.injEq, true_and] at hvO
        obtain ⟨rfl, rfl⟩ := hvO
        obtain ⟨a1, c1, hx1, hc0, own1⟩ := HO.out.cellOf Hz.out.symm k hkL
        have hc1 := cell_old hbel hc0
        have hris : risB (F : Int) (row K k) = true := by rw [← row_get hkL]; exact HKr.out _ (List.getElem_mem _)
        have hrl := ris_len (by omega : (F : Int) ≤ 10) hris
        obtain ⟨_, _, hve, hna⟩ := nums_shape own1 rfl
        simp only [Value.slice.injEq, true_and] at hve
        have hna1 : NumsAt w2 a1 (row K k) := by rw [hve.1]; exact hna
        have HB := Lib.hid (wiBits_any a1 c1 (F : Int) (by omega) (row K k) _ wr rfl hris (hna1.kept hbel))
        have hkM : k < (K.map bw).length := by rw [List.length_map]; exact hkL
        have htk := iM_take (K.map bw) k hkM
        have hwak : wa (K.map bw) k = bw (row K k) := by simp [wa, row, List.getD_eq_getElem?_getD, hkL]
        rw [hwak] at htk
        obtain ⟨x, hx⟩ : ∃ x, bw (row K k) = x := ⟨_, rfl⟩
        obtain ⟨ln, hln⟩ : ∃ ln, (row K k).length = ln := ⟨_, rfl⟩
        rw [hx] at htk HB
        rw [hln] at hc1 hrl HB
        have Htk := Lib.hid htk
        have hsz := hbel.size
        have hk1 : (0 : Int) ≤ k := by omega
        have hk2 : (k : Int) < z := by omega
        have bd : Below wr.heap.size wr (wr.alloc (.cells #[.int .i64 (x : Int)] 3)) := (Below.refl wr.heap.size wr).alloc (Nat.le_refl _) _
        obtain ⟨V0, hV0⟩ : ∃ q, iM ((K.map bw).take k) = q := ⟨_, rfl⟩
        rw [hV0] at hor Htk
        have Hrow7 := Lib.hid (own_later hor bd)
        have Hb7 := Lib.hid (hbel.trans (bd.mono hsz))
        have hszW : (wr.alloc (.cells #[.int .i64 (x : Int)] 3)).heap.size = wr.heap.size + 1 := by simp
        have hck : (wr.alloc (.cells #[.int .i64 (x : Int)] 3)).cell? ⟨wr.heap.size, 0, none⟩ = some (.int .i64 (x : Int)) := by rw [cell_of_row _ _ _ _ _ _ (heap_alloc_new wr _)]; rfl
        have Hck := Lib.hid hck
        clear hor hbel bd hck hc0 own1 hris hve hna hna1 htk hwak hx hln hx1 hV0
        go_wp2_with fail
        refine HB.out.mono ?_
        rintro e w' ⟨rfl, rfl⟩
        go_wp2_with (at_builtin; refine push_num _ rfl _ _ 36 rfl w2.heap.size i3 Try.underlying36 hi3 hz30 hz31 hz32 _ V0 k rfl Hrow7.out (by omega) (x : Int) 1 wr.heap.size rfl Hck.out (by rw [hszW]; omega) ?_)
        intro g9 cap9 w9 own9 hgr9 hat9
        rw [← Htk.out] at own9
        have Ho9 := Lib.hid own9
        have Hb9 := Lib.hid (Hb7.out.grown hgr9 (by rw [hszW]; omega) (fun bb hb => (Hrow7.out.lt bb hb).1))
        clear own9 hgr9 hat9 Hrow7 Hb7
        go_wp2_with fail
        go_roundw
        case rel => exact ⟨k + 1, by omega, by go_num, Ho9.out, Hb9.out⟩
        case measure => simp [intOf]; omega
      · obtain rfl : k = z := by omega
        have hpe : (K.map bw).take k = K.map bw := by rw [List.take_of_length_le]; rw [List.length_map, Hz.out]; exact Nat.le_refl _
        rw [hpe] at hor
        have hlM : (K.map bw).length = k := by rw [List.length_map, Hz.out]
        obtain ⟨aF, cF, rfl, hnF⟩ := nums_shape hor (by rw [iM_len]; exact hlM.symm)
        have Hb3 := Lib.hid (Hb2.out.trans (hbel.mono hs2))
        have HnF := Lib.hid hnF
        have hMlt : ∀ x, x ∈ K.map bw → x < 1024 := by
          intro x hx
          rw [List.mem_map] at hx
          obtain ⟨l, hl, rfl⟩ := hx
          exact bw_lt (by omega : (F : Int) ≤ 10) (HKr.out l hl)
        obtain ⟨M, hMq⟩ : ∃ q, K.map bw = q := ⟨_, rfl⟩
        rw [hMq] at HnF hlM hMlt HRF HNF
        have HlM := Lib.hid hlM
        have HMlt := Lib.hid hMlt
        clear hor hbel hpe hnF hlM hMq hMlt
        by_cases h0 : k = 0
        · have hB : B = false := by rw [HsB.out, h0]; rfl
          have hr0 := HRF0.out hB
          have hR0 : RR = [] := hr0.1
          have hN0 : NN = 0 := hr0.2
          subst hB
          subst hR0
          subst hN0
          have hze : ((k : Int) == 0) = true := by simp; omega
          clear h0 hr0 HRF HNF HRF0 HsB
          go_wp2_with fail
          go_ret3
          exact ⟨_, rfl, World.ownsRow_nil _ _ _ _, Hb3.out⟩
        · have hB : B = true := by rw [HsB.out]; simp [h0]
          have hR1 := HRF.out hB
          have hN1 := HNF.out hB
          subst hB
          have hze : ((k : Int) == 0) = false := by rw [beq_eq_false_iff_ne]; omega
          have hzw : IntKind.i64.wrap ((k : Int) + 1) = (k : Int) + 1 := IntWalk.i64_in _ (by omega)
          have hs3 := Hb3.out.size
          obtain ⟨NT, hNT⟩ : ∃ q, (la F F).length = q := ⟨_, rfl⟩
          have hNT2 : 2 ≤ NT := by rw [← hNT]; exact la_two F hF1 hF
          have hNTb : NT ≤ 11264 := by rw [← hNT]; exact la_len hF F hF
          have HNT : Hid (NT = (la F F).length) := hNT.symm
          have HNW : Hid (NT = (wL F F).length) := by show _ = _; rw [← la_lenw hF, hNT]
          have Hlt := Lib.hid (la_lt hF F)
          obtain ⟨T1, hT1⟩ : ∃ q, NT - 1 = q := ⟨_, rfl⟩
          have HT1 := Lib.hid hT1
          have Hfin : Hid (bst M (la F F) T1 = (bsI F M, bsN F M)) := by show _ = _; unfold bsI bsN; rw [hNT, hT1]
          have hbI := bsI_lt F M
          have HbI : Hid (bsI F M < NT) := by show _ < _; rw [← hNT]; exact hbI
          obtain ⟨BI, hBI⟩ : ∃ q, bsI F M = q := ⟨_, rfl⟩
          obtain ⟨BN, hBN⟩ : ∃ q, bsN F M = q := ⟨_, rfl⟩
          rw [hBI] at HbI hR1
          rw [hBI, hBN] at Hfin
          rw [hBN] at hN1
          subst hN1
          have HRR : Hid (row (wL F F) BI = RR) := hR1.symm
          clear h0 HRF HNF HRF0 HsB hNT hbI hR1 hBI hBN
          go_wp2_with fail
          refine (wiAll_any wr F F hF hF).mono ?_
          rintro e w6 ⟨vA, XA, rfl, oA, hb6⟩
          obtain ⟨gA, cA, rfl, _⟩ := oA.outer (by rw [← HNW.out]; omega)
          rw [← HNW.out] at oA ⊢
          have hcapA := own_cap oA.1
          have HA := Lib.hid oA
          have Hb6 := Lib.hid (Hb3.out.trans (hb6.mono hs3))
          have HnF6 := Lib.hid (HnF.out.kept hb6)
          have hs36 := hb6.size
          have hcap1 : ¬ cA = 1 := by omega
          have hcap2 : ¬ 1 = cA := by omega
          have hN1' : (1 : Int) ≤ NT := by omega
          have hN2' : (NT : Int) ≤ cA := by omega
          have hN3' : (1 : Int) ≤ cA := by omega
          clear oA hb6
          go_wp2_with fail
          go_loopw [14, 15, 55] (fun u v i wr => ∃ q : Nat, q ≤ T1 ∧ i = .int .i64 q ∧ u = bv XA (bst M (la F F) q).1 ∧ v = .int .i64 (((bst M (la F F) q).2 : Nat) : Int) ∧ w6 = wr) (fun _ _ i _ => T1 - (intOf i).toNat)
          case atStart => exact ⟨0, Nat.zero_le _, rfl, rfl, by rw [show (bst M (la F F) 0).2 = k + 1 by show M.length + 1 = _; rw [HlM.out]]; rfl, rfl⟩
          case round =>
            obtain ⟨q, hq, rfl, rfl, rfl, rfl⟩ := hrel
            by_cases hlt2 : q < T1
            · have hq1N : q + 1 < NT := by have := HT1.out; omega
              have hqW : q + 1 < (wL F F).length := by rw [← HNW.out]; exact hq1N
              obtain ⟨a1, c1, hx1, hc0, own1⟩ := HA.out.cellOf HNW.out (q + 1) hqW
              have hris := wL_row F hqW
              have hrl := ris_len (by omega : (F : Int) ≤ 10) hris
              obtain ⟨_, _, hve, hna⟩ := nums_shape own1 rfl
              simp only [Value.slice.injEq, true_and] at hve
              have hna1 : NumsAt w6 a1 (row (wL F F) (q + 1)) := by rw [hve.1]; exact hna
              have HB := Lib.hid (wiBits_any a1 c1 (F : Int) (by omega) (row (wL F F) (q + 1)) _ w6 rfl hris hna1)
              have hlak := la_at hF F (q + 1) hqW
              have hx := Hlt.out _ (wa_mem (la F F) (q + 1) (by rw [← HNT.out]; exact hq1N))
              have hby := @bst_yes M (la F F) q
              have hbn := @bst_no M (la F F) q
              have hmx : mxc M (wa (la F F) (q + 1)) = max (cm M (wa (la F F) (q + 1)) k) (k - cm M (wa (la F F) (q + 1)) k) := by unfold mxc; rw [HlM.out]
              rw [← hlak] at HB
              have hc1 : w6.cell? ⟨gA, 1 + q, none⟩ = some (.slice a1 (row (wL F F) (q + 1)).length c1) := by rw [Nat.add_comm 1 q]; exact hc0
              have Hxk : Hid (bv XA (q + 1) = .slice a1 (row (wL F F) (q + 1)).length c1) := by
                show _ = _
                unfold bv
                rw [if_neg (by omega), List.getD_eq_getElem?_getD, hx1]; rfl
              obtain ⟨x, hxx⟩ : ∃ x, wa (la F F) (q + 1) = x := ⟨_, rfl⟩
              rw [hxx] at hx hby hbn hmx HB
              rw [hmx] at hby hbn
              obtain ⟨ln, hln⟩ : ∃ ln, (row (wL F F) (q + 1)).length = ln := ⟨_, rfl⟩
              rw [hln] at hc1 hrl HB Hxk
              obtain ⟨bv0, hbv0⟩ : ∃ b, bv XA (bst M (la F F) q).1 = b := ⟨_, rfl⟩
              obtain ⟨l0, hl0⟩ : ∃ l, (bst M (la F F) q).2 = l := ⟨_, rfl⟩
              have hl0b : l0 ≤ k + 1 := by rw [← hl0]; have := (bst_le M (la F F) q).2; rw [HlM.out] at this; exact this
              rw [hbv0, hl0]
              rw [hl0] at hby hbn
              have Hbv0 := Lib.hid hbv0
              have Hl0 := Lib.hid hl0
              have Hby := Lib.hid hby
              have Hbn := Lib.hid hbn
              have hq0i : (0 : Int) ≤ q := by omega
              have hq2i : (q : Int) < T1 := by omega
              have Hx := Lib.hid hx
              clear hc0 own1 hris hve hna hna1 hlak hby hbn hmx hxx hln hx1 hbv0 hl0
              go_wp2_with fail
              refine HB.out.mono ?_
              rintro e w' ⟨rfl, rfl⟩
              go_wp2_with fail
              go_loopw [19, 63] (fun v i wr => ∃ j : Nat, j ≤ k ∧ i = .int .i64 j ∧ v = .int .i64 ((cm M x j : Nat) : Int) ∧ w6 = wr) (fun _ i _ => k - (intOf i).toNat)
              case atStart => exact ⟨0, Nat.zero_le _, rfl, rfl, rfl⟩
              case round =>
                obtain ⟨j, hj, rfl, rfl, rfl⟩ := hrel
                by_cases hlt3 : j < k
                · have hjM : j < M.length := by rw [HlM.out]; exact hlt3
                  obtain ⟨gF, offF, haF, hcF⟩ : ∃ gF offF, aF = some ⟨gF, offF, none⟩ ∧ w6.cell? ⟨gF, offF + j, none⟩ = some (.int .i64 ((wa M j : Nat) : Int)) := by
                    rcases HnF6.out with h | ⟨g, o, h, hc⟩
                    · have h2 : (iM M).length = 0 := by rw [h]; rfl
                      rw [iM_len] at h2; omega
                    · exact ⟨g, o, h, by rw [hc j (by rw [iM_len]; exact hjM), iM_at M j hjM]⟩
                  subst haF
                  have hy := HMlt.out _ (wa_mem M j hjM)
                  have hcs : cm M x (j + 1) = cm M x j + (if mtB (wa M j) x then 1 else 0) := rfl
                  have hcl := cm_le M x j
                  obtain ⟨y, hyy⟩ : ∃ y, wa M j = y := ⟨_, rfl⟩
                  rw [hyy] at hcF hy hcs
                  have hba := bits_and_int x y Hx.out hy
                  have hne := and_ne x y
                  rw [← hba, mt_comm] at hne
                  obtain ⟨c0, hcc0⟩ : ∃ c, cm M x j = c := ⟨_, rfl⟩
                  rw [hcc0] at hcs hcl
                  rw [hcc0]
                  have hj1 : (0 : Int) ≤ j := by omega
                  have hj2 : (j : Int) < k := by omega
                  cases hm : mtB y x
                  · rw [hm] at hne hcs
                    have Hcs : Hid (((cm M x (j + 1) : Nat) : Int) = (c0 : Int)) := by show _ = _; rw [hcs]; simp
                    clear hba hcs hyy hcc0 hm
                    go_wp2_with fail
                    go_roundw
                    case rel => exact ⟨j + 1, by omega, by go_num, by rw [Hcs.out], by trivial⟩
                    case measure => simp [intOf]; omega
                  · rw [hm] at hne hcs
                    have Hcs : Hid (((cm M x (j + 1) : Nat) : Int) = (c0 : Int) + 1) := by show _ = _; rw [hcs]; simp
                    have hw1 : IntKind.i64.wrap ((c0 : Int) + 1) = (c0 : Int) + 1 := IntWalk.i64_in _ (by omega)
                    clear hba hcs hyy hcc0 hm
                    go_wp2_with fail
                    go_roundw
                    case rel => exact ⟨j + 1, by omega, by go_num, by rw [Hcs.out], by trivial⟩
                    case measure => simp [intOf]; omega
                · obtain rfl : j = k := by omega
                  have hcl := cm_le M x j
                  obtain ⟨c, hcc⟩ : ∃ c, cm M x j = c := ⟨_, rfl⟩
                  rw [hcc] at hcl Hby Hbn
                  rw [hcc]
                  obtain ⟨d, hd⟩ : ∃ d, max c (j - c) = d := ⟨_, rfl⟩
                  have hdz : d ≤ j := by omega
                  rw [hd] at Hby Hbn
                  have hzc : (j : Int) - (c : Int) = ((j - c : Nat) : Int) := by omega
                  have hzw2 : IntKind.i64.wrap ((j : Int) - (c : Int)) = ((j - c : Nat) : Int) := by rw [hzc]; exact IntWalk.i64_in _ (by omega)
                  have hmxi : max (c : Int) ((j - c : Nat) : Int) = (d : Int) := by omega
                  have hMost := l1Most_any (c : Int) ((j - c : Nat) : Int) w6
                  rw [hmxi] at hMost
                  have HMost := Lib.hid hMost
                  clear hcc hd hzc hmxi hMost
                  by_cases hless : d < l0
                  · have hli : (d : Int) < l0 := by omega
                    have Hb2' := Lib.hid (Hby.out hless)
                    have hld : decide ((d : Int) < l0) = true := by simpa using hli
                    go_wp2_with fail
                    refine HMost.out.mono ?_
                    rintro e w' ⟨rfl, rfl⟩
                    go_wp2_with fail
                    go_roundw
                    case rel => exact ⟨q + 1, by omega, by go_num, by rw [Hb2'.out]; exact Hxk.out.symm, by rw [Hb2'.out], by trivial⟩
                    case measure => simp [intOf]; omega
                  · have hli : ¬ (d : Int) < l0 := by omega
                    have Hb2' := Lib.hid (Hbn.out hless)
                    have hld : decide ((d : Int) < l0) = false := by simpa using hli
                    go_wp2_with fail
                    refine HMost.out.mono ?_
                    rintro e w' ⟨rfl, rfl⟩
                    go_wp2_with fail
                    go_roundw
                    case rel => exact ⟨q + 1, by omega, by go_num, by rw [Hb2'.out, Hbv0.out], by rw [Hb2'.out, Hl0.out], by trivial⟩
                    case measure => simp [intOf]; omega
            · obtain rfl : q = T1 := by omega
              rw [Hfin.out]
              have hown : ∃ vv, bv XA BI = vv ∧ w6.ownsRow w.heap.size 3 1 vv RR.length (ns RR) := by
                refine ⟨_, rfl, ?_⟩
                by_cases hb0 : BI = 0
                · have hrow0 : ∀ m, row (wL F m) 0 = [] := by
                    intro m
                    induction m with
                    | zero => rfl
                    | succ m ih =>
                      show row (wL F m ++ lx F (m + 1) []) 0 = []
                      rw [row_app_lt (by rw [← la_lenw hF]; exact la_pos F m)]; exact ih
                  have : RR = [] := by rw [← HRR.out, hb0]; exact hrow0 F
                  rw [this]
                  unfold bv
                  rw [if_pos hb0]
                  exact World.ownsRow_nil _ _ _ _
                · have hbW : BI < (wL F F).length := by rw [← HNW.out]; exact HbI.out
                  obtain ⟨a1, c1, hx1, hc0, own1⟩ := HA.out.cellOf HNW.out BI hbW
                  have e : bv XA BI = .slice a1 (row (wL F F) BI).length c1 := by
                    unfold bv
                    rw [if_neg hb0, List.getD_eq_getElem?_getD, hx1]; rfl
                  rw [e, ← HRR.out]
                  exact own_base hs3 own1
              obtain ⟨vv, hvv, hown⟩ := hown
              have Hown := Lib.hid hown
              rw [hvv]
              clear hown hvv
              go_wp2_with fail
              go_ret3
              exact ⟨_, rfl, Hown.out, Hb6.out⟩

end Go.Proofs.Ytoigafjocckepaa
