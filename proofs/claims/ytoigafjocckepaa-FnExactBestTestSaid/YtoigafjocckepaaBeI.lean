/- The best test: the program. -/
import Derived.Test.YtoigafjocckepaaBe0
import Derived.WalkLawsBesides
import Derived.OwnWalk
namespace Go.Proofs.Ytoigafjocckepaa
open Go.ChangeShapes Go.WideShapes Go.ChangeAt Go.RowKit
set_option linter.unusedVariables false


set_option maxHeartbeats 3200000 in
set_option maxRecDepth 20000 in
theorem implBt_any (w : World) (f : Int) (ao : Option Addr) (cap : Nat) (L : List (List Int)) (n : Nat) (Hn : Hid (n = L.length)) (hn : n ≤ 1048576) (hL : Hid (∀ i, (row L i).length ≤ 1048576)) (Hc : RowsAt w ao L) (s : ByteArray) (hs : s.size ≤ 1048576) (m : Int) :
    Calls Try.prog 31 #[.int .i64 f, .slice ao n cap, .string s, .int .i64 m] w fun e w' => ∃ v, e = .returned (.tuple #[v, .int .i64 (btN f L s m), .bool (swB f L s m)]) ∧ w'.ownsRow w.heap.size 3 1 v (btR f L s m).length (ns (btR f L s m)) ∧ Below w.heap.size w w' := by
  have Hft := Lib.hid (fittingTo_any w f ao cap L n Hn hn hL Hc s hs m)
  clear Hc
  cases hg : askB f L s m
  · have hB : swB f L s m = false := by simp [swB, hg]
    have hR : btR f L s m = [] := by simp [btR, hB]
    have hN : btN f L s m = 0 := by simp [btN, hB]
    rw [hR, hB, hN]
    rw [hg] at Hft
    clear hg hR hB hN
    go_enter Try.func31, Try.ntmps31
    go_wp2_with fail
    refine Hft.out.mono ?_
    rintro e w1 ⟨v, rfl, own1, hb1⟩
    obtain ⟨a2, c2, rfl, _⟩ := wl_at own1 rfl
    clear own1
    go_wp2_with fail
    go_ret3
    exact ⟨_, rfl, World.ownsRow_nil _ _ _ _, hb1⟩
  · rw [hg] at Hft
    have hp := ask_parts hg
    have hw := wi_parts hp.1
    have hbl := ftR_len f L s m
    have hft := ftR_fitL hg
    obtain ⟨F, rfl⟩ := Int.eq_ofNat_of_zero_le (a := f) (by omega)
    have hF : F ≤ 10 := by omega
    have hF1 : 1 ≤ F := by omega
    have hKr := fitL_ris L s m.toNat hF
    simp only [Int.toNat_natCast] at hft
    have hKm : ∀ x, x ∈ ftR (F : Int) L s m → x < 1024 := by
      intro x hx
      rw [hft, List.mem_map] at hx
      obtain ⟨l, hl, rfl⟩ := hx
      exact bw_lt (by omega : (F : Int) ≤ 10) (hKr l hl)
    obtain ⟨z, hz⟩ : ∃ z, (ftR (F : Int) L s m).length = z := ⟨_, rfl⟩
    rw [hz] at Hft hbl
    by_cases h0 : z = 0
    · have hB : swB (F : Int) L s m = false := by simp [swB, hz, h0]
      have hR : btR (F : Int) L s m = [] := by simp [btR, hB]
      have hN : btN (F : Int) L s m = 0 := by simp [btN, hB]
      rw [hB, hR, hN]
      have hze : ((z : Int) == 0) = true := by simp; omega
      have Hz : Hid (z = (ftR (F : Int) L s m).length) := hz.symm
      clear hg hp hw hft hB hR hKr hz h0 hKm hN
      go_enter Try.func31, Try.ntmps31
      go_wp2_with fail
      refine Hft.out.mono ?_
      rintro e w1 ⟨v, rfl, own1, hb1⟩
      obtain ⟨a2, c2, rfl, _⟩ := wl_at own1 Hz.out
      clear own1
      go_wp2_with fail
      go_ret3
      exact ⟨_, rfl, World.ownsRow_nil _ _ _ _, hb1⟩
    · have hB : swB (F : Int) L s m = true := by simp [swB, hg, hz, h0]
      have hR : btR (F : Int) L s m = row (wL F F) (bsI F (ftR (F : Int) L s m)) := by simp [btR, hB]
      have hN : btN (F : Int) L s m = ((bsN F (ftR (F : Int) L s m) : Nat) : Int) := by simp [btN, hB]
      rw [hB, hR, hN]
      obtain ⟨M, hM⟩ : ∃ q, ftR (F : Int) L s m = q := ⟨_, rfl⟩
      rw [hM] at Hft hKm hz
      rw [hM]
      have hze : ((z : Int) == 0) = false := by rw [beq_eq_false_iff_ne]; omega
      have hz1 : 0 < z := by omega
      have HzM : Hid (z = M.length) := hz.symm
      have HKm := Lib.hid hKm
      obtain ⟨NT, hNT⟩ : ∃ q, (la F F).length = q := ⟨_, rfl⟩
      have hNT2 : 2 ≤ NT := by rw [← hNT]; exact la_two F hF1 hF
      have hNTb : NT ≤ 11264 := by rw [← hNT]; exact la_len hF F hF
      have HNT : Hid (NT = (la F F).length) := hNT.symm
      have Hlt := Lib.hid (la_lt hF F)
      have hbI := bsI_lt F M
      have hrow : row (wL F F) (bsI F M) = lsT (wa (la F F) (bsI F M)) 10 := by
        rw [la_lenw hF] at hbI
        rw [la_at hF F _ hbI, ls_bw (by omega : (F : Int) ≤ 10) (wL_row F hbI)]
      rw [hrow]
      have Hfin : Hid (bst M (la F F) (NT - 1) = (bsI F M, bsN F M)) := by show _ = _; unfold bsI bsN; rw [hNT]
      have h0la : wa (la F F) 0 = 0 := by
        have key : ∀ m, wa (la F m) 0 = 0 := by
          intro m
          induction m with
          | zero => rfl
          | succ m ih =>
            have h1 : wa (la F (m + 1)) 0 = wa (la F m) 0 := by
              show wa (la F m ++ lm F (m + 1)) 0 = _
              simp [wa, List.getD_eq_getElem?_getD, List.getElem?_append_left (la_pos F m)]
            rw [h1, ih]
        exact key F
      have H0la := Lib.hid h0la
      have hWb : wa (la F F) (bsI F M) < 1024 := Hlt.out _ (wa_mem _ _ hbI)
      obtain ⟨RB, hRB⟩ : ∃ q, lsT (wa (la F F) (bsI F M)) 10 = q := ⟨_, rfl⟩
      have hLS := fun W => list_any (wa (la F F) (bsI F M)) hWb W
      simp only [hRB] at hLS
      rw [hRB]
      have HLS := Lib.hid hLS
      obtain ⟨BI, hBI⟩ : ∃ q, bsI F M = q := ⟨_, rfl⟩
      obtain ⟨BN, hBN⟩ : ∃ q, bsN F M = q := ⟨_, rfl⟩
      rw [hBI, hBN] at Hfin
      rw [hBI] at HLS
      rw [hBN]
      simp only [wv] at HLS
      clear hg hp hw hft hB hR hKr hz h0 hKm hN hM hNT hbI hrow h0la hWb hRB hLS hBI hBN
      go_enter Try.func31, Try.ntmps31
      go_wp2_with fail
      refine Hft.out.mono ?_
      rintro e w1 ⟨v, rfl, own1, hb1⟩
      obtain ⟨a2, c2, rfl, hwl⟩ := wl_at own1 HzM.out
      have Hwl := Lib.hid hwl
      have Hb1 := Lib.hid hb1
      have hs1 := hb1.size
      have hzw : IntKind.i64.wrap ((z : Int) + 1) = (z : Int) + 1 := IntWalk.i64_in _ (by omega)
      clear own1 hb1 hwl
      have hb2 : Below w1.heap.size w1 (w1.alloc (Obj.cells #[Value.int IntKind.u16 0] 52)) := (Below.refl _ _).alloc (Nat.le_refl _) _
      obtain ⟨B0, hB0⟩ : ∃ B, w1.heap.size = B := ⟨_, rfl⟩
      have hcB : Hid ((w1.alloc (Obj.cells #[Value.int IntKind.u16 0] 52)).heap[B0]? = some (.cells #[.int .u16 0] 52 (0, 0))) := heap_new hB0
      have hs2 : (w1.alloc (Obj.cells #[Value.int IntKind.u16 0] 52)).heap.size = B0 + 1 := by simp [hB0]
      go_wp2_with fail
      refine (listsUpTo_any _ F F hF hF).mono ?_
      rintro e w3 ⟨vT, rfl, own3, hb3⟩
      rw [← HNT.out] at own3
      obtain ⟨aT, cT, rfl, hwT⟩ := wl_at own3 HNT.out
      obtain ⟨gT, hgT⟩ : ∃ gT, aT = some ⟨gT, 0, none⟩ := by
        rcases own3.2 with ⟨hv, h⟩ | ⟨g, cap, cur, hv, _⟩
        · omega
        · cases hv; exact ⟨g, rfl⟩
      subst hgT
      have hcapT := own_cap own3
      have HwT : Hid (∀ i, i < NT → w3.cell? ⟨gT, i, none⟩ = some (.int .u16 ((wa (la F F) i : Nat) : Int))) := by
        rcases hwT with h | ⟨g, o, h, hc⟩
        · have := HNT.out; rw [h] at this; simp at this; omega
        · cases h
          intro i hi
          have := hc i (by rw [← HNT.out]; exact hi)
          simpa using this
      have Hb3 := Lib.hid (Hb1.out.trans ((hb2.trans (hb3.mono (by rw [hs2, hB0]; omega))).mono hs1))
      have hc3 : Hid (w3.heap[B0]? = some (.cells #[.int .u16 0] 52 (0, 0))) := (hb3.block B0 (by rw [hs2]; omega)).trans hcB.out
      have Hk13 := Lib.hid (hb2.trans (hb3.mono (by rw [hs2, hB0]; omega)))
      have hgTB : gT ≠ B0 := by have := (own3.lt gT rfl).1; rw [hs2] at this; omega
      have hgTl : gT < w3.heap.size := (own3.lt gT rfl).2
      have hs3 : B0 + 1 ≤ w3.heap.size := by have := hb3.size; rw [hs2] at this; exact this
      have hcap1 : ¬ cT = 1 := by omega
      have hcap2 : ¬ 1 = cT := by omega
      have hN1 : (1 : Int) ≤ NT := by omega
      have hN2 : (NT : Int) ≤ cT := by omega
      have hN3 : (1 : Int) ≤ cT := by omega
      obtain ⟨T1, hT1⟩ : ∃ q, NT - 1 = q := ⟨_, rfl⟩
      have hwB : w.heap.size ≤ B0 := by omega
      clear own3 hb3 hwT hb2 hs2
      have Hfin2 : Hid (bst M (la F F) T1 = (BI, BN)) := by rw [← hT1]; exact Hfin
      have HT1 := Lib.hid hT1
      go_wp2_with fail
      go_loopw [14, 43] (fun u i wr => ∃ k : Nat, k ≤ T1 ∧ i = .int .i64 k ∧ u = .int .i64 (((bst M (la F F) k).2 : Nat) : Int) ∧ wr.heap[B0]? = some (.cells #[.int .u16 ((wa (la F F) (bst M (la F F) k).1 : Nat) : Int)] 52 (0, 0)) ∧ Hid (∀ j, j < w3.heap.size → j ≠ B0 → wr.heap[j]? = w3.heap[j]?) ∧ w3.heap.size ≤ wr.heap.size ∧ Below w.heap.size w wr) (fun _ i _ => T1 - (intOf i).toNat)
      case atStart => exact ⟨0, Nat.zero_le _, rfl, by rw [show (bst M (la F F) 0).2 = z + 1 by show M.length + 1 = _; rw [← HzM.out]]; rfl, by rw [show (bst M (la F F) 0).1 = 0 from rfl, H0la.out]; exact hc3.out, fun _ _ _ => rfl, Nat.le_refl _, Hb3.out⟩
      case round =>
        obtain ⟨k, hk, rfl, rfl, hBr, hkeep, hszr, hbel⟩ := hrel
        by_cases hlt : k < T1
        · have hk1N : k + 1 < NT := by have := HT1.out; omega
          have hce : wr.cell? ⟨gT, 1 + k, none⟩ = some (.int .u16 ((wa (la F F) (k + 1) : Nat) : Int)) := by
            rw [Nat.add_comm 1 k]
            exact (World.cell?_of_block (a := ⟨gT, k + 1, none⟩) (hkeep.out gT hgTl hgTB)).trans (HwT.out (k + 1) hk1N)
          have hwlr : WLAt wr a2 M := by
            rcases Hwl.out with h | ⟨b, off, h, hc⟩
            · exact .inl h
            · refine .inr ⟨b, off, h, fun i hi => ?_⟩
              have hbl := World.block_lt_of_cell? w1 _ (hc i hi)
              have hbl2 : b < w1.heap.size := hbl
              exact (World.cell?_of_block (a := ⟨b, off + i, none⟩) (hkeep.out b (by omega) (by omega))).trans (cell_old Hk13.out (hc i hi))
          have hx := Hlt.out _ (wa_mem (la F F) (k + 1) (by rw [← HNT.out]; exact hk1N))
          have hby := @bst_yes M (la F F) k
          have hbn := @bst_no M (la F F) k
          have hmx : mxc M (wa (la F F) (k + 1)) = max (cm M (wa (la F F) (k + 1)) z) (z - cm M (wa (la F F) (k + 1)) z) := by unfold mxc; rw [← HzM.out]
          have hcl := cm_le M (wa (la F F) (k + 1)) z
          obtain ⟨x, hxx⟩ : ∃ x, wa (la F F) (k + 1) = x := ⟨_, rfl⟩
          rw [hxx] at hce hx hby hbn hmx hcl
          rw [hmx] at hby hbn
          have Hxx := Lib.hid hxx
          obtain ⟨c, hcc⟩ : ∃ c, cm M x z = c := ⟨_, rfl⟩
          rw [hcc] at hby hbn hcl
          obtain ⟨l0, hl0⟩ : ∃ l, (bst M (la F F) k).2 = l := ⟨_, rfl⟩
          have hl0b : l0 ≤ z + 1 := by rw [← hl0]; have := (bst_le M (la F F) k).2; rw [← HzM.out] at this; exact this
          rw [hl0] at hby hbn ⊢
          have Hl0 := Lib.hid hl0
          have bd : Below wr.heap.size wr (wr.alloc (.cells #[.int .u16 (x : Int)] 52)) := (Below.refl wr.heap.size wr).alloc (Nat.le_refl _) _
          have hcn : (wr.alloc (.cells #[.int .u16 (x : Int)] 52)).cell? ⟨wr.heap.size, 0, none⟩ = some (.int .u16 (x : Int)) := by rw [cell_of_row _ _ _ _ _ _ (heap_alloc_new wr _)]; rfl
          have hsA : (wr.alloc (.cells #[.int .u16 (x : Int)] 52)).heap.size = wr.heap.size + 1 := by simp
          have hCM := countMeeting_any (wr.alloc (.cells #[.int .u16 (x : Int)] 52)) a2 c2 M z x HzM (by omega) HKm hx (Lib.hid (hwlr.kept bd))
          rw [hcc] at hCM
          simp only [wv] at hCM
          have HCM := Lib.hid hCM
          have Hcn := Lib.hid hcn
          have hszw := hbel.size
          have Hbel := Lib.hid (hbel.trans (bd.mono hszw))
          have HBr : Hid ((wr.alloc (.cells #[.int .u16 (x : Int)] 52)).heap[B0]? = some (.cells #[.int .u16 ((wa (la F F) (bst M (la F F) k).1 : Nat) : Int)] 52 (0, 0))) := (bd.block B0 (by omega)).trans hBr
          have Hkeep : Hid (∀ j, j < w3.heap.size → j ≠ B0 → (wr.alloc (.cells #[.int .u16 (x : Int)] 52)).heap[j]? = w3.heap[j]?) := fun j hj hjB => (bd.block j (by omega)).trans (hkeep.out j hj hjB)
          have Hby := Lib.hid hby
          have Hbn := Lib.hid hbn
          obtain ⟨d, hd⟩ : ∃ d, max c (z - c) = d := ⟨_, rfl⟩
          have hdz : d ≤ z := by omega
          rw [hd] at Hby Hbn
          have Hd := Lib.hid hd
          have hzc : (z : Int) - (c : Int) = ((z - c : Nat) : Int) := by omega
          have hzw2 : IntKind.i64.wrap ((z : Int) - (c : Int)) = ((z - c : Nat) : Int) := by rw [hzc]; exact IntWalk.i64_in _ (by omega)
          have hmxi : (if c < z - c then ((z - c : Nat) : Int) else (c : Int)) = (d : Int) := by split <;> omega
          have hk0i : (0 : Int) ≤ k := by omega
          have hk2i : (k : Int) < T1 := by omega
          clear hwlr hby hbn hmx hxx hcc hl0 bd hcn hCM hbel hBr hkeep hd hzc
          by_cases hless : d < l0
          · have hli : (d : Int) < l0 := by omega
            have Hb2' := Lib.hid (Hby.out hless)
            have hld : decide ((d : Int) < l0) = true := by simpa using hli
            go_wp2_with fail
            refine HCM.out.mono ?_
            rintro e w5 ⟨rfl, hb5⟩
            have hc5 := cell_old hb5 Hcn.out
            have HB5 : Hid (w5.heap[B0]? = some (.cells #[.int .u16 ((wa (la F F) (bst M (la F F) k).1 : Nat) : Int)] 52 (0, 0))) := (hb5.block B0 (by rw [hsA]; omega)).trans HBr.out
            have z5 : w5.cell? ⟨B0, 0, none⟩ = some (.int .u16 ((wa (la F F) (bst M (la F F) k).1 : Nat) : Int)) := by rw [cell_of_row _ _ _ _ _ _ HB5.out]; rfl
            have zf5 := frozen_of_row w5 B0 0 _ _ HB5.out
            have Hk5 : Hid (∀ j, j < w3.heap.size → j ≠ B0 → w5.heap[j]? = w3.heap[j]?) := fun j hj hjB => (hb5.block j (by rw [hsA]; omega)).trans (Hkeep.out j hj hjB)
            have hs5 : w3.heap.size ≤ w5.heap.size := by have := hb5.size; rw [hsA] at this; omega
            have Hb5 := Lib.hid (Hbel.out.trans (hb5.mono (by rw [hsA]; omega)))
            clear hb5
            have HS6 : Hid ((w5.setCell ⟨B0, 0, none⟩ (.int .u16 (x : Int))).heap[B0]? = some (.cells #[.int .u16 (x : Int)] 52 (0, 0))) := cell1_set HB5.out _
            have Hk6 : Hid (∀ j, j < w3.heap.size → j ≠ B0 → (w5.setCell ⟨B0, 0, none⟩ (.int .u16 (x : Int))).heap[j]? = w3.heap[j]?) := fun j hj hjB => (heap_setCell_other _ _ _ _ (by show j ≠ B0; exact hjB)).trans (Hk5.out j hj hjB)
            have Hb6 := Lib.hid (Hb5.out.setCell (p := ⟨B0, 0, none⟩) hwB (.int .u16 (x : Int)))
            have hs6 : w3.heap.size ≤ (w5.setCell ⟨B0, 0, none⟩ (.int .u16 (x : Int))).heap.size := by simpa [World.setCell] using hs5
            have Hs6 := Lib.hid hs6
            clear hs6
            go_wp2_with fail
            go_roundw
            case rel => exact ⟨k + 1, by omega, by go_num, by rw [Hb2'.out], by rw [Hb2'.out]; show _ = some (Obj.cells #[.int .u16 ((wa (la F F) (k + 1) : Nat) : Int)] _ _); rw [Hxx.out]; exact HS6.out, Hk6, Hs6.out, Hb6.out⟩
            case measure => simp [intOf]; omega
          · have hli : ¬ (d : Int) < l0 := by omega
            have Hb2' := Lib.hid (Hbn.out hless)
            have hld : decide ((d : Int) < l0) = false := by simpa using hli
            go_wp2_with fail
            refine HCM.out.mono ?_
            rintro e w5 ⟨rfl, hb5⟩
            have hc5 := cell_old hb5 Hcn.out
            have HB5 : Hid (w5.heap[B0]? = some (.cells #[.int .u16 ((wa (la F F) (bst M (la F F) k).1 : Nat) : Int)] 52 (0, 0))) := (hb5.block B0 (by rw [hsA]; omega)).trans HBr.out
            have z5 : w5.cell? ⟨B0, 0, none⟩ = some (.int .u16 ((wa (la F F) (bst M (la F F) k).1 : Nat) : Int)) := by rw [cell_of_row _ _ _ _ _ _ HB5.out]; rfl
            have zf5 := frozen_of_row w5 B0 0 _ _ HB5.out
            have Hk5 : Hid (∀ j, j < w3.heap.size → j ≠ B0 → w5.heap[j]? = w3.heap[j]?) := fun j hj hjB => (hb5.block j (by rw [hsA]; omega)).trans (Hkeep.out j hj hjB)
            have hs5 : w3.heap.size ≤ w5.heap.size := by have := hb5.size; rw [hsA] at this; omega
            have Hb5 := Lib.hid (Hbel.out.trans (hb5.mono (by rw [hsA]; omega)))
            clear hb5
            go_wp2_with fail
            go_roundw
            case rel => exact ⟨k + 1, by omega, by go_num, by rw [Hb2'.out, Hl0.out], by rw [Hb2'.out]; exact HB5.out, Hk5, hs5, Hb5.out⟩
            case measure => simp [intOf]; omega
        · obtain rfl : k = T1 := by omega
          rw [Hfin2.out] at hBr ⊢
          have z5 : wr.cell? ⟨B0, 0, none⟩ = some (.int .u16 ((wa (la F F) BI : Nat) : Int)) := by rw [cell_of_row _ _ _ _ _ _ hBr]; rfl
          obtain ⟨xb, hxb⟩ : ∃ q, wa (la F F) BI = q := ⟨_, rfl⟩
          rw [hxb] at z5
          have hL2 := HLS.out
          simp only [hxb] at hL2
          have HL2 := Lib.hid hL2
          have hszw := hbel.size
          have Hbel := Lib.hid hbel
          clear hBr hxb hL2 hbel
          go_wp2_with fail
          refine (HL2.out _).mono ?_
          rintro e w9 ⟨v9, rfl, own9, hb9⟩
          have Ho9 := Lib.hid (own_base hszw own9)
          have Hb9 := Lib.hid (Hbel.out.trans (hb9.mono hszw))
          clear own9 hb9
          go_wp2_with fail
          go_ret3
          exact ⟨_, rfl, Ho9.out, Hb9.out⟩

end Go.Proofs.Ytoigafjocckepaa
