/- The degrees: the program. -/
import Derived.Test.YtbddhjpofijmpaaDg
import Derived.Test.YtbddhjpofijmpaaRowsL
namespace Go.Proofs.Ytbddhjpofijmpaa
open Go.ChangeShapes Go.WideShapes Go.ChangeAt Go.RowKit
set_option linter.unusedVariables false


set_option maxHeartbeats 1600000 in
set_option maxRecDepth 20000 in
theorem implDeg_any (w : World) (f : Int) (ao : Option Addr) (cap : Nat) (l : List (Int × Int)) (n : Nat) (Hn : Hid (n = l.length)) (hs : n ≤ 1048576) (Hc : CallsAt w ao l) :
    Calls Try.prog 30 #[.int .i64 f, .slice ao n cap] w fun e w' => ∃ v, e = .returned (.tuple #[v, .bool (netB f l)]) ∧ w'.ownsRow w.heap.size 3 1 v (degR f l).length (ns (degR f l)) ∧ Below w.heap.size w w' := by
  have HA := Lib.hid Hc
  clear Hc
  cases hg : netB f l
  · have Hno : Hid (degR f l = []) := Lib.hid (by rw [degR, hg]; rfl)
    have Hg := Lib.hid hg
    clear hg
    go_enter Try.func30, Try.ntmps30
    go_wp2_with fail
    refine (implPairs_any w _ ao cap l n Hn hs HA.out).mono ?_
    rintro e w1 ⟨rfl, hb1⟩
    rw [Hg.out]
    go_wp2_with fail
    go_ret2
    exact ⟨.slice none 0 0, rfl, by rw [Hno.out]; exact World.ownsRow_nil _ _ _ _, hb1⟩
  · have hfr := net_fr hg
    obtain ⟨F, rfl⟩ := Int.eq_ofNat_of_zero_le (show 0 ≤ f by omega)
    have hgd := net_gd hg
    have hl60 := net_len60 hg
    rw [← Hn.out] at hl60
    have Hgd := Lib.hid hgd
    have Htw := Lib.hid (gd_two hgd)
    have Hdeg := Lib.hid (degR_at hg)
    have Hpc := Lib.hid (dg_pc hg)
    have Hg := Lib.hid hg
    obtain ⟨i0, hi, hz0, hz1, hz2⟩ := info_parts info3
    have Hz := Lib.hid (And.intro hz0 (And.intro hz1 hz2))
    clear hg hgd
    go_enter Try.func30, Try.ntmps30
    go_wp2_with fail
    refine (implPairs_any w _ ao cap l n Hn hs HA.out).mono ?_
    rintro e w1 ⟨rfl, hb1⟩
    rw [Hg.out]
    have hs1 := hb1.size
    go_wp2_with fail
    refine (linksOf_any ao cap l n w1 Hn hs Htw (Lib.hid (HA.out.kept hb1))).mono ?_
    rintro e w2 ⟨rfl, hb2⟩
    obtain ⟨S, hS⟩ : ∃ S, lkT l l.length = S := ⟨_, rfl⟩
    rw [hS]
    have Hpc2 : Hid (∀ v, pc (S v) = dgT l l.length v) := Lib.hid (fun v => by rw [← hS]; exact Hpc.out l.length (Nat.le_refl _) v)
    have HSm : Hid (∀ v, S v < 1024) := Lib.hid (fun v => by rw [← hS]; exact lk_small Htw.out l.length (Nat.le_refl _) v)
    have hb3 := hb1.trans (hb2.mono hs1)
    clear hS hb1 hb2
    go_upto_region 4 with (refine wpList_store_row rfl 62 (.tmp 6) (.tmp 14) rfl w2.heap.size (LA S) rfl rfl 62 (ZL) (heap_alloc_new w2 _) (by rw [infoL, LA_size]) (by first | rfl | (rw [LA_size, LA_size]) | (rw [LA_size]; rfl)) (LA_one _) ?_)
    obtain ⟨B, hB⟩ : ∃ B, w2.heap.size = B := ⟨_, rfl⟩
    obtain ⟨w4, hw4⟩ : ∃ w4, (w2.alloc (.cells ZL 62)).setRow w2.heap.size (LA S) = w4 := ⟨_, rfl⟩
    have hs3 := hb3.size
    have hK4 : w4.heap[B]? = some (.cells (LA S) 62 (0, 0)) := by rw [← hw4, ← hB]; exact setRow_heap _ _ _ _ _ _ (heap_alloc_new w2 _)
    have hb4 : Below w.heap.size w w4 := by rw [← hw4]; exact below_setRow (hb3.alloc hs3 _) (by omega) _
    have hs4 := hb4.size
    have hB4 : B < w4.heap.size := (Array.getElem?_eq_some_iff.1 hK4).1
    have HK4 := Lib.hid hK4
    have Hb4 := Lib.hid hb4
    have hBw : w.heap.size ≤ B := by omega
    try simp only [Act.put]
    try rw [← ZL_eq]
    try rw [hw4]
    try rw [hB]
    clear hw4 hb3 hb4 hK4 hB
    obtain ⟨Q, hQ⟩ : ∃ Q, w4.heap.size = Q := ⟨_, rfl⟩
    go_wp2_with (refine wpList_make_full _ rfl _ _ 38 rfl w4.heap.size 3 i0 (.int .i64 0) 1 Try.underlying38 hi Hz.out.1 Hz.out.2.1 .i64 .i64 _ _ F rfl rfl rfl rfl ?_ ?_ ?_ ?_)
    · rw [Hz.out.2.2]; omega
    · unfold maxLen; omega
    · exact Nat.le_refl _
    intro w5 hown hgr
    have hown2 : w5.ownsRow Q 3 1 (.slice (some ⟨Q, 0, none⟩) F F) F (ns (fvL F fun v => if v < 0 then ((pc (S v) : Nat) : Int) else 0)) := by
      have e : (fvL F fun v => if v < 0 then ((pc (S v) : Nat) : Int) else 0) = List.replicate F (0 : Int) := by rw [fvL_zero]; exact fvL_congr (fun v _ => by simp)
      rw [e, ← zero_nums]; simpa [hQ] using hown
    have Hown2 := Lib.hid hown2
    have HK5 : Hid (w5.heap[B]? = some (.cells (LA S) 62 (0, 0))) := Lib.hid (by
      have hbz := (Below.refl w4.heap.size w4).grown hgr (Nat.le_refl _) (fun _ h => by cases h)
      exact (hbz.block _ hB4).trans HK4.out)
    have Hb5 := Lib.hid (Hb4.out.grown hgr hs4 (fun _ h => by cases h))
    have hBQ : B < Q := by omega
    clear hown hgr hown2 hQ HK4 Hb4
    go_wp2_with fail
    go_loopw [19] (fun i wr => ∃ k : Nat, k ≤ F ∧ i = .int .i64 k ∧ Hid (wr.ownsRow Q 3 1 (.slice (some ⟨Q, 0, none⟩) F F) F (ns (fvL F fun v => if v < k then ((pc (S v) : Nat) : Int) else 0))) ∧ Hid (wr.heap[B]? = some (.cells (LA S) 62 (0, 0))) ∧ Below w.heap.size w wr) (fun i _ => F - (intOf i).toNat)
    case atStart => exact ⟨0, Nat.zero_le _, rfl, Hown2, HK5, Hb5.out⟩
    case round =>
      clear Hb5 Hown2 HK5
      obtain ⟨k, hk, rfl, Hor, HK, hbel⟩ := hrel
      by_cases hlt : k < F
      · have hk10 : k < 10 := by omega
        have hk2 : (k : Int) < F := by omega
        have hk3 : (k : Int) < 10 := by omega
        have fk := cell_of_row wr B k _ _ _ HK.out
        rw [LA_get _ k hk10] at fk
        obtain ⟨x, hx⟩ : ∃ x, S k = x := ⟨_, rfl⟩
        rw [hx] at fk
        have hx1 : x < 1024 := by rw [← hx]; exact HSm.out k
        have Hx := Lib.hid hx
        have hs5 := hbel.size
        have hBr : B < wr.heap.size := (Array.getElem?_eq_some_iff.1 HK.out).1
        clear hx
        go_wp2_with fail
        refine (setCount_any x wr hx1).mono ?_
        rintro e w6 ⟨rfl, hb6⟩
        have hor6 := own_later Hor.out hb6
        have hK6 := (hb6.block _ hBr).trans HK.out
        have hb7 := hbel.trans (hb6.mono hs5)
        obtain ⟨u0, z0⟩ := own_some hor6 k (by omega)
        have zf0 := hor6.frozenAt k
        have hor7 := (hor6.stored k (.int .i64 (pc x))).1
        rw [ns_set, fvL_set, fvL_congr (e := fun v => if v < k + 1 then ((pc (S v) : Nat) : Int) else 0) (fun v _ => by
          unfold updI
          by_cases e : v = k
          · rw [if_pos e, if_pos (by omega), e, Hx.out]
          · rw [if_neg e]
            show (if v < k then ((pc (S v) : Nat) : Int) else 0) = if v < k + 1 then ((pc (S v) : Nat) : Int) else 0
            by_cases e2 : v < k
            · rw [if_pos e2, if_pos (by omega)]
            · rw [if_neg e2, if_neg (by omega)])] at hor7
        have Hor7 := Lib.hid hor7
        have HK7 : Hid ((w6.setCell ⟨Q, k, none⟩ (.int .i64 (pc x))).heap[B]? = some (.cells (LA S) 62 (0, 0))) := Lib.hid ((heap_setCell_other _ _ _ _ (by show _ ≠ Q; omega)).trans hK6)
        have Hb8 := Lib.hid (hb7.setCell (p := ⟨Q, k, none⟩) (by show _ ≤ Q; omega) (.int .i64 (pc x)))
        clear hor6 hor7 hK6 hb6 hb7 hbel Hor HK fk
        go_wp2_with fail
        go_roundw
        case rel => exact ⟨k + 1, by omega, by go_num, Hor7, HK7, Hb8.out⟩
        case measure => simp [intOf]; omega
      · obtain rfl : k = F := by omega
        have Hfin : Hid (wr.ownsRow Q 3 1 (.slice (some ⟨Q, 0, none⟩) k k) (degR (k : Int) l).length (ns (degR (k : Int) l))) := Lib.hid (by
          rw [Hdeg.out, degN_length, degN, fvL_congr (e := fun v => if v < k then ((pc (S v) : Nat) : Int) else 0) (fun v hv => by rw [if_pos hv, Hpc2.out v])]
          exact Hor.out)
        go_wp2_with fail
        go_ret2
        exact ⟨_, rfl, own_base (by omega) Hfin.out, hbel⟩

end Go.Proofs.Ytbddhjpofijmpaa
