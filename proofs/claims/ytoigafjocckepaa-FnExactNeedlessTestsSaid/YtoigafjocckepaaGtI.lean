/- Up to how many broken wires tests tell: the program. -/
import Derived.Test.YtoigafjocckepaaGp
import Derived.Maps.Own
import Derived.Maps.OwnOps
import Derived.Maps.OwnSet
import Derived.Maps.Ext
import Derived.Maps.Keyed
import Derived.DeepKeys4
import Derived.StringKeys
namespace Go.Proofs.Ytoigafjocckepaa
open Go.ChangeShapes Go.WideShapes Go.ChangeAt Go.RowKit Go.Maps
set_option linter.unusedVariables false


set_option maxHeartbeats 1600000 in
set_option maxRecDepth 20000 in
theorem greatestTold_any (w : World) (f : Nat) (hf : f ≤ 10) (ao : Option Addr) (cap : Nat) (M : List Nat) (n : Nat) (Hn : Hid (n = M.length)) (hn : n ≤ 12) (HM : Hid (∀ i, wa M i < 1024)) (Hc : Hid (WLAt w ao M)) :
    Calls Try.prog 43 #[.int .i64 (f : Int), .slice ao n cap] w fun e w' => e = .returned (.int .i64 (gtW M n f [] (la f f))) ∧ Below w.heap.size w w' := by
  have HM0 := Lib.hid (World.ownsMap_made (H := Unit) w Try.prog 9 (plainElem Try.prog 4))
  have HB0 := Lib.hid ((Below.refl w.heap.size w).alloc (Nat.le_refl _) (.map #[] 0))
  have hmm := @run_makeMap Try.prog
  obtain ⟨B, hB⟩ : ∃ B, B = w.heap.size := ⟨_, rfl⟩
  have hBw : w.heap.size ≤ B := by omega
  have HBq := Lib.hid hB
  obtain ⟨wm, hwm⟩ : ∃ wm, wm = w.alloc (.map #[] 0) := ⟨_, rfl⟩
  rw [← hB, ← hwm] at HM0
  rw [← hwm] at HB0
  have Hwm := Lib.hid hwm
  have hBm : B < wm.heap.size := HM0.out.lt
  have HLU := Lib.hid (listsUpTo_any wm f f hf hf)
  have hpos := la_pos f f
  have hNm := la_len hf f hf
  have HAlt := Lib.hid (la_lt hf f)
  obtain ⟨A, hA⟩ : ∃ A, la f f = A := ⟨_, rfl⟩
  rw [hA] at HLU hpos hNm HAlt
  rw [hA]
  obtain ⟨N, hN⟩ : ∃ N, A.length = N := ⟨_, rfl⟩
  rw [hN] at HLU hpos hNm
  have HN := Lib.hid hN
  obtain ⟨R, hR⟩ : ∃ R, gtW M n f [] A = R := ⟨_, rfl⟩
  rw [hR]
  have HR0 := Lib.hid hR
  clear hB hwm hA hN hR
  go_enter Try.func43, Try.ntmps43
  go_upto_region 2 with (fail)
  rw [← Hwm.out, ← HBq.out]
  go_wp2_with fail
  refine HLU.out.mono ?_
  rintro e w1 ⟨v, rfl, own1, hb1⟩
  obtain ⟨g, c, rfl, hgb⟩ := own_pos own1 hpos
  have Hb1 := Lib.hid (HB0.out.trans (hb1.mono HB0.out.size))
  have hgB : g ≠ B := by omega
  have HM1 := Lib.hid (map_later HM0.out hb1 hBm)
  have HO := Lib.hid (own_base HB0.out.size own1)
  clear own1 hb1
  go_wp2_with fail
  go_loopw [14] (fun i wr => ∃ (k : Nat) (D : DataW Unit), k ≤ N ∧ i = .int .i64 k ∧ Hid (wr.ownsMap Try.prog 9 (plainElem Try.prog 4) B k D) ∧ Hid (SeenS D ((A.take k).map fun x => (rtx M x n).data.toList)) ∧ Hid (gtW M n f ((A.take k).map fun x => (rtx M x n).data.toList) (A.drop k) = R) ∧ wr.ownsRow w.heap.size 52 1 (.slice (some ⟨g, 0, none⟩) N c) N (ws A) ∧ Below w.heap.size w wr) (fun i _ => N - (intOf i).toNat)
  case atStart => exact ⟨0, .map [], Nat.zero_le _, rfl, HM1, SeenS.nil, HR0, HO.out, Hb1.out⟩
  case round =>
    obtain ⟨k, D, hk, rfl, HM2, HS, HR, hor, hbel⟩ := hrel
    by_cases hlt : k < N
    · have hkA : k < A.length := by rw [HN.out]; exact hlt
      have hcell := hor.cellAt k (by omega)
      rw [ws_get A k hkA] at hcell
      have hx := HAlt.out _ (wa_mem A k hkA)
      have hpcx := pc_le hx
      have htk : (A.take (k + 1)).map (fun x => (rtx M x n).data.toList) = (A.take k).map (fun x => (rtx M x n).data.toList) ++ [(rtx M (wa A k) n).data.toList] := by
        rw [List.take_succ_eq_append_getElem hkA, List.map_append, wa_get A k hkA]; rfl
      have hdr : A.drop k = wa A k :: A.drop (k + 1) := by rw [List.drop_eq_getElem_cons hkA, wa_get A k hkA]
      have hR2 := HR.out
      rw [hdr] at hR2
      unfold gtW at hR2
      obtain ⟨x, hxe⟩ : ∃ x, wa A k = x := ⟨_, rfl⟩
      rw [hxe] at hcell hx hpcx htk hR2
      have hRS := fun W h => resultsOf_any ao cap M n x W Hn hn HM hx h
      have hCN := fun W => count_any x hx W
      simp only [wv] at hRS hCN
      have hsm : (rtx M x n).size ≤ maxLen := by rw [rtx_size]; unfold maxLen; omega
      obtain ⟨s, hs⟩ : ∃ s, rtx M x n = s := ⟨_, rfl⟩
      simp only [hs] at hRS
      rw [hs] at htk hR2 hsm
      have Hsm := Lib.hid hsm
      obtain ⟨S, hS⟩ : ∃ S, (A.take k).map (fun x => (rtx M x n).data.toList) = S := ⟨_, rfl⟩
      rw [hS] at HS htk hR2
      have Htk := Lib.hid htk
      have HR3 := Lib.hid hR2
      have hsz := hbel.size
      have hgwr : g < wr.heap.size := (hor.lt g rfl).2
      have hBwr := HM2.out.lt
      have bd : Below wr.heap.size wr (wr.alloc (.cells #[.int .u16 (x : Int)] 52)) := (Below.refl wr.heap.size wr).alloc (Nat.le_refl _) _
      have e0 : (wr.alloc (.cells #[.int .u16 (x : Int)] 52)).cell? ⟨wr.heap.size, 0, none⟩ = some (.int .u16 (x : Int)) := by rw [cell_of_row _ _ _ _ _ _ (heap_alloc_new wr _)]; rfl
      have HMa := Lib.hid (map_later HM2.out bd hBwr)
      have Hora := Lib.hid (own_later hor bd)
      have Hba := Lib.hid (hbel.trans (bd.mono hsz))
      have He0 := Lib.hid e0
      have hsa : (wr.alloc (.cells #[.int .u16 (x : Int)] 52)).heap.size = wr.heap.size + 1 := by simp
      have Hca := Lib.hid (Hc.out.kept Hba.out)
      have hk1 : (0 : Int) ≤ k := by omega
      have hk2 : (k : Int) < N := by omega
      clear hor hbel HM2 hS htk hR2 hdr hxe hs hsm bd HR
      go_wp2_with fail
      refine (hRS _ Hca).mono ?_
      rintro e w3 ⟨rfl, hb3⟩
      have HM3 := Lib.hid (map_later HMa.out hb3 (by rw [hsa]; omega))
      have Ho3 := Lib.hid (own_later Hora.out hb3)
      have He3 := Lib.hid (cell_old hb3 He0.out)
      have hs3 := hb3.size
      rw [hsa] at hs3
      have Hb3 := Lib.hid (Hba.out.trans (hb3.mono (by rw [hsa]; omega)))
      clear hb3 HMa Hora He0 Hba e0 hRS
      have hc3 := He3.out
      by_cases hin : s.data.toList ∈ S
      · have hR : decide (s.data.toList ∈ S) = true := by simpa using hin
        have hf := HR3.out
        rw [if_pos hin] at hf
        have Hf := Lib.hid hf
        clear hin HR3 hf
        go_wp2_with (at_lookup; refine wpList_lookup_str _ rfl _ _ rfl B k D S rfl HM3.out HS.out s rfl Hsm.out ?_; rw [hR])
        refine (hCN _).mono ?_
        rintro e w4 ⟨rfl, hb4⟩
        have Hb4 := Lib.hid (Hb3.out.trans (hb4.mono (by omega)))
        clear hb4
        go_wp2_with fail
        go_ret
        exact ⟨ret_int Hf.out, Hb4.out⟩
      · have hR : decide (s.data.toList ∈ S) = false := by simpa using hin
        have hf := HR3.out
        rw [if_neg hin] at hf
        have HR4 : Hid (gtW M n f ((A.take (k + 1)).map fun x => (rtx M x n).data.toList) (A.drop (k + 1)) = R) := by show _ = _; rw [Htk.out]; exact hf
        have HS2 : Hid (SeenS (D.put (.string s.data.toList) (.lit (.bool true))) ((A.take (k + 1)).map fun x => (rtx M x n).data.toList)) := by
          show SeenS _ _
          rw [Htk.out]
          exact HS.out.put Hsm.out
        clear hin HR3 hf hCN
        go_wp2_with (first | (at_lookup; refine wpList_lookup_str _ rfl _ _ rfl B k D S rfl HM3.out HS.out s rfl Hsm.out ?_; rw [hR]) | (at_mapUpdate; refine wpList_mapUpdate_own _ rfl _ _ _ 76 rfl 9 4 law_str Try.underlying76 _ B k _ rfl HM3.out (by unfold maxLen; omega) _ _ _ rfl rfl (WideMaps.keyOf_string_mk Try.underlying9 Hsm.out) _ [] (plainElem_bool Try.underlying4 true) ?_))
        intro w9 hown9 hgr9
        have HM9 := Lib.hid hown9
        have Hor9 := Lib.hid (Ho3.out.kept hgr9 (.inr (by show (some g : Option Nat) ≠ some B; intro e; injection e with e; exact hgB e)))
        have Hb9 := Lib.hid (Hb3.out.grown hgr9 Hb3.out.size (fun q hq => by cases hq; exact hBw))
        clear hown9 hgr9 Ho3 Hb3 HM3
        go_wp2_with fail
        go_roundw
        case rel => exact ⟨k + 1, _, by omega, by go_num, HM9, HS2, HR4, Hor9.out, Hb9.out⟩
        case measure => simp [intOf]; omega
    · have hkn : N = k := by omega
      subst hkn
      have hd : A.drop N = [] := List.drop_eq_nil_of_le (by rw [HN.out]; exact Nat.le_refl _)
      have hf := HR.out
      rw [hd] at hf
      unfold gtW at hf
      have Hf := Lib.hid hf
      clear hor hd hf
      go_wp2_with fail
      go_ret
      exact ⟨ret_int Hf.out, hbel⟩

end Go.Proofs.Ytoigafjocckepaa
