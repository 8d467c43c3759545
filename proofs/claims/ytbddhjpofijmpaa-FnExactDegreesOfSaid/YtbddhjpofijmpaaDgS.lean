/- The degrees: the model. -/
import Derived.Test.YtbddhjpofijmpaaDg
import Derived.Test.YtbddhjpofijmpaaRowsL
namespace Go.Proofs.Ytbddhjpofijmpaa
open Go.ChangeShapes Go.WideShapes Go.ChangeAt Go.RowKit
set_option linter.unusedVariables false


set_option maxHeartbeats 1600000 in
set_option maxRecDepth 20000 in
theorem specDeg_any (w : World) (f : Int) (ao : Option Addr) (cap : Nat) (l : List (Int × Int)) (n : Nat) (Hn : Hid (n = l.length)) (hs : n ≤ 1048576) (Hc : CallsAt w ao l) :
    Calls Try.prog 29 #[.int .i64 f, .slice ao n cap] w fun e w' => ∃ v, e = .returned (.tuple #[v, .bool (netB f l)]) ∧ w'.ownsRow w.heap.size 3 1 v (degR f l).length (ns (degR f l)) ∧ Below w.heap.size w w' := by
  have HA := Lib.hid Hc
  clear Hc
  cases hg : netB f l
  · have Hno : Hid (degR f l = []) := Lib.hid (by rw [degR, hg]; rfl)
    have Hg := Lib.hid hg
    clear hg
    go_enter Try.func29, Try.ntmps29
    go_wp2_with fail
    refine (neGood_any _ ao cap l n w Hn.out (by omega) HA.out).mono ?_
    rintro e w1 ⟨rfl, hb1⟩
    rw [Hg.out]
    go_wp2_with fail
    go_ret2
    exact ⟨.slice none 0 0, rfl, by rw [Hno.out]; exact World.ownsRow_nil _ _ _ _, hb1⟩
  · have hfr := net_fr hg
    obtain ⟨F, rfl⟩ := Int.eq_ofNat_of_zero_le (show 0 ≤ f by omega)
    have hgd := net_gd hg
    have hl60 := net_len60 hg
    rw [← Hn.out] at hl60
    have Hgd := Lib.hid hgd
    have Htw := Lib.hid (gd_two hgd)
    have Hdeg := Lib.hid (degR_at hg)
    have Hpc := Lib.hid (dg_pc hg)
    have Hg := Lib.hid hg
    obtain ⟨i0, hi, hz0, hz1, hz2⟩ := info_parts info3
    have Hz := Lib.hid (And.intro hz0 (And.intro hz1 hz2))
    clear hg hgd
    go_enter Try.func29, Try.ntmps29
    go_wp2_with fail
    refine (neGood_any _ ao cap l n w Hn.out (by omega) HA.out).mono ?_
    rintro e w1 ⟨rfl, hb1⟩
    rw [Hg.out]
    have hs1 := hb1.size
    obtain ⟨B, hB⟩ : ∃ B, w1.heap.size = B := ⟨_, rfl⟩
    go_wp2_with (refine wpList_make_full _ rfl _ _ 38 rfl w1.heap.size 3 i0 (.int .i64 0) 1 Try.underlying38 hi Hz.out.1 Hz.out.2.1 .i64 .i64 _ _ F rfl rfl rfl rfl ?_ ?_ ?_ ?_)
    · rw [Hz.out.2.2]; omega
    · unfold maxLen; omega
    · exact Nat.le_refl _
    intro w2 hown hgr
    have hown2 : w2.ownsRow B 3 1 (.slice (some ⟨B, 0, none⟩) F F) F (ns (degN F l 0)) := by
      have e : degN F l 0 = List.replicate F (0 : Int) := by rw [fvL_zero]; rfl
      rw [e, ← zero_nums]; simpa [hB] using hown
    have Hown2 := Lib.hid hown2
    have Hb2 := Lib.hid (hb1.grown hgr hs1 (fun _ h => by cases h))
    have hBw : w.heap.size ≤ B := by omega
    clear hown hgr hown2 hB hb1
    go_wp2_with fail
    go_loopw [17] (fun i wr => ∃ k : Nat, k ≤ n ∧ i = .int .i64 k ∧ Hid (wr.ownsRow B 3 1 (.slice (some ⟨B, 0, none⟩) F F) F (ns (degN F l k))) ∧ Below w.heap.size w wr) (fun i _ => n - (intOf i).toNat)
    case atStart => exact ⟨0, Nat.zero_le _, rfl, Hown2, Hb2.out⟩
    case round =>
      clear Hb2 Hown2
      obtain ⟨k, hk, rfl, Hor, hbel⟩ := hrel
      by_cases hlt : k < n
      · rcases HA.out with h | ⟨b, off, rfl, hc⟩
        · exact absurd hlt (by rw [Hn.out, h]; simp)
        have hkl : k < l.length := by rw [← Hn.out]; exact hlt
        have h0 := cell_old hbel (hc k hkl).1
        have h1 := cell_old hbel (hc k hkl).2
        have hs3 := hbel.size
        have hgc := gd_call Hgd.out hkl
        obtain ⟨a, ha⟩ := Int.eq_ofNat_of_zero_le hgc.1
        obtain ⟨bb, hbb⟩ := Int.eq_ofNat_of_zero_le (show 0 ≤ cb l k by omega)
        rw [ha] at hgc h0
        rw [hbb] at hgc h1
        have haF : a < F := by omega
        have hbF : bb < F := by omega
        have hab : a ≠ bb := by omega
        have ha3 : (a : Int) < F := by omega
        have hb3 : (bb : Int) < F := by omega
        have hk2 : (k : Int) < n := by omega
        have hda := dg_le l k a
        have hdb := dg_le l k bb
        have Hsucc : Hid (dgT l (k + 1) = inc1 (inc1 (dgT l k) a) bb) := Lib.hid (by rw [dgT, ha, hbb, Int.toNat_natCast, Int.toNat_natCast])
        obtain ⟨D, hD⟩ : ∃ D, dgT l k = D := ⟨_, rfl⟩
        have hor : wr.ownsRow B 3 1 (.slice (some ⟨B, 0, none⟩) F F) F (ns (fvL F fun v => ((D v : Nat) : Int))) := by rw [← hD]; exact Hor.out
        rw [hD] at hda hdb Hsucc
        have hsB : B < wr.heap.size := (hor.lt B rfl).2
        obtain ⟨w3, hw3⟩ : ∃ w3, wr.alloc (.cells #[.int .i64 a, .int .i64 bb] 46) = w3 := ⟨_, rfl⟩
        obtain ⟨G, hG⟩ : ∃ G, wr.heap.size = G := ⟨_, rfl⟩
        have hP3 : w3.heap[G]? = some (.cells #[.int .i64 a, .int .i64 bb] 46 (0, 0)) := by rw [← hw3, ← hG]; exact heap_alloc_new _ _
        have hor3 := hor.alloc (.cells #[.int .i64 a, .int .i64 bb] 46)
        have hb3' := hbel.alloc hs3 (.cells #[.int .i64 a, .int .i64 bb] 46)
        rw [hw3] at hor3 hb3'
        have c0 : w3.cell? ⟨G, 0, none⟩ = some (.int .i64 a) := by rw [cell_of_row _ _ _ _ _ _ hP3]; rfl
        have c1 : w3.cell? ⟨G, 1, none⟩ = some (.int .i64 bb) := by rw [cell_of_row _ _ _ _ _ _ hP3]; rfl
        have fa := row_num hor3 (fvL_length _ _).symm a haF
        rw [na_fvL haF] at fa
        have za := hor3.frozenAt a
        have hor4 := (hor3.stored a (.int .i64 ((D a : Int) + 1))).1
        have hb4 := hb3'.setCell (p := ⟨B, a, none⟩) hBw (.int .i64 ((D a : Int) + 1))
        have hP4 : (w3.setCell ⟨B, a, none⟩ (.int .i64 ((D a : Int) + 1))).heap[G]? = some (.cells #[.int .i64 a, .int .i64 bb] 46 (0, 0)) := (heap_setCell_other _ _ _ _ (by show _ ≠ B; omega)).trans hP3
        rw [ns_set, fvL_set, fvL_congr (e := fun v => ((inc1 D a v : Nat) : Int)) (fun v _ => by
          unfold updI inc1 upd
          by_cases e : v = a
          · rw [if_pos e, if_pos e]; simp
          · rw [if_neg e, if_neg e])] at hor4
        obtain ⟨w4, hw4⟩ : ∃ w4, w3.setCell ⟨B, a, none⟩ (.int .i64 ((D a : Int) + 1)) = w4 := ⟨_, rfl⟩
        rw [hw4] at hor4 hb4 hP4
        have d0 : w4.cell? ⟨G, 0, none⟩ = some (.int .i64 a) := by rw [cell_of_row _ _ _ _ _ _ hP4]; rfl
        have d1 : w4.cell? ⟨G, 1, none⟩ = some (.int .i64 bb) := by rw [cell_of_row _ _ _ _ _ _ hP4]; rfl
        have fb := row_num hor4 (fvL_length _ _).symm bb hbF
        rw [na_fvL hbF, show inc1 D a bb = D bb by simp [inc1, upd, Ne.symm hab]] at fb
        have zb := hor4.frozenAt bb
        have hor5 := (hor4.stored bb (.int .i64 ((D bb : Int) + 1))).1
        have hb5 := hb4.setCell (p := ⟨B, bb, none⟩) hBw (.int .i64 ((D bb : Int) + 1))
        rw [ns_set, fvL_set, fvL_congr (e := fun v => ((dgT l (k + 1) v : Nat) : Int)) (fun v _ => by
          rw [Hsucc.out]
          unfold updI
          rw [show inc1 (inc1 D a) bb v = if v = bb then inc1 D a bb + 1 else inc1 D a v from rfl, show inc1 D a bb = D bb by simp [inc1, upd, Ne.symm hab]]
          by_cases e : v = bb
          · rw [if_pos e, if_pos e]; simp
          · rw [if_neg e, if_neg e])] at hor5
        have Hor5 := Lib.hid hor5
        have Hb5 := Lib.hid hb5
        have hwa : IntKind.i64.wrap ((D a : Int) + 1) = (D a : Int) + 1 := IntWalk.i64_in _ (by omega)
        have hwb : IntKind.i64.wrap ((D bb : Int) + 1) = (D bb : Int) + 1 := IntWalk.i64_in _ (by omega)
        clear hor hor3 hor4 hor5 hb3' hb4 hb5 hP3 hP4 hD hc ha hbb hbel Hor
        go_wp2_with fail
        go_roundw
        case rel => exact ⟨k + 1, by omega, by go_num, Hor5, Hb5.out⟩
        case measure => simp [intOf]; omega
      · obtain rfl : k = n := by omega
        have Hfin : Hid (wr.ownsRow B 3 1 (.slice (some ⟨B, 0, none⟩) F F) (degR (F : Int) l).length (ns (degR (F : Int) l))) := Lib.hid (by rw [Hdeg.out, degN_length, ← Hn.out]; exact Hor.out)
        go_wp2_with fail
        go_ret2
        exact ⟨_, rfl, own_base hBw Hfin.out, hbel⟩

end Go.Proofs.Ytbddhjpofijmpaa
