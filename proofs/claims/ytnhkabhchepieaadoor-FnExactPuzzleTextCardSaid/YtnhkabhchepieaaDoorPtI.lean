/- The text of a puzzle: the model and the program. -/
import Derived.Test.YtnhkabhchepieaaDoorPtS
import Derived.Test.YtnhkabhchepieaaDoorJoinN
namespace Go.Proofs.YtnhkabhchepieaaDoor
open Go.ChangeShapes Go.WideShapes Go.ChangeAt Go.RowKit
set_option linter.unusedVariables false


theorem clues_sat {w : World} {b N : Nat} {l : List Clu} (h : CluesAt w (some ⟨b, 0, none⟩) l) (hn : N = l.length) : ∀ i, i < N → Sat4 w b 0 l i := by
  subst hn
  rcases h with h | ⟨b', off, e, hs⟩
  · subst h; intro i hi; simp at hi
  · cases e; exact hs

set_option maxRecDepth 20000 in
theorem specPt_any (w : World) (f n : Int) (gb : Nat) (cap : Nat) (l : List Clu) (N : Nat) (HN : Hid (N = l.length)) (hN : N ≤ 1048576) (hc : N ≤ cap) (Hc : CluesAt w (some ⟨gb, 0, none⟩) l) :
    Calls Tryd.prog 27 #[.agg #[.int .i64 f, .int .i64 n, .slice (some ⟨gb, 0, none⟩) N cap]] w fun e w' => e = .returned (.tuple #[.string (ptB f n l), .bool (goodB f n l)]) ∧ Below w.heap.size w w' := by
  obtain ⟨W, hW, hbW, hsW, rX⟩ := box1 w #[.int .i64 f, .int .i64 n, .slice (some ⟨gb, 0, none⟩) N cap] 44
  have HW := Lib.hid hW
  have HbW := Lib.hid hbW
  have HcW := Lib.hid (Hc.kept hbW)
  have HRX := Lib.hid rX
  have x0 : W.cell? ⟨w.heap.size, 0, none⟩ = some (.int .i64 f) := cell_of_row _ _ _ _ _ _ rX
  have x1 : W.cell? ⟨w.heap.size, 1, none⟩ = some (.int .i64 n) := cell_of_row _ _ _ _ _ _ rX
  have x2 : W.cell? ⟨w.heap.size, 2, none⟩ = some (.slice (some ⟨gb, 0, none⟩) N cap) := cell_of_row _ _ _ _ _ _ rX
  clear hW rX hbW Hc
  have HI := Lib.hid (pzGood_any f n (some ⟨gb, 0, none⟩) cap l N W HN hN HcW)
  cases hg : goodB f n l
  · rw [show ptB f n l = ⟨#[]⟩ by simp [ptB, hg]]
    rw [hg] at HI
    clear hg
    go_enter Tryd.func27, Tryd.ntmps27
    go_wp2_with fail
    rw [HW.out]
    refine HI.out.mono ?_
    rintro e w1 ⟨rfl, hb1⟩
    have HB := Lib.hid (HbW.out.trans (hb1.mono HbW.out.size))
    clear hb1 x0 x1 x2
    go_wp2_with fail
    go_ret2
    exact ⟨rfl, HB.out⟩
  · rw [show ptB f n l = ⟨(ptT f n l).toArray⟩ by simp [ptB, hg]]
    have HG := Lib.hid hg
    rw [hg] at HI
    clear hg
    go_enter Tryd.func27, Tryd.ntmps27
    go_wp2_with fail
    rw [HW.out]
    refine HI.out.mono ?_
    rintro e w1 ⟨rfl, hb1⟩
    have HB := Lib.hid (HbW.out.trans (hb1.mono HbW.out.size))
    have Hc1 := Lib.hid (HcW.out.kept hb1)
    have x0 := cell_old hb1 x0
    have x1 := cell_old hb1 x1
    have x2 := cell_old hb1 x2
    clear hb1
    go_wp2_with fail
    refine (pzText_any w1 f n (some ⟨gb, 0, none⟩) cap l N HN HG Hc1.out).mono ?_
    rintro e w3 ⟨rfl, hb3⟩
    have HB3 := Lib.hid (HB.out.trans (hb3.mono HB.out.size))
    clear hb3 x0 x1 x2
    go_wp2_with fail
    go_ret2
    exact ⟨rfl, HB3.out⟩

set_option maxRecDepth 20000 in
theorem clueText_any (a b c d : Int) (w : World) (ha : 0 ≤ a ∧ a < 100) (hb : 0 ≤ b ∧ b < 100) (hc : 0 ≤ c ∧ c < 100) (hd : 0 ≤ d ∧ d < 100) :
    Calls Tryd.prog 58 #[.agg #[.int .i64 a, .int .i64 b, .int .i64 c, .int .i64 d]] w fun e w' => e = .returned (.string ⟨(cw (a, b, c, d)).toArray⟩) ∧ Below w.heap.size w w' := by
  obtain ⟨W, hW, hbW, hsW, rX, rY⟩ := box2 w #[.int .i64 a, .int .i64 b, .int .i64 c, .int .i64 d] 83 #[.int .i64 a, .int .i64 b, .int .i64 c, .int .i64 d] 3
  have HW := Lib.hid hW
  have HbW := Lib.hid hbW
  have HNu : Hid (NumsAt W (some ⟨w.heap.size + 1, 0, none⟩) [a, b, c, d]) := Lib.hid (.inr ⟨w.heap.size + 1, 0, rfl, fun i hi => by
    have h4 : i = 0 ∨ i = 1 ∨ i = 2 ∨ i = 3 := by simp at hi; omega
    rcases h4 with rfl | rfl | rfl | rfl <;> exact cell_of_row _ _ _ _ _ _ rY⟩)
  have HJ := joinNumbers_any W (some ⟨w.heap.size + 1, 0, none⟩) 4 [a, b, c, d] 4 46 (Lib.hid rfl) (by omega) HNu.out (Lib.hid (fun j hj => by
    have h4 : j = 0 ∨ j = 1 ∨ j = 2 ∨ j = 3 := by omega
    rcases h4 with rfl | rfl | rfl | rfl
    · exact ha
    · exact hb
    · exact hc
    · exact hd))
  rw [show Lib.join (nts [a, b, c, d]) [46] = cw (a, b, c, d) from rfl] at HJ
  have HJ := Lib.hid HJ
  clear hW hbW hsW rX rY ha hb hc hd
  go_enter Tryd.func58, Tryd.ntmps58
  go_wp2_with fail
  rw [HW.out]
  refine HJ.out.mono ?_
  rintro e w2 ⟨rfl, hb2⟩
  have HB := Lib.hid (HbW.out.trans (hb2.mono HbW.out.size))
  clear hb2
  go_wp2_with fail
  go_ret
  exact ⟨rfl, HB.out⟩

set_option maxHeartbeats 1600000 in
set_option maxRecDepth 20000 in
theorem implPt_any (w : World) (f n : Int) (gb : Nat) (cap : Nat) (l : List Clu) (N : Nat) (HN : Hid (N = l.length)) (hN : N ≤ 1048576) (hc : N ≤ cap) (Hc : CluesAt w (some ⟨gb, 0, none⟩) l) :
    Calls Tryd.prog 28 #[.agg #[.int .i64 f, .int .i64 n, .slice (some ⟨gb, 0, none⟩) N cap]] w fun e w' => e = .returned (.tuple #[.string (ptB f n l), .bool (goodB f n l)]) ∧ Below w.heap.size w w' := by
  obtain ⟨i0, hi, hz0, hz1, hz2⟩ := info_parts info9
  have Hz := Lib.hid (And.intro hz0 (And.intro hz1 hz2))
  clear hz0 hz1 hz2
  obtain ⟨W, hW, hbW, hsW, rX⟩ := box1 w #[.int .i64 f, .int .i64 n, .slice (some ⟨gb, 0, none⟩) N cap] 44
  have HW := Lib.hid hW
  have HbW := Lib.hid hbW
  have HcW := Lib.hid (Hc.kept hbW)
  have HRX := Lib.hid rX
  have x0 : W.cell? ⟨w.heap.size, 0, none⟩ = some (.int .i64 f) := cell_of_row _ _ _ _ _ _ rX
  have x1 : W.cell? ⟨w.heap.size, 1, none⟩ = some (.int .i64 n) := cell_of_row _ _ _ _ _ _ rX
  have x2 : W.cell? ⟨w.heap.size, 2, none⟩ = some (.slice (some ⟨gb, 0, none⟩) N cap) := cell_of_row _ _ _ _ _ _ rX
  clear hW rX hbW Hc
  have HI := Lib.hid (implIsPuzzle_any W f n (some ⟨gb, 0, none⟩) cap l N HN hN hc HcW.out)
  cases hg : goodB f n l
  · rw [show ptB f n l = ⟨#[]⟩ by simp [ptB, hg]]
    rw [hg] at HI
    clear hg
    go_enter Tryd.func28, Tryd.ntmps28
    go_wp2_with fail
    rw [HW.out]
    refine HI.out.mono ?_
    rintro e w1 ⟨rfl, hb1⟩
    have HB := Lib.hid (HbW.out.trans (hb1.mono HbW.out.size))
    clear hb1 x0 x1 x2
    go_wp2_with fail
    go_ret2
    exact ⟨rfl, HB.out⟩
  · rw [show ptB f n l = ⟨(ptT f n l).toArray⟩ by simp [ptB, hg]]
    have HG := Lib.hid hg
    rw [hg] at HI
    clear hg
    obtain ⟨hf, hn, h6, hk4⟩ := good_small HG.out
    have hN6 : N ≤ 6 := by rw [HN.out]; exact h6
    have Hk4 := Lib.hid hk4
    have Hff : Hid (0 ≤ f ∧ f < 100) := Lib.hid (by omega)
    have Hnn : Hid (0 ≤ n ∧ n < 100) := Lib.hid (by omega)
    clear hk4 hf hn h6
    go_enter Tryd.func28, Tryd.ntmps28
    go_wp2_with fail
    rw [HW.out]
    refine HI.out.mono ?_
    rintro e w1 ⟨rfl, hb1⟩
    have HB1 := Lib.hid (HbW.out.trans (hb1.mono HbW.out.size))
    have Hc1 := Lib.hid (HcW.out.kept hb1)
    have HX1 := Lib.hid (row_later HRX.out hb1)
    have x2 := cell_old hb1 x2
    clear hb1 x0 x1
    go_wp2_with (refine wpList_make_full _ rfl _ _ 53 rfl w1.heap.size 9 i0 (.string ⟨#[]⟩) 1 Tryd.underlying53 hi Hz.out.1 Hz.out.2.1 .i64 .i64 _ _ N rfl rfl rfl rfl ?_ ?_ ?_ ?_)
    · rw [Hz.out.2.2]; omega
    · unfold maxLen; omega
    · exact Nat.le_refl _
    intro w2 hown hgr
    have hown2 : w2.ownsRow w1.heap.size 9 1 (.slice (some ⟨w1.heap.size, 0, none⟩) N N) N (List.replicate N (.string ⟨#[]⟩)) := by rw [← zero_strings]; simpa using hown
    rw [show List.replicate N (.string ⟨#[]⟩ : Value) = stp (cws l) 0 by rw [stp_zero, cws_len, ← HN.out]] at hown2
    have Hown0 := Lib.hid hown2
    have Hb2 := Lib.hid ((Below.refl w1.heap.size w1).grown hgr (Nat.le_refl _) (fun _ h => by cases h))
    have x2 := cell_old Hb2.out x2
    have hs1 := HB1.out.size
    clear hown hown2 hgr
    go_wp2_with fail
    clear x2
    go_loopw [17] (fun i wr => ∃ k : Nat, k ≤ N ∧ i = .int .i64 k ∧ wr.ownsRow w1.heap.size 9 1 (.slice (some ⟨w1.heap.size, 0, none⟩) N N) N (stp (cws l) k) ∧ Below w1.heap.size w1 wr) (fun i _ => N - (intOf i).toNat)
    case atStart => exact ⟨0, Nat.zero_le _, rfl, Hown0.out, Hb2.out⟩
    case round =>
      obtain ⟨k, hk, rfl, hor, hbel⟩ := hrel
      have hsz := hbel.size
      by_cases hlt : k < N
      · have hkl : k < l.length := by rw [← HN.out]; exact hlt
        obtain ⟨h0, h1, h2, h3⟩ := (clues_sat (Hc1.out.kept hbel) HN.out) k hlt
        rw [Nat.zero_add] at h0 h1 h2 h3
        have HQ := Lib.hid (Hk4.out k hkl)
        have hst0 := stp_set (cws l) k (by rw [cws_len]; exact hkl)
        rw [cws_get l k hkl] at hst0
        obtain ⟨x, hx⟩ : ∃ x, k0 l k = x := ⟨_, rfl⟩
        obtain ⟨y, hy⟩ : ∃ y, k1 l k = y := ⟨_, rfl⟩
        obtain ⟨z, hz⟩ : ∃ z, k2 l k = z := ⟨_, rfl⟩
        obtain ⟨u, hu⟩ : ∃ u, k3 l k = u := ⟨_, rfl⟩
        rw [hx] at HQ h0 hst0
        rw [hy] at HQ h1 hst0
        rw [hz] at HQ h2 hst0
        rw [hu] at HQ h3 hst0
        have Hst0 := Lib.hid hst0
        clear hx hy hz hu hst0
        obtain ⟨wx, hwx, hbx, hsx, rC⟩ := box1 wr #[.int .i64 x, .int .i64 y, .int .i64 z, .int .i64 u] 83
        have HWX := Lib.hid hwx
        have Horx := Lib.hid (own_later hor hbx)
        have Hbx := Lib.hid (hbel.trans (hbx.mono hsz))
        have hsx2 := Hbx.out.size
        have c0 : wx.cell? ⟨wr.heap.size, 0, none⟩ = some (.int .i64 x) := cell_of_row _ _ _ _ _ _ rC
        have c1 : wx.cell? ⟨wr.heap.size, 1, none⟩ = some (.int .i64 y) := cell_of_row _ _ _ _ _ _ rC
        have c2 : wx.cell? ⟨wr.heap.size, 2, none⟩ = some (.int .i64 z) := cell_of_row _ _ _ _ _ _ rC
        have c3 : wx.cell? ⟨wr.heap.size, 3, none⟩ = some (.int .i64 u) := cell_of_row _ _ _ _ _ _ rC
        clear hwx hbx hsx rC hor hbel
        go_upto_region 7 with (fail)
        rw [HWX.out]
        clear h0 h1 h2 h3
        go_wp2_with fail
        refine (clueText_any x y z u wx HQ.out.1 HQ.out.2.1 HQ.out.2.2.1 HQ.out.2.2.2).mono ?_
        rintro e w5 ⟨rfl, hb5⟩
        have hor5 := own_later Horx.out hb5
        have hbel5 := Hbx.out.trans (hb5.mono hsx2)
        obtain ⟨u0, z0⟩ := own_some hor5 k (by omega)
        have zf0 := hor5.frozenAt k
        have hst := (hor5.stored k (.string ⟨(cw (x, y, z, u)).toArray⟩)).1
        rw [Hst0.out] at hst
        have Hst := Lib.hid hst
        have Hbs := Lib.hid (hbel5.setCell (p := ⟨w1.heap.size, k, none⟩) (Nat.le_refl _) (.string ⟨(cw (x, y, z, u)).toArray⟩))
        clear hst hor5 hbel5 hb5 c0 c1 c2 c3
        go_wp2_with fail
        go_roundw
        case rel => exact ⟨k + 1, by omega, by go_num, Hst.out, Hbs.out⟩
        case measure => simp [intOf]; omega
      · obtain rfl : k = N := by omega
        have hkk : ¬ (k : Int) < k := by omega
        have Hor := Lib.hid hor
        have hle : (Lib.join (cws l) [44]).length ≤ 100 := by
          rw [← jn_all, cws_len, ← HN.out]
          have := jn_le 44 (cws_le l) k
          omega
        have HJ := Lib.hid (fun (wq : World) (h : Below wr.heap.size wr wq) => join_row wq w1.heap.size w1.heap.size k (cws l) 44 (by rw [cws_len]; exact HN.out) (by omega) (own_later Hor.out h) (by omega))
        have x0 : wr.cell? ⟨w.heap.size, 0, none⟩ = some (.int .i64 f) := cell_of_row _ _ _ _ _ _ (row_later HX1.out hbel)
        have x1 : wr.cell? ⟨w.heap.size, 1, none⟩ = some (.int .i64 n) := cell_of_row _ _ _ _ _ _ (row_later HX1.out hbel)
        have sf := nb_le f
        have sn := nb_le n
        obtain ⟨J, hJ⟩ : ∃ J : ByteArray, (⟨(Lib.join (cws l) [44]).toArray⟩ : ByteArray) = J := ⟨_, rfl⟩
        have sJ : J.size ≤ 100 := by rw [← hJ]; exact hle
        rw [hJ] at HJ
        have q0 : ¬ 9223372036854775807 < (nb f).size + 1 := by omega
        have q1 : ¬ 9223372036854775807 < (nb f).size + 1 + (nb n).size := by omega
        have q2 : ¬ 9223372036854775807 < (nb f).size + 1 + (nb n).size + 1 := by omega
        have q3 : ¬ 9223372036854775807 < (nb f).size + 1 + (nb n).size + 1 + J.size := by omega
        have HEnd : Hid (nb f ++ ⟨#[99]⟩ ++ nb n ++ ⟨#[58]⟩ ++ J = ⟨(ptT f n l).toArray⟩) := Lib.hid (by
          have h1 : (nb f ++ ⟨#[99]⟩ ++ nb n ++ ⟨#[58]⟩ ++ J).data.toList = ptT f n l := by rw [ba_app, headC, ← hJ, ptT]
          have h2 : ∀ s : ByteArray, s = ⟨s.data.toList.toArray⟩ := fun s => by simp
          rw [h2 (nb f ++ ⟨#[99]⟩ ++ nb n ++ ⟨#[58]⟩ ++ J), h1])
        have HI2 : Hid (wr.drew.cell? ⟨w.heap.size, 0, none⟩ = some (.int .i64 f) ∧ wr.drew.cell? ⟨w.heap.size, 1, none⟩ = some (.int .i64 n) ∧ Below wr.heap.size wr wr.drew) := Lib.hid ⟨x0, x1, (Below.refl _ _).drew⟩
        have Hbel := Lib.hid hbel
        clear hor hbel hle hJ
        go_wp2_with fail
        go_region_held3 (fun w' => w'.cell? ⟨w.heap.size, 0, none⟩ = some (.int .i64 f) ∧ w'.cell? ⟨w.heap.size, 1, none⟩ = some (.int .i64 n) ∧ Below wr.heap.size wr w')
          (first | exact HI2.out | exact two_kept (by assumption) hb2 | (go_split_ands; exact two_kept ⟨by assumption, by assumption, by assumption⟩ hb2) | go_keep)
          (first
            | (go_at_call 52; first | (go_at_call_of 52 (Value.int .i64 f); refine (itoa_b f _ Hff.out).mono ?_; rintro e w3 ⟨rfl, rfl⟩) | (refine (itoa_b n _ Hnn.out).mono ?_; rintro e w3 ⟨rfl, rfl⟩))
            | (go_at_call 35; refine (HJ.out _ ?_).mono ?_; (go_split_ands; assumption); rintro e w3 ⟨rfl, hb2⟩)
            | fail)
        have hb3 : Below wr.heap.size wr w3 := (show w3.cell? ⟨w.heap.size, 0, none⟩ = some (.int .i64 f) ∧ w3.cell? ⟨w.heap.size, 1, none⟩ = some (.int .i64 n) ∧ Below wr.heap.size wr w3 by assumption).2.2
        have HB3 := Lib.hid (HB1.out.trans ((Hbel.out.trans (hb3.mono hsz)).mono hs1))
        clear x0 x1 hb3
        go_wp2_with fail
        go_ret2
        exact ⟨by rw [HEnd.out]; rfl, HB3.out⟩

end Go.Proofs.YtnhkabhchepieaaDoor
