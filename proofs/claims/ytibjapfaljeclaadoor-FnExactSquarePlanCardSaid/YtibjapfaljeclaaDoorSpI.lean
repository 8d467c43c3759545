/- The plan over a square: the program. -/
import Derived.Test.YtibjapfaljeclaaDoorSpS
import Derived.Test.YtibjapfaljeclaaDoorTpI
namespace Go.Proofs.YtibjapfaljeclaaDoor
open Go.ChangeShapes Go.WideShapes Go.ChangeAt Go.RowKit
set_option linter.unusedVariables false

set_option maxHeartbeats 4000000 in
set_option maxRecDepth 20000 in
/-- The four calls of a square. -/
theorem squareCalls_any (a x y z : Nat) (w : World) (h1 : a ≠ x) (h2 : y ≠ z) (h3 : a ≠ z) (h4 : x ≠ y) :
    Calls Tryd.prog 27 #[.agg #[.int .i64 a, .int .i64 x, .int .i64 y, .int .i64 z]] w fun e w' => ∃ v, e = .returned v ∧ w'.ownsRow w.heap.size 35 2 v 4 (cs (mid a x y z)) ∧ Below w.heap.size w w' := by
  have H1 := Lib.hid h1
  have H2 := Lib.hid h2
  have H3 := Lib.hid h3
  have H4 := Lib.hid h4
  clear h1 h2 h3 h4
  have hrow := heap_alloc_new w (.cells #[.int .i64 a, .int .i64 x, .int .i64 y, .int .i64 z] 51)
  have c0 := cell_of_row _ _ 0 _ _ _ hrow
  have c1 := cell_of_row _ _ 1 _ _ _ hrow
  have c2 := cell_of_row _ _ 2 _ _ _ hrow
  have c3 := cell_of_row _ _ 3 _ _ _ hrow
  simp only [List.getElem?_toArray, List.getElem?_cons_zero, List.getElem?_cons_succ] at c0 c1 c2 c3
  have Hb0 := Lib.hid (bel_alloc (wr := w) (.cells #[.int .i64 a, .int .i64 x, .int .i64 y, .int .i64 z] 51))
  clear hrow
  go_enter Tryd.func27, Tryd.ntmps27
  go_upto_region 1 with (fail)
  go_quiet (fail)
  have Hb1 := Lib.hid (below_drewN Hb0.out nq)
  obtain ⟨w1, hw⟩ : ∃ w1, (w.alloc (.cells #[.int .i64 a, .int .i64 x, .int .i64 y, .int .i64 z] 51)).drewN nq = w1 := ⟨_, rfl⟩
  rw [hw] at Hb1 ⊢
  clear c0 c1 c2 c3 hw Hb0
  go_wp2_with fail
  refine (callOf_b a x w1 H1.out).mono ?_
  rintro e w2 ⟨rfl, hb2⟩
  have Hb2 := Lib.hid (Hb1.out.trans (hb2.mono Hb1.out.size))
  clear hb2
  go_wp2_with fail
  refine (callOf_b y z w2 H2.out).mono ?_
  rintro e w3 ⟨rfl, hb3⟩
  have Hb3 := Lib.hid (Hb2.out.trans (hb3.mono Hb2.out.size))
  clear hb3
  go_wp2_with fail
  refine (callOf_b a z w3 H3.out).mono ?_
  rintro e w4 ⟨rfl, hb4⟩
  have Hb4 := Lib.hid (Hb3.out.trans (hb4.mono Hb3.out.size))
  clear hb4
  go_wp2_with fail
  refine (callOf_b x y w4 H4.out).mono ?_
  rintro e w5 ⟨rfl, hb5⟩
  have Hb5 := Lib.hid (Hb4.out.trans (hb5.mono Hb4.out.size))
  clear hb5
  go_wp2_with fail
  go_ret
  exact ⟨_, rfl, World.ownsRow_lit w5 _ 4 Hb5.out.size (by unfold maxLen; omega) rfl, Hb5.out.alloc Hb5.out.size _⟩


set_option maxRecDepth 20000 in
theorem concatB (w : World) (B n0 n1 n2 cap0 cap1 cap2 : Nat) (a0 a1 a2 : Option Addr) (p d q : List (Int × Int)) (H0 : Hid (n0 = p.length ∧ n0 ≤ cap0 ∧ (a0 = none → cap0 = 0))) (H1 : Hid (n1 = d.length ∧ n1 ≤ cap1 ∧ (a1 = none → cap1 = 0))) (H2 : Hid (n2 = q.length ∧ n2 ≤ cap2 ∧ (a2 = none → cap2 = 0))) (hp : n0 ≤ 60) (hd : n1 ≤ 60) (hq : n2 ≤ 60)
    (HC : Hid (w.cell? ⟨B, 0, none⟩ = some (.slice a0 n0 cap0) ∧ w.cell? ⟨B, 1, none⟩ = some (.slice a1 n1 cap1) ∧ w.cell? ⟨B, 2, none⟩ = some (.slice a2 n2 cap2)))
    (HP : Hid (CallsAt w a0 p)) (HD : Hid (CallsAt w a1 d)) (HQ : Hid (CallsAt w a2 q)) :
    Calls Tryd.prog 21 #[.slice (some ⟨B, 0, none⟩) 3 3] w fun e w' => ∃ v, e = .returned v ∧ w'.ownsRow w.heap.size 35 2 v (p ++ (d ++ q)).length (cs (p ++ (d ++ q))) ∧ Below w.heap.size w w' := by
  have e : [p, d, q].flatten = p ++ (d ++ q) := by simp
  have h := concat_any w (some ⟨B, 0, none⟩) 3 [p, d, q] 3 rfl (by omega) (by
      intro i
      match i with
      | 0 => show p.length ≤ 60; have := H0.out.1; omega
      | 1 => show d.length ≤ 60; have := H1.out.1; omega
      | 2 => show q.length ≤ 60; have := H2.out.1; omega
      | (i + 3) => simp [crow]) (by
      refine .inr ⟨B, 0, (fun i => if i = 0 then a0 else if i = 1 then a1 else a2), (fun i => if i = 0 then cap0 else if i = 1 then cap1 else cap2), rfl, ?_, ?_⟩
      · intro i hi
        match i, hi with
        | 0, _ =>
          refine ⟨?_, HP.out⟩
          show w.cell? ⟨B, 0, none⟩ = some (.slice a0 p.length cap0)
          rw [← H0.out.1]; exact HC.out.1
        | 1, _ =>
          refine ⟨?_, HD.out⟩
          show w.cell? ⟨B, 1, none⟩ = some (.slice a1 d.length cap1)
          rw [← H1.out.1]; exact HC.out.2.1
        | 2, _ =>
          refine ⟨?_, HQ.out⟩
          show w.cell? ⟨B, 2, none⟩ = some (.slice a2 q.length cap2)
          rw [← H2.out.1]; exact HC.out.2.2
        | (i + 3), hi => simp at hi; omega
      · intro i hi
        match i, hi with
        | 0, _ => exact ⟨by show p.length ≤ cap0; have := H0.out; omega, H0.out.2.2⟩
        | 1, _ => exact ⟨by show d.length ≤ cap1; have := H1.out; omega, H1.out.2.2⟩
        | 2, _ => exact ⟨by show q.length ≤ cap2; have := H2.out; omega, H2.out.2.2⟩
        | (i + 3), hi => simp at hi; omega)
  rw [e] at h
  exact h

set_option maxHeartbeats 4000000 in
set_option maxRecDepth 20000 in
theorem implSp_any (w : World) (f : Int) (ao : Option Addr) (cap : Nat) (l : List (Int × Int)) (n : Nat) (Hn : Hid (n = l.length)) (hs : n ≤ 1048576) (Hc : CallsAt w ao l) (HT : Hid (TabHere w)) :
    Calls Tryd.prog 13 #[.int .i64 f, .slice ao n cap] w fun e w' => ∃ v, e = .returned (.tuple #[v, .bool (spB f l)]) ∧ w'.ownsRow w.heap.size 35 2 v (spR f l).length (cs (spR f l)) ∧ Below w.heap.size w w' := by
  have HA := Lib.hid Hc
  clear Hc
  cases hj : isjR f l
  · have Hno := Lib.hid (sp_no hj)
    have Hj := Lib.hid hj
    clear hj
    go_enter Tryd.func13, Tryd.ntmps13
    go_wp2_with fail
    refine (areJoined_any w f ao cap l n Hn hs HA.out).mono ?_
    rintro e w1 ⟨rfl, hb1⟩
    rw [Hj.out]
    go_wp2_with fail
    go_ret2
    exact ⟨.slice none 0 0, by rw [Hno.out.1]; rfl, by rw [Hno.out.2]; exact World.ownsRow_nil _ _ _ _, hb1⟩
  · have hnet := isj_net hj
    have hfr := net_fr hnet
    obtain ⟨F, rfl⟩ := Int.eq_ofNat_of_zero_le (show 0 ≤ f by omega)
    have HJ : Hid (joinB F l = true) := Lib.hid (by rw [← isj_at hnet]; exact hj)
    have HI := Lib.hid hj
    have Hg := Lib.hid hnet
    have Hgd := Lib.hid (net_gd hnet)
    have Hsh : Hid (∀ q, q ∈ sqW l F F → ∃ a x y z : Nat, q = qd a x y z ∧ Sq4 F a x y z) := Lib.hid (fun q hq => sq_four hq)
    obtain ⟨TT, hT⟩ : ∃ TT, sqW l F F = TT := ⟨_, rfl⟩
    have HTe := Lib.hid hT
    rw [hT] at Hsh
    clear hj hnet hT
    cases TT with
    | nil =>
      have Hno := Lib.hid (sp_nil HTe.out)
      go_enter Tryd.func13, Tryd.ntmps13
      go_wp2_with fail
      refine (areJoined_any w F ao cap l n Hn hs HA.out).mono ?_
      rintro e w1 ⟨rfl, hb1⟩
      rw [HI.out]
      have hs1 := hb1.size
      go_wp2_with fail
      refine (firstSquare_any F ao cap l n w1 Hn hs Hgd (Lib.hid (HA.out.kept hb1))).mono ?_
      rintro e w2 ⟨rfl, hb2⟩
      rw [HTe.out]
      have hb3 := hb1.trans (hb2.mono hs1)
      have hs3 := hb3.size
      have Hb4 := Lib.hid (hb3.alloc hs3 (.cells #[.int .i64 0, .int .i64 0, .int .i64 0, .int .i64 0] 51))
      have e1 : sqA [] = #[.int .i64 0, .int .i64 0, .int .i64 0, .int .i64 0] := rfl
      have e2 : anyQ [] = false := rfl
      rw [e1, e2]
      clear hb1 hb2 e1 e2
      go_wp2_with fail
      go_ret2
      exact ⟨.slice none 0 0, by rw [Hno.out.1]; rfl, by rw [Hno.out.2]; exact World.ownsRow_nil _ _ _ _, Hb4.out⟩
    | cons q r =>
      obtain ⟨a, x, y, z, rfl, h4⟩ := Hsh.out q (List.mem_cons_self ..)
      have Hy := Lib.hid (sp_yes HI.out HTe.out)
      have hlen := sp_len4 HI.out h4
      have H4 := Lib.hid h4
      have e1 := h4.ax
      have e2 := h4.ay
      have e3 := h4.xz
      have e4 := h4.yx
      have e5 := h4.yz
      have e6 := h4.yF
      have e7 := h4.zF
      obtain ⟨R, hR⟩ : ∃ R, tre l F (ts a x y z) = R := ⟨_, rfl⟩
      have HRe := Lib.hid hR
      rw [hR] at hlen
      obtain ⟨N, hN⟩ : ∃ N, R.length = N := ⟨_, rfl⟩
      have HNR : Hid (N = R.length) := Lib.hid hN.symm
      rw [hN] at hlen
      have hN6 : N ≤ 6 := by omega
      have hF4 : 4 ≤ F := hlen.2
      have Hyy : Hid (spR (F : Int) l = R.reverse ++ (mid a x y z ++ R)) := Lib.hid (by rw [Hy.out.2, spL, hR])
      clear hR hN hlen h4
      go_enter Tryd.func13, Tryd.ntmps13
      go_wp2_with fail
      refine (areJoined_any w F ao cap l n Hn hs HA.out).mono ?_
      rintro e w1 ⟨rfl, hb1⟩
      rw [HI.out]
      have hs1 := hb1.size
      go_wp2_with fail
      refine (firstSquare_any F ao cap l n w1 Hn hs Hgd (Lib.hid (HA.out.kept hb1))).mono ?_
      rintro e w2 ⟨rfl, hb2⟩
      rw [HTe.out]
      have hb3 := hb1.trans (hb2.mono hs1)
      have hs3 := hb3.size
      obtain ⟨w3, hw3⟩ : ∃ w3, w2.alloc (.cells #[.int .i64 a, .int .i64 x, .int .i64 y, .int .i64 z] 51) = w3 := ⟨_, rfl⟩
      have Hb4 : Hid (Below w.heap.size w w3) := Lib.hid (by rw [← hw3]; exact hb3.alloc hs3 _)
      have eA : sqA (qd a x y z :: r) = #[.int .i64 a, .int .i64 x, .int .i64 y, .int .i64 z] := rfl
      have eB : anyQ (qd a x y z :: r) = true := rfl
      have hrow := heap_alloc_new w2 (.cells #[.int .i64 a, .int .i64 x, .int .i64 y, .int .i64 z] 51)
      have c0 := cell_of_row _ _ 0 _ _ _ hrow
      have c1 := cell_of_row _ _ 1 _ _ _ hrow
      have c2 := cell_of_row _ _ 2 _ _ _ hrow
      have c3 := cell_of_row _ _ 3 _ _ _ hrow
      simp only [List.getElem?_toArray, List.getElem?_cons_zero, List.getElem?_cons_succ] at c0 c1 c2 c3
      rw [eA, eB]
      rw [hw3] at c0 c1 c2 c3
      clear hb1 hb2 eA eB hrow
      go_wp2_with fail
      refine (squareCalls_any a x y z _ (by omega) (by omega) (by omega) (by omega)).mono ?_
      rintro e w4 ⟨v4, rfl, own4, hb5⟩
      have Hb5 := Lib.hid (Hb4.out.trans (hb5.mono Hb4.out.size))
      have own4 := own_base Hb4.out.size own4
      obtain ⟨am, cm, rfl, hcm, hcm2, hcm3⟩ := own_cases own4 (show 4 = (mid a x y z).length from rfl)
      have HM4 := Lib.hid hcm
      have Hm4 : Hid (4 = (mid a x y z).length ∧ 4 ≤ cm ∧ (am = none → cm = 0)) := Lib.hid ⟨rfl, hcm2, hcm3⟩
      clear own4 hcm hcm2 hcm3 hb5 c0 c1 c2 c3 hw3 hb3 hs3 Hb4
      go_wp2_with fail
      refine (linksOf_any ao cap l n w4 Hn hs (Lib.hid (gd_two Hgd.out)) (Lib.hid (HA.out.kept Hb5.out))).mono ?_
      rintro e w5 ⟨rfl, hb6⟩
      obtain ⟨S, hS⟩ : ∃ S, lkT l l.length = S := ⟨_, rfl⟩
      have HS : Hid (∀ v u, (S v).testBit u = adj l v u) := Lib.hid (fun v u => by rw [← hS, lk_bit, adjT_adj Hgd.out])
      have HSm : Hid (∀ v, S v < 1024) := Lib.hid (fun v => by rw [← hS]; exact lk_small (gd_two Hgd.out) l.length (Nat.le_refl _) v)
      rw [hS]
      have HM5 := Lib.hid (HM4.out.kept hb6)
      have Hb6 := Lib.hid (Hb5.out.trans (hb6.mono Hb5.out.size))
      clear hS hb6 HM4 Hb5
      go_wp2_with fail
      refine (with_any 0 am cm (mid a x y z) 4 w5 (Lib.hid rfl) (by omega) (by omega) (Lib.hid (mid_two (F := F) (by omega) H4.out)) HM5).mono ?_
      rintro e w6 ⟨rfl, hb7⟩
      rw [wth_mid]
      have HM6 := Lib.hid (HM5.out.kept hb7)
      have Hb7 := Lib.hid (Hb6.out.trans (hb7.mono Hb6.out.size))
      clear hb7 HM5 Hb6
      go_wp2_with fail
      refine (callsOut_any F l S (ts a x y z) w6 Hgd HS HSm (ts_lt H4.out) (Lib.hid (HT.out.kept Hb7.out))).mono ?_
      rintro e w7 ⟨v7, rfl, own7, hb8⟩
      rw [HRe.out, ← HNR.out] at own7
      have HM7 := Lib.hid (HM6.out.kept hb8)
      have Hb8 := Lib.hid (Hb7.out.trans (hb8.mono Hb7.out.size))
      have own7 := own_base Hb7.out.size own7
      obtain ⟨ar, cr, rfl, hcr, hcr2, hcr3⟩ := own_cases own7 HNR.out
      have HR7 := Lib.hid hcr
      have Hr7 : Hid (N = R.length ∧ N ≤ cr ∧ (ar = none → cr = 0)) := Lib.hid ⟨HNR.out, hcr2, hcr3⟩
      have HO7 := Lib.hid own7
      clear own7 hcr hcr2 hcr3 hb8 HM6 Hb7
      go_wp2_with fail
      refine (callsIn_any w.heap.size (.slice ar N cr) R N w7 HNR (by omega) HO7.out).mono ?_
      rintro e w8 ⟨v8, rfl, own8, hb9⟩
      have HM8 := Lib.hid (HM7.out.kept hb9)
      have HR8 := Lib.hid (HR7.out.kept hb9)
      have Hb9 := Lib.hid (Hb8.out.trans (hb9.mono Hb8.out.size))
      obtain ⟨ai, ci, rfl, hci, hci2, hci3⟩ := own_cases own8 (by rw [List.length_reverse]; exact HNR.out)
      have HI8 := Lib.hid hci
      have Hi8 : Hid (N = R.reverse.length ∧ N ≤ ci ∧ (ai = none → ci = 0)) := Lib.hid ⟨by rw [List.length_reverse]; exact HNR.out, hci2, hci3⟩
      clear own8 hci hci2 hci3 hb9 HM7 HR7 HO7 Hb8
      go_wp2_with fail
      obtain ⟨w9, hw9⟩ : ∃ w9, w8.alloc (.cells #[.slice ai N ci, .slice am 4 cm, .slice ar N cr] 24) = w9 := ⟨_, rfl⟩
      have hb9 : Below w8.heap.size w8 w9 := by rw [← hw9]; exact bel_alloc _
      have hrow := heap_alloc_new w8 (.cells #[.slice ai N ci, .slice am 4 cm, .slice ar N cr] 24)
      have c0 := cell_of_row _ _ 0 _ _ _ hrow
      have c1 := cell_of_row _ _ 1 _ _ _ hrow
      have c2 := cell_of_row _ _ 2 _ _ _ hrow
      simp only [List.getElem?_toArray, List.getElem?_cons_zero, List.getElem?_cons_succ] at c0 c1 c2
      rw [hw9] at c0 c1 c2 ⊢
      refine (concatB w9 w8.heap.size N 4 N ci cm cr ai am ar R.reverse (mid a x y z) R Hi8 Hm4 Hr7 (by omega) (by omega) (by omega) (Lib.hid ⟨c0, c1, c2⟩) (Lib.hid (HI8.out.kept hb9)) (Lib.hid (HM8.out.kept hb9)) (Lib.hid (HR8.out.kept hb9))).mono ?_
      rintro e w10 ⟨v10, rfl, own10, hb10⟩
      have hb11 := Hb9.out.trans (hb9.mono Hb9.out.size)
      have Hb12 := Lib.hid (hb11.trans (hb10.mono hb11.size))
      have Hf : Hid (w10.ownsRow w.heap.size 35 2 v10 (spR (F : Int) l).length (cs (spR (F : Int) l))) := Lib.hid (by rw [Hyy.out]; exact own_base hb11.size own10)
      have Hyb := Lib.hid Hy.out.1
      clear own10 hb10 hb11 hb9 hrow c0 c1 c2 hw9
      go_wp2_with fail
      go_ret2
      exact ⟨v10, by rw [Hyb.out]; rfl, Hf.out, Hb12.out⟩

end Go.Proofs.YtibjapfaljeclaaDoor
