/- The farthest two friends: the program. -/
import Derived.Test.YtibjapfaljeclaaFst
namespace Go.Proofs.Ytibjapfaljeclaa
open Go.ChangeShapes Go.WideShapes Go.ChangeAt Go.RowKit
set_option linter.unusedVariables false

set_option maxRecDepth 20000 in
theorem allCalls_any (F : Nat) (w : World) (hF : F ≤ 10) :
    Calls Try.prog 46 #[.int .i64 F] w fun e w' => ∃ v, e = .returned v ∧ w'.ownsRow w.heap.size 46 2 v (wholeP (pr 3 0 F) F F).length (cs (wholeP (pr 3 0 F) F F)) ∧ Below w.heap.size w w' := by
  obtain ⟨i0, hi, hz0, hz1, hz2⟩ := info_parts info46
  go_enter Try.func46, Try.ntmps46
  go_wp2_with fail
  go_loopw [3, 7] (fun v i wr => ∃ a : Nat, a ≤ F ∧ i = .int .i64 a ∧ wr.ownsRow w.heap.size 46 2 v (wholeP (pr 3 0 F) F a).length (cs (wholeP (pr 3 0 F) F a)) ∧ Below w.heap.size w wr) (fun _ i _ => F - (intOf i).toNat)
  case atStart => exact ⟨0, Nat.zero_le _, rfl, World.ownsRow_nil _ _ _ _, Below.refl _ _⟩
  case round =>
    obtain ⟨a, ha, rfl, hor, hbel⟩ := hrel
    have hwl := wholeP_len (pr 3 0 F) hF a
    by_cases hlt : a < F
    · have Hor := Lib.hid hor
      clear hor
      go_wp2_with fail
      go_loopw [3, 5] (fun v i wr => ∃ m : Nat, a + 1 ≤ m ∧ m ≤ F ∧ i = .int .i64 m ∧ wr.ownsRow w.heap.size 46 2 v (wholeP (pr 3 0 F) F a ++ rowP (pr 3 0 F) a m).length (cs (wholeP (pr 3 0 F) F a ++ rowP (pr 3 0 F) a m)) ∧ Below w.heap.size w wr) (fun _ i _ => F - (intOf i).toNat)
      case atStart => exact ⟨a + 1, Nat.le_refl _, hlt, by go_num, by rw [rowP_low _ _ _ (Nat.le_refl _), List.append_nil]; exact Hor.out, hbel⟩
      case round =>
        clear Hor hbel
        obtain ⟨m, hm1, hm, rfl, hor, hbel⟩ := hrel
        have hrl := rowP_len (pr 3 0 F) a m
        have hll : (wholeP (pr 3 0 F) F a ++ rowP (pr 3 0 F) a m).length ≤ 200 := by rw [List.length_append]; omega
        have hsz := hbel.size
        by_cases hlm : m < F
        · have Hs : Hid (rowP (pr 3 0 F) a (m + 1) = rowP (pr 3 0 F) a m ++ [((a : Int), (m : Int))]) := Lib.hid (rowP_yes (by omega) (by simp [pr]))
          go_wp2_with (at_builtin; refine wpList_append_own _ rfl _ _ 26 rfl w.heap.size 46 i0 (.agg #[.int .i64 0, .int .i64 0]) 2 16 Try.underlying26 hi hz0 hz1 hz2 rfl (by decide) _ _ _ rfl (hor.alloc _) ⟨wr.heap.size, 0, none⟩ 1 1 [.int .i64 a, .int .i64 m] rfl rfl ?c1 ?c2 ?c3 ?c4 ?c5 ?_)
          case c1 => exact World.news_of_block (cs := #[.int .i64 a, .int .i64 m]) (t := 46) (fr := (0, 0)) (heap_alloc_new _ _)
          case c2 => intro u hu; simp at hu; rcases hu with rfl | rfl <;> rfl
          case c3 => unfold maxLen; omega
          case c4 => omega
          case c5 => simp; omega
          intro v' w8 hown' hgr _
          have Hown := Lib.hid hown'
          have Hbel := Lib.hid ((hbel.alloc hsz _).grown hgr (by simp; omega) (fun b hb => (hor.lt b hb).1))
          clear hown' hgr
          clear hor hbel
          go_wp2_with fail
          go_roundw
          case rel => exact ⟨m + 1, by omega, by omega, by go_num, by rw [Hs.out, ← List.append_assoc, cs_append, List.length_append, List.length_append]; exact Hown.out, Hbel.out⟩
          case measure => simp [intOf]; omega
        · obtain rfl : m = F := by omega
          have Hor := Lib.hid hor
          clear hor
          go_wp2_with fail
          go_roundw
          case rel => exact ⟨a + 1, by omega, by go_num, Hor.out, hbel⟩
          case measure => simp [intOf]; omega
    · obtain rfl : a = F := by omega
      have Hor := Lib.hid hor
      clear hor
      go_wp2_with fail
      go_ret
      exact ⟨_, rfl, Hor.out, hbel⟩


set_option maxHeartbeats 1600000 in
set_option maxRecDepth 20000 in
theorem implFar_any (w : World) (f : Int) (ao : Option Addr) (cap : Nat) (l : List (Int × Int)) (n : Nat) (Hn : Hid (n = l.length)) (hs : n ≤ 1048576) (Hc : CallsAt w ao l) :
    Calls Try.prog 28 #[.int .i64 f, .slice ao n cap] w fun e w' => e = .returned (.tuple #[.int .i64 (farX f l), .int .i64 (farY f l), .int .i64 (farM f l), .bool (farB f l)]) ∧ Below w.heap.size w w' := by
  have HA := Lib.hid Hc
  clear Hc
  cases hj : isjR f l
  · have Hno := Lib.hid (far_no (f := f) (l := l) (by rw [farB, hj]; rfl))
    have Hj := Lib.hid hj
    clear hj
    go_enter Try.func28, Try.ntmps28
    go_wp2_with fail
    refine (areJoined_any w f ao cap l n Hn hs HA.out).mono ?_
    rintro e w1 ⟨rfl, hb1⟩
    rw [Hj.out]
    go_wp2_with fail
    (try simp only [Exit.inBlock, Exit.then])
    refine bodyPost_ret (results_tmp4 rfl _ _ _) rfl ?_
    exact ⟨by rw [Hno.out.1, Hno.out.2.1, Hno.out.2.2.1, Hno.out.2.2.2]; rfl, hb1⟩
  · have hnet := isj_net hj
    have hfr := net_fr hnet
    obtain ⟨F, rfl⟩ := Int.eq_ofNat_of_zero_le (show 0 ≤ f by omega)
    have hJ : joinB F l = true := by rw [← isj_at hnet]; exact hj
    have HI := Lib.hid hj
    have Hg := Lib.hid hnet
    have hgd := net_gd hnet
    have Hgd := Lib.hid hgd
    by_cases h1 : F = 1
    · subst h1
      have Hno := Lib.hid (far_no (f := ((1 : Nat) : Int)) (l := l) (by rw [farB, hj]; rfl))
      clear hj hnet hJ hgd Hg
      go_enter Try.func28, Try.ntmps28
      go_wp2_with fail
      refine (areJoined_any w ((1 : Nat) : Int) ao cap l n Hn hs HA.out).mono ?_
      rintro e w1 ⟨rfl, hb1⟩
      rw [HI.out]
      go_wp2_with fail
      (try simp only [Exit.inBlock, Exit.then])
      refine bodyPost_ret (results_tmp4 rfl _ _ _) rfl ?_
      exact ⟨by rw [Hno.out.1, Hno.out.2.1, Hno.out.2.2.1, Hno.out.2.2.2]; rfl, hb1⟩
    · have Hfb : Hid (farB (F : Int) l = true) := Lib.hid (by rw [farB, hj]; simp; omega)
      have Hall : Hid (∀ a b, a < F → b < F → dst l a b < 10) := Lib.hid (fun a b ha hb => join_all hgd hJ ha b hb)
      have hne : ((F : Int) == 1) = false := by simp; omega
      clear hj hnet hJ hgd Hg
      go_enter Try.func28, Try.ntmps28
      go_wp2_with fail
      refine (areJoined_any w F ao cap l n Hn hs HA.out).mono ?_
      rintro e w1 ⟨rfl, hb1⟩
      rw [HI.out]
      have hs1 := hb1.size
      obtain ⟨B, hB⟩ : ∃ B, w1.heap.size = B := ⟨_, rfl⟩
      have hrow1 : (w1.alloc (.cells #[.int .i64 0, .int .i64 0] 46)).heap[B]? = some (.cells #[.int .i64 0, .int .i64 0] 46 (0, 0)) := by rw [← hB]; exact heap_alloc_new w1 _
      have Hrow1 := Lib.hid hrow1
      have Hb1 := Lib.hid (hb1.alloc hs1 (.cells #[.int .i64 0, .int .i64 0] 46))
      have hBw : w.heap.size ≤ B := by omega
      clear hrow1 hb1
      go_wp2_with fail
      try rw [hB]
      refine (allCalls_any F _ (by omega)).mono ?_
      rintro e w2 ⟨v, rfl, own, hb2⟩
      obtain ⟨ap, cp, rfl, hcp⟩ := own_shape own rfl
      have HP := Lib.hid hcp.1
      have hB2 : B < (w1.alloc (.cells #[.int .i64 0, .int .i64 0] 46)).heap.size := (Array.getElem?_eq_some_iff.1 Hrow1.out).1
      have Hrow2 : Hid (w2.heap[B]? = some (.cells #[.int .i64 0, .int .i64 0] 46 (0, 0))) := Lib.hid ((hb2.block _ hB2).trans Hrow1.out)
      have Hb2 := Lib.hid (Hb1.out.trans (hb2.mono Hb1.out.size))
      have HwL := wholeP_len (pr 3 0 F) (F := F) (by omega) F
      obtain ⟨P, hP⟩ : ∃ P, wholeP (pr 3 0 F) F F = P := ⟨_, rfl⟩
      have Hwat : Hid (∀ j, j < P.length → ∃ x y : Nat, ca P j = x ∧ cb P j = y ∧ x < y ∧ y < F) := Lib.hid (fun j hj => by rw [← hP] at hj ⊢; exact whole_at F hj)
      have HPall : Hid (frL l (0, 0, 0) P = frA l F F) := Lib.hid (by rw [← hP]; exact frL_all l F F)
      have HPok : Hid (∀ j, j ≤ P.length → okS (frL l (0, 0, 0) (P.take j))) := Lib.hid (fun j hj => by rw [← hP] at hj ⊢; exact frL_ok Hgd.out j hj)
      rw [hP] at HP HwL ⊢
      obtain ⟨N, hN⟩ : ∃ N, P.length = N := ⟨_, rfl⟩
      have HN := Lib.hid hN
      rw [hN] at HwL ⊢
      have HBw2 : B < w2.heap.size := (Array.getElem?_eq_some_iff.1 Hrow2.out).1
      have HPB : Hid (∀ b off, ap = some ⟨b, off, none⟩ → b ≠ B) := Lib.hid (fun b off e => by have := (hcp.2.2 b off e).2.1; omega)
      clear own hcp hb2 Hrow1 Hb1 hP hN hB hB2
      go_wp2_with fail
      go_loopw [9, 24] (fun g i wr => ∃ j X Y M : Nat, j ≤ N ∧ i = .int .i64 j ∧ g = .int .i64 M ∧ Hid (frL l (0, 0, 0) (P.take j) = (X, Y, M)) ∧ Hid (wr.heap[B]? = some (.cells #[.int .i64 X, .int .i64 Y] 46 (0, 0))) ∧ Hid (CallsAt wr ap P) ∧ Below w.heap.size w wr) (fun _ i _ => N - (intOf i).toNat)
      case atStart => exact ⟨0, 0, 0, 0, Nat.zero_le _, rfl, rfl, Lib.hid rfl, Hrow2, HP, Hb2.out⟩
      case round =>
        clear Hrow2 Hb2 HP HBw2
        obtain ⟨j, X, Y, M, hj, rfl, rfl, Hf, Hrow, HP, hbel⟩ := hrel
        have hs3 := hbel.size
        by_cases hlt : j < N
        · rcases HP.out with h | ⟨b, off, rfl, hc⟩
          · exact absurd hlt (by rw [← HN.out, h]; simp)
          have hjl : j < P.length := by rw [HN.out]; exact hlt
          have h0 := (hc j hjl).1
          have h1 := (hc j hjl).2
          obtain ⟨x, y, hx, hy, hxy, hyF⟩ := Hwat.out j hjl
          rw [hx] at h0
          rw [hy] at h1
          have hj2 : (j : Int) < N := by omega
          have hd10 := Hall.out x y (by omega) hyF
          have hstep := frL_step l (0, 0, 0) P hjl
          rw [hx, hy, Int.toNat_natCast, Int.toNat_natCast, Hf.out] at hstep
          have hix := fun w => index_DA (dst l x) w y (by omega)
          obtain ⟨D, hD⟩ : ∃ D, dst l x y = D := ⟨_, rfl⟩
          rw [fst1, hD] at hstep
          rw [hD] at hix hd10
          have hM10 : M ≤ 10 := by have := (HPok.out j (by omega)).2.2; rw [Hf.out] at this; exact this
          have hX10 : X ≤ 10 := by have := (HPok.out j (by omega)).1; rw [Hf.out] at this; exact this
          have hY10 : Y ≤ 10 := by have := (HPok.out j (by omega)).2.1; rw [Hf.out] at this; exact this
          obtain ⟨W, hW⟩ : ∃ W, wr.alloc (.cells #[.int .i64 x, .int .i64 y] 46) = W := ⟨_, rfl⟩
          have hBr : B < wr.heap.size := (Array.getElem?_eq_some_iff.1 Hrow.out).1
          have C0 : Hid (W.cell? ⟨wr.heap.size, 0, none⟩ = some (.int .i64 x)) := Lib.hid (by rw [← hW]; simp)
          have C1 : Hid (W.cell? ⟨wr.heap.size, 1, none⟩ = some (.int .i64 y)) := Lib.hid (by rw [← hW]; simp)
          have HbW : Hid (Below w.heap.size w W) := Lib.hid (by rw [← hW]; exact hbel.alloc hs3 _)
          have HrW : Hid (W.heap[B]? = some (.cells #[.int .i64 X, .int .i64 Y] 46 (0, 0))) := Lib.hid (by rw [← hW, Below.heap_alloc _ _ _ hBr]; exact Hrow.out)
          have HPW : Hid (CallsAt W (some ⟨b, off, none⟩) P) := Lib.hid (by rw [← hW]; exact HP.out.kept ((Below.refl _ _).alloc (Nat.le_refl _) _))
          have HAW : Hid (CallsAt W ao l) := Lib.hid (HA.out.kept HbW.out)
          obtain ⟨G, hG⟩ : ∃ G, wr.heap.size = G := ⟨_, rfl⟩
          rw [hG] at C0 C1
          have hBG : B < G := by omega
          have hGW : G < W.heap.size := World.block_lt_of_cell? _ _ C0.out
          have HW := Lib.hid hW
          have Hstep := Lib.hid hstep
          clear hW hc hstep hbel hD hx hy
          go_wp2_with fail
          rw [HW.out]
          try rw [hG]
          clear HW hG h0 h1 HP Hrow
          go_region_held3 (fun w' => CallsAt w' ao l ∧ w'.cell? ⟨G, 0, none⟩ = some (.int .i64 x) ∧ w'.cell? ⟨G, 1, none⟩ = some (.int .i64 y) ∧ Below W.heap.size W w')
            (first
              | exact ⟨HAW.out, C0.out, C1.out, (Below.refl _ _).drew⟩
              | (go_split_ands
                 refine ⟨?_, ?_, ?_, ?_⟩
                 · exact CallsAt.kept (by assumption) hb2
                 · exact cell_old hb2 (by assumption)
                 · exact cell_old hb2 (by assumption)
                 · exact Below.trans (by assumption) (hb2.mono (Below.size (by assumption))))
              | go_keep)
            (first
              | (go_at_call 45; (with_reducible refine (distancesFrom_any F x ao cap l n _ Hn hs Hgd (by omega) ?_).mono ?_); (go_split_ands; exact Lib.hid (by assumption)); rintro e w2 ⟨rfl, hb2⟩)
              | fail)
          rename_i hh
          have hbb : Below W.heap.size W w2 := hh.2.2.2
          have c0 : w2.cell? ⟨G, 0, none⟩ = some (.int .i64 x) := hh.2.1
          have c1 : w2.cell? ⟨G, 1, none⟩ = some (.int .i64 y) := hh.2.2.1
          clear hh
          have hrB := (hbb.block _ (by omega)).trans HrW.out
          have HrB := Lib.hid hrB
          have HPw := Lib.hid (HPW.out.kept hbb)
          have hb9 := HbW.out.trans (hbb.mono HbW.out.size)
          have Hb9 := Lib.hid hb9
          clear hb9 hbb
          by_cases hm : M < D
          · have hm2 : decide ((D : Int) > (M : Int)) = true := by simp only [decide_eq_true_eq]; omega
            have hm3 : decide ((M : Int) < (D : Int)) = true := hm2
            have Hs : Hid (frL l (0, 0, 0) (P.take (j + 1)) = (x, y, D)) := Lib.hid (by rw [Hstep.out, if_pos hm])
            have d0 : w2.cell? ⟨B, 0, none⟩ = some (.int .i64 X) := by rw [cell_of_row _ _ _ _ _ _ hrB]; rfl
            have d1 : w2.cell? ⟨B, 1, none⟩ = some (.int .i64 Y) := by rw [cell_of_row _ _ _ _ _ _ hrB]; rfl
            have z0 := frozen_of_row w2 B 0 _ _ hrB
            have z1 := frozen_of_row w2 B 1 _ _ hrB
            have hr3 := heap_setCell_same _ _ 0 _ _ (.int .i64 x) hrB
            have hr4 := heap_setCell_same _ _ 1 _ _ (.int .i64 y) hr3
            have Hr4 : Hid (((w2.setCell ⟨B, 0, none⟩ (.int .i64 x)).setCell ⟨B, 1, none⟩ (.int .i64 y)).heap[B]? = some (.cells #[.int .i64 x, .int .i64 y] 46 (0, 0))) := Lib.hid hr4
            have HP4 : Hid (CallsAt ((w2.setCell ⟨B, 0, none⟩ (.int .i64 x)).setCell ⟨B, 1, none⟩ (.int .i64 y)) (some ⟨b, off, none⟩) P) := Lib.hid (by
              rcases HPw.out with h | ⟨b', off', e, h⟩
              · exact .inl h
              · refine .inr ⟨b', off', e, fun i hi => ?_⟩
                have hne : B ≠ b' := fun he => HPB.out b' off' e he.symm
                rw [World.cell?_setCell_far _ _ _ _ hne, World.cell?_setCell_far _ _ _ _ hne, World.cell?_setCell_far _ _ _ _ hne, World.cell?_setCell_far _ _ _ _ hne]
                exact h i hi)
            have Hb4 : Hid (Below w.heap.size w ((w2.setCell ⟨B, 0, none⟩ (.int .i64 x)).setCell ⟨B, 1, none⟩ (.int .i64 y))) := Lib.hid ((Hb9.out.setCell hBw _).setCell hBw _)
            clear hrB hr3 hr4
            go_wp2_with fail
            go_roundw
            case rel => exact ⟨j + 1, x, y, D, by omega, by go_num, rfl, Hs, Hr4, HP4, Hb4.out⟩
            case measure => simp [intOf]; omega
          · have hm2 : decide ((D : Int) > (M : Int)) = false := by simp only [decide_eq_false_iff_not]; omega
            have hm3 : decide ((M : Int) < (D : Int)) = false := hm2
            have Hs : Hid (frL l (0, 0, 0) (P.take (j + 1)) = (X, Y, M)) := Lib.hid (by rw [Hstep.out, if_neg hm])
            clear hrB
            go_wp2_with fail
            go_roundw
            case rel => exact ⟨j + 1, X, Y, M, by omega, by go_num, rfl, Hs, HrB, HPw, Hb9.out⟩
            case measure => simp [intOf]; omega
        · obtain rfl : j = N := by omega
          have Hy := Lib.hid (far_yes Hfb.out (show frA l F F = (X, Y, M) by rw [← HPall.out, ← Hf.out, ← HN.out, List.take_length]))
          have d0 : wr.cell? ⟨B, 0, none⟩ = some (.int .i64 X) := by rw [cell_of_row _ _ _ _ _ _ Hrow.out]; rfl
          have d1 : wr.cell? ⟨B, 1, none⟩ = some (.int .i64 Y) := by rw [cell_of_row _ _ _ _ _ _ Hrow.out]; rfl
          have hend : ∀ q, Below w.heap.size w (wr.drewN q) := fun q => belowN hbel q
          have Hend := Lib.hid hend
          clear hend hbel
          go_wp2_with fail
          go_quiet (fail)
          go_wp2_with fail
          (try simp only [Exit.inBlock, Exit.then])
          refine bodyPost_ret (results_tmp4 rfl _ _ _) rfl ?_
          exact ⟨by rw [Hy.out.1, Hy.out.2.1, Hy.out.2.2.1, Hy.out.2.2.2]; rfl, Hend.out _⟩

end Go.Proofs.Ytibjapfaljeclaa
