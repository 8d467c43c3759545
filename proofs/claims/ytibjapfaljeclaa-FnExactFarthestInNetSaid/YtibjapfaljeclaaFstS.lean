/- The farthest two friends: the model. -/
import Derived.Test.YtibjapfaljeclaaFst
namespace Go.Proofs.Ytibjapfaljeclaa
open Go.ChangeShapes Go.WideShapes Go.ChangeAt Go.RowKit
set_option linter.unusedVariables false


set_option maxHeartbeats 1600000 in
set_option maxRecDepth 20000 in
theorem specFar_any (w : World) (f : Int) (ao : Option Addr) (cap : Nat) (l : List (Int × Int)) (n : Nat) (Hn : Hid (n = l.length)) (hs : n ≤ 1048576) (Hc : CallsAt w ao l) :
    Calls Try.prog 27 #[.int .i64 f, .slice ao n cap] w fun e w' => e = .returned (.tuple #[.int .i64 (farX f l), .int .i64 (farY f l), .int .i64 (farM f l), .bool (farB f l)]) ∧ Below w.heap.size w w' := by
  have HA := Lib.hid Hc
  clear Hc
  cases hj : isjR f l
  · have Hno := Lib.hid (far_no (f := f) (l := l) (by rw [farB, hj]; rfl))
    cases hg : netB f l
    · have Hg := Lib.hid hg
      clear hg hj
      go_enter Try.func27, Try.ntmps27
      go_wp2_with fail
      refine (neGood_any f ao cap l n w Hn.out (by omega) HA.out).mono ?_
      rintro e w1 ⟨rfl, hb1⟩
      rw [Hg.out]
      go_wp2_with fail
      (try simp only [Exit.inBlock, Exit.then])
      refine bodyPost_ret (results_tmp4 rfl _ _ _) rfl ?_
      exact ⟨by rw [Hno.out.1, Hno.out.2.1, Hno.out.2.2.1, Hno.out.2.2.2]; rfl, hb1⟩
    · have hfr := net_fr hg
      obtain ⟨F, rfl⟩ := Int.eq_ofNat_of_zero_le (show 0 ≤ f by omega)
      have HJ : Hid (joinB F l = false) := Lib.hid (by rw [← isj_at hg]; exact hj)
      have Hgd := Lib.hid (net_gd hg)
      have Hg := Lib.hid hg
      clear hg hj
      go_enter Try.func27, Try.ntmps27
      go_wp2_with fail
      refine (neGood_any F ao cap l n w Hn.out (by omega) HA.out).mono ?_
      rintro e w1 ⟨rfl, hb1⟩
      rw [Hg.out]
      go_wp2_with fail
      refine (neJoined_any F ao cap l n w1 Hn hs Hgd (HA.out.kept hb1)).mono ?_
      rintro e w2 ⟨rfl, hb2⟩
      rw [HJ.out]
      have hb3 := hb1.trans (hb2.mono hb1.size)
      clear hb1 hb2
      go_wp2_with fail
      (try simp only [Exit.inBlock, Exit.then])
      refine bodyPost_ret (results_tmp4 rfl _ _ _) rfl ?_
      exact ⟨by rw [Hno.out.1, Hno.out.2.1, Hno.out.2.2.1, Hno.out.2.2.2]; rfl, hb3⟩
  · have hnet := isj_net hj
    have hfr := net_fr hnet
    obtain ⟨F, rfl⟩ := Int.eq_ofNat_of_zero_le (show 0 ≤ f by omega)
    have hJ : joinB F l = true := by rw [← isj_at hnet]; exact hj
    have HJ := Lib.hid hJ
    have Hg := Lib.hid hnet
    have hgd := net_gd hnet
    have Hgd := Lib.hid hgd
    by_cases h1 : F = 1
    · subst h1
      have Hno := Lib.hid (far_no (f := ((1 : Nat) : Int)) (l := l) (by rw [farB, hj]; rfl))
      clear hj hnet hJ hgd
      go_enter Try.func27, Try.ntmps27
      go_wp2_with fail
      refine (neGood_any ((1 : Nat) : Int) ao cap l n w Hn.out (by omega) HA.out).mono ?_
      rintro e w1 ⟨rfl, hb1⟩
      rw [Hg.out]
      go_wp2_with fail
      refine (neJoined_any 1 ao cap l n w1 Hn hs Hgd (HA.out.kept hb1)).mono ?_
      rintro e w2 ⟨rfl, hb2⟩
      rw [HJ.out]
      have hb3 := hb1.trans (hb2.mono hb1.size)
      clear hb1 hb2
      go_wp2_with fail
      (try simp only [Exit.inBlock, Exit.then])
      refine bodyPost_ret (results_tmp4 rfl _ _ _) rfl ?_
      exact ⟨by rw [Hno.out.1, Hno.out.2.1, Hno.out.2.2.1, Hno.out.2.2.2]; rfl, hb3⟩
    · have Hfb : Hid (farB (F : Int) l = true) := Lib.hid (by rw [farB, hj]; simp; omega)
      have Hall : Hid (∀ a b, a < F → b < F → dst l a b < 10) := Lib.hid (fun a b ha hb => join_all hgd hJ ha b hb)
      have hne : ((F : Int) == 1) = false := by simp; omega
      clear hj hnet hJ hgd
      go_enter Try.func27, Try.ntmps27
      go_wp2_with fail
      refine (neGood_any F ao cap l n w Hn.out (by omega) HA.out).mono ?_
      rintro e w1 ⟨rfl, hb1⟩
      rw [Hg.out]
      go_wp2_with fail
      refine (neJoined_any F ao cap l n w1 Hn hs Hgd (HA.out.kept hb1)).mono ?_
      rintro e w2 ⟨rfl, hb2⟩
      rw [HJ.out]
      have hb3 := hb1.trans (hb2.mono hb1.size)
      clear hb1 hb2
      have Hb3 := Lib.hid hb3
      clear hb3
      go_wp2_with fail
      go_loopw [8, 9, 10, 11] (fun x y m i wr => ∃ a X Y M : Nat, a ≤ F ∧ i = .int .i64 a ∧ x = .int .i64 X ∧ y = .int .i64 Y ∧ m = .int .i64 M ∧ Hid (frA l F a = (X, Y, M)) ∧ Below w.heap.size w wr) (fun _ _ _ i _ => F - (intOf i).toNat)
      case atStart => exact ⟨0, 0, 0, 0, Nat.zero_le _, rfl, rfl, rfl, rfl, Lib.hid rfl, Hb3.out⟩
      case round =>
        clear Hb3
        obtain ⟨a, X, Y, M, ha, rfl, rfl, rfl, rfl, Hf, hbel⟩ := hrel
        have hs3 := hbel.size
        by_cases hlt : a < F
        · have ha2 : (a : Int) < F := by omega
          go_wp2_with fail
          refine (neFar_any F a ao cap l n wr Hn hs (HA.out.kept hbel) (by omega) hlt).mono ?_
          rintro e w4 ⟨rfl, k, d, q, hk, hbi, own, hb4⟩
          have hd := bfs_dst Hgd.out hlt hbi hk
          have Hc : Hid (∀ b, b < F → w4.cell? ⟨wr.heap.size, b, none⟩ = some (.int .i64 ((dst l a b : Nat) : Int))) := Lib.hid (fun b hb => by
            have c := row_num own (fvL_length _ _).symm b hb
            rw [na_fvL hb, show d b = _ from hd b hb, if_neg (by have := Hall.out a b hlt hb; omega)] at c
            exact c)
          have Hb4 := Lib.hid (hbel.trans (hb4.mono hs3))
          obtain ⟨G, hG⟩ : ∃ G, wr.heap.size = G := ⟨_, rfl⟩
          rw [hG] at Hc ⊢
          clear own hbi hk hb4 hd hbel hG
          go_wp2_with fail
          go_loopw [8, 9, 10, 13] (fun x y m i wr => ∃ b X' Y' M' : Nat, a + 1 ≤ b ∧ b ≤ F ∧ i = .int .i64 b ∧ x = .int .i64 X' ∧ y = .int .i64 Y' ∧ m = .int .i64 M' ∧ Hid (frR l a (X, Y, M) b = (X', Y', M')) ∧ Hid (w4 = wr)) (fun _ _ _ i _ => F - (intOf i).toNat)
          case atStart => exact ⟨a + 1, X, Y, M, Nat.le_refl _, hlt, by go_num, rfl, rfl, rfl, Lib.hid (frR_low _ _ _ _ (Nat.le_refl _)), Lib.hid rfl⟩
          case round =>
            obtain ⟨b, X', Y', M', hb1, hb2, rfl, rfl, rfl, rfl, Hr, hw⟩ := hrel
            have hw' := hw.out
            subst hw'
            by_cases hlb : b < F
            · have c0 := Hc.out b hlb
              have hd10 := Hall.out a b hlt hlb
              obtain ⟨D, hD⟩ : ∃ D, dst l a b = D := ⟨_, rfl⟩
              rw [hD] at c0 hd10
              have hb3 : (b : Int) < F := by omega
              by_cases hm : M' < D
              · have hm2 : decide ((D : Int) > (M' : Int)) = true := by simp only [decide_eq_true_eq]; omega
                have hm3 : decide ((M' : Int) < (D : Int)) = true := hm2
                have Hs : Hid (frR l a (X, Y, M) (b + 1) = (a, b, D)) := Lib.hid (by rw [frR, if_pos (by omega), fst1, Hr.out, hD, if_pos hm])
                clear hD
                go_wp2_with fail
                go_roundw
                case rel => exact ⟨b + 1, a, b, D, by omega, by omega, by go_num, rfl, rfl, rfl, Hs, by first | trivial | exact Lib.hid rfl⟩
                case measure => simp [intOf]; omega
              · have hm2 : decide ((D : Int) > (M' : Int)) = false := by simp only [decide_eq_false_iff_not]; omega
                have hm3 : decide ((M' : Int) < (D : Int)) = false := hm2
                have Hs : Hid (frR l a (X, Y, M) (b + 1) = (X', Y', M')) := Lib.hid (by rw [frR, if_pos (by omega), fst1, Hr.out, hD, if_neg hm])
                clear hD
                go_wp2_with fail
                go_roundw
                case rel => exact ⟨b + 1, X', Y', M', by omega, by omega, by go_num, rfl, rfl, rfl, Hs, by first | trivial | exact Lib.hid rfl⟩
                case measure => simp [intOf]; omega
            · obtain rfl : b = F := by omega
              have Hs : Hid (frA l b (a + 1) = (X', Y', M')) := Lib.hid (by rw [frA, Hf.out, Hr.out])
              go_wp2_with fail
              go_roundw
              case rel => exact ⟨a + 1, X', Y', M', by omega, by go_num, rfl, rfl, rfl, Hs, Hb4.out⟩
              case measure => simp [intOf]; omega
        · obtain rfl : a = F := by omega
          have Hy := Lib.hid (far_yes Hfb.out Hf.out)
          go_wp2_with fail
          (try simp only [Exit.inBlock, Exit.then])
          refine bodyPost_ret (results_tmp4 rfl _ _ _) rfl ?_
          exact ⟨by rw [Hy.out.1, Hy.out.2.1, Hy.out.2.2.1, Hy.out.2.2.2]; rfl, hbel⟩

end Go.Proofs.Ytibjapfaljeclaa
