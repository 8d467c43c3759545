/- How many squares there are; the fewest calls: the model and the program. -/
import Derived.Test.YtibjapfaljeclaaSqF
import Derived.Test.YtibjapfaljeclaaBridS
namespace Go.Proofs.Ytibjapfaljeclaa
open Go.ChangeShapes Go.WideShapes Go.ChangeAt Go.RowKit
set_option linter.unusedVariables false


/-- The squares of a network. -/
def sqT (f : Int) (l : List (Int × Int)) : List (List Int) := sqW l f.toNat f.toNat
theorem sqT_at (F : Nat) (l : List (Int × Int)) : sqT (F : Int) l = sqW l F F := by rw [sqT, Int.toNat_natCast]
def cntR (f : Int) (l : List (Int × Int)) : Int := if netB f l then ((sqT f l).length : Int) else 0
theorem cnt_no {f : Int} {l : List (Int × Int)} (h : netB f l = false) : cntR f l = 0 := by rw [cntR, h]; rfl
theorem cnt_yes {F : Nat} {l : List (Int × Int)} (h : netB (F : Int) l = true) : cntR (F : Int) l = ((sqW l F F).length : Int) := by rw [cntR, h, sqT_at]; rfl

set_option maxRecDepth 20000 in
theorem specCnt_any (w : World) (f : Int) (ao : Option Addr) (cap : Nat) (l : List (Int × Int)) (n : Nat) (Hn : Hid (n = l.length)) (hs : n ≤ 1048576) (Hc : CallsAt w ao l) :
    Calls Try.prog 21 #[.int .i64 f, .slice ao n cap] w fun e w' => e = .returned (.tuple #[.int .i64 (cntR f l), .bool (netB f l)]) ∧ Below w.heap.size w w' := by
  have HA := Lib.hid Hc
  clear Hc
  cases hg : netB f l
  · have Hg := Lib.hid hg
    have Hno := Lib.hid (cnt_no hg)
    clear hg
    go_enter Try.func21, Try.ntmps21
    go_wp2_with fail
    refine (neGood_any f ao cap l n w Hn.out (by omega) HA.out).mono ?_
    rintro e w1 ⟨rfl, hb1⟩
    rw [Hg.out]
    go_wp2_with fail
    go_ret2
    exact ⟨by rw [Hno.out]; rfl, hb1⟩
  · have hfr := net_fr hg
    obtain ⟨F, rfl⟩ := Int.eq_ofNat_of_zero_le (show 0 ≤ f by omega)
    have Hy := Lib.hid (cnt_yes hg)
    have Hg := Lib.hid hg
    clear hg
    go_enter Try.func21, Try.ntmps21
    go_wp2_with fail
    refine (neGood_any F ao cap l n w Hn.out (by omega) HA.out).mono ?_
    rintro e w1 ⟨rfl, hb1⟩
    rw [Hg.out]
    go_wp2_with fail
    refine (neSquares_any F ao cap l n w1 Hn hs (by omega) (Lib.hid (HA.out.kept hb1))).mono ?_
    rintro e w2 ⟨v, X, rfl, own, hb2⟩
    obtain ⟨A, C, rfl⟩ := oss_shape own
    obtain ⟨N, hN⟩ : ∃ N, (sqW l F F).length = N := ⟨_, rfl⟩
    rw [hN] at Hy ⊢
    have hb3 := hb1.trans (hb2.mono hb1.size)
    clear own hb1 hb2 hN
    go_wp2_with fail
    go_ret2
    exact ⟨by rw [Hy.out]; rfl, hb3⟩

set_option maxRecDepth 20000 in
theorem implCnt_any (w : World) (f : Int) (ao : Option Addr) (cap : Nat) (l : List (Int × Int)) (n : Nat) (Hn : Hid (n = l.length)) (hs : n ≤ 1048576) (Hc : CallsAt w ao l) :
    Calls Try.prog 22 #[.int .i64 f, .slice ao n cap] w fun e w' => e = .returned (.tuple #[.int .i64 (cntR f l), .bool (netB f l)]) ∧ Below w.heap.size w w' := by
  have HA := Lib.hid Hc
  clear Hc
  cases hg : netB f l
  · have Hg := Lib.hid hg
    have Hno := Lib.hid (cnt_no hg)
    clear hg
    go_enter Try.func22, Try.ntmps22
    go_wp2_with fail
    refine (implPairs_any w f ao cap l n Hn hs HA.out).mono ?_
    rintro e w1 ⟨rfl, hb1⟩
    rw [Hg.out]
    go_wp2_with fail
    go_ret2
    exact ⟨by rw [Hno.out]; rfl, hb1⟩
  · have hfr := net_fr hg
    obtain ⟨F, rfl⟩ := Int.eq_ofNat_of_zero_le (show 0 ≤ f by omega)
    have Hy := Lib.hid (cnt_yes hg)
    have HT := Lib.hid (sqs_fit (net_gd hg))
    have Htw := Lib.hid (gd_two (net_gd hg))
    have hT4 := HT.out.2
    have Hg := Lib.hid hg
    clear hg
    obtain ⟨T, hT⟩ : ∃ T, sqW l F F = T := ⟨_, rfl⟩
    rw [hT] at HT Hy hT4
    clear hT
    go_enter Try.func22, Try.ntmps22
    go_wp2_with fail
    refine (implPairs_any w F ao cap l n Hn hs HA.out).mono ?_
    rintro e w1 ⟨rfl, hb1⟩
    rw [Hg.out]
    go_wp2_with fail
    refine (squaresOf_any ao cap l n 9223372036854775807 w1 Hn hs Htw (Lib.hid (HA.out.kept hb1)) (by omega) T HT).mono ?_
    rintro e w2 ⟨v, rfl, own, hb2⟩
    rw [take_all (by omega)] at own
    obtain ⟨A, C, rfl⟩ := found_shape own
    have hb3 := hb1.trans (hb2.mono hb1.size)
    clear own hb1 hb2
    go_wp2_with fail
    go_ret2
    exact ⟨by rw [Hy.out]; rfl, hb3⟩

def fewR (f : Int) (l : List (Int × Int)) : Int := if isjR f l then (if f = 1 then 0 else if anyQ (sqT f l) then 2 * f - 4 else 2 * f - 3) else 0
/-- What the model answers for a joined network. -/
def fewN (F : Nat) (T : List (List Int)) : Int := if F = 1 then 0 else if anyQ T then 2 * (F : Int) - 4 else 2 * (F : Int) - 3
theorem few_no {f : Int} {l : List (Int × Int)} (h : isjR f l = false) : fewR f l = 0 := by rw [fewR, h]; rfl
theorem few_yes {F : Nat} {l : List (Int × Int)} (h : isjR (F : Int) l = true) : fewR (F : Int) l = fewN F (sqW l F F) := by
  rw [fewR, if_pos h, sqT_at, fewN]
  by_cases h1 : F = 1
  · rw [if_pos h1, if_pos (by omega)]
  · rw [if_neg h1, if_neg (by omega)]
theorem anyQ_len (T : List (List Int)) : anyQ T = decide (0 < T.length) := by cases T <;> simp [anyQ]

set_option maxRecDepth 20000 in
theorem neFew_any (F : Nat) (ao : Option Addr) (cap : Nat) (l : List (Int × Int)) (n : Nat) (w : World) (Hn : Hid (n = l.length)) (hs : n ≤ 1048576) (h1 : 1 ≤ F) (hF : F ≤ 10) (HA : Hid (CallsAt w ao l)) :
    Calls Try.prog 41 #[.int .i64 F, .slice ao n cap] w fun e w' => e = .returned (.int .i64 (fewN F (sqW l F F))) ∧ Below w.heap.size w w' := by
  by_cases h : F = 1
  · subst h
    have Hr : Hid (fewN 1 (sqW l 1 1) = 0) := Lib.hid rfl
    go_enter Try.func41, Try.ntmps41
    go_wp2_with fail
    go_ret
    exact ⟨ret_int Hr.out.symm, Below.refl _ _⟩
  · have hne : ((F : Int) == 1) = false := by simp; omega
    go_enter Try.func41, Try.ntmps41
    go_wp2_with fail
    refine (neSquares_any F ao cap l n w Hn hs hF HA).mono ?_
    rintro e w2 ⟨v, X, rfl, own, hb2⟩
    obtain ⟨A, C, rfl⟩ := oss_shape own
    obtain ⟨T, hT⟩ : ∃ T, sqW l F F = T := ⟨_, rfl⟩
    have HT := Lib.hid hT
    rw [hT]
    clear own hT
    by_cases hN : 0 < T.length
    · have Hr : Hid (fewN F (sqW l F F) = 2 * (F : Int) - 4) := Lib.hid (by rw [HT.out, fewN, if_neg h, anyQ_len, decide_eq_true hN]; rfl)
      have hd : decide (((T.length : Nat) : Int) > 0) = true := by simp only [decide_eq_true_eq]; omega
      go_wp2_with fail
      go_ret
      exact ⟨ret_int (by first | exact Hr.out.symm | (rw [Hr.out]; (try rw [IntWalk.i64_in _ (by omega)]); (try rw [IntWalk.i64_in _ (by omega)]))), hb2⟩
    · have Hr : Hid (fewN F (sqW l F F) = 2 * (F : Int) - 3) := Lib.hid (by rw [HT.out, fewN, if_neg h, anyQ_len, decide_eq_false hN]; rfl)
      have hd : decide (((T.length : Nat) : Int) > 0) = false := by simp only [decide_eq_false_iff_not]; omega
      go_wp2_with fail
      go_ret
      exact ⟨ret_int (by first | exact Hr.out.symm | (rw [Hr.out]; (try rw [IntWalk.i64_in _ (by omega)]); (try rw [IntWalk.i64_in _ (by omega)]))), hb2⟩

set_option maxHeartbeats 1600000 in
set_option maxRecDepth 20000 in
theorem specFew_any (w : World) (f : Int) (ao : Option Addr) (cap : Nat) (l : List (Int × Int)) (n : Nat) (Hn : Hid (n = l.length)) (hs : n ≤ 1048576) (Hc : CallsAt w ao l) :
    Calls Try.prog 23 #[.int .i64 f, .slice ao n cap] w fun e w' => e = .returned (.tuple #[.int .i64 (fewR f l), .bool (isjR f l)]) ∧ Below w.heap.size w w' := by
  have HA := Lib.hid Hc
  clear Hc
  cases hj : isjR f l
  · have Hno := Lib.hid (few_no hj)
    cases hg : netB f l
    · have Hg := Lib.hid hg
      clear hg hj
      go_enter Try.func23, Try.ntmps23
      go_wp2_with fail
      refine (neGood_any f ao cap l n w Hn.out (by omega) HA.out).mono ?_
      rintro e w1 ⟨rfl, hb1⟩
      rw [Hg.out]
      go_wp2_with fail
      go_ret2
      exact ⟨by rw [Hno.out]; rfl, hb1⟩
    · have hfr := net_fr hg
      obtain ⟨F, rfl⟩ := Int.eq_ofNat_of_zero_le (show 0 ≤ f by omega)
      have HJ : Hid (joinB F l = false) := Lib.hid (by rw [← isj_at hg]; exact hj)
      have Hgd := Lib.hid (net_gd hg)
      have Hg := Lib.hid hg
      clear hg hj
      go_enter Try.func23, Try.ntmps23
      go_wp2_with fail
      refine (neGood_any F ao cap l n w Hn.out (by omega) HA.out).mono ?_
      rintro e w1 ⟨rfl, hb1⟩
      rw [Hg.out]
      go_wp2_with fail
      refine (neJoined_any F ao cap l n w1 Hn hs Hgd (HA.out.kept hb1)).mono ?_
      rintro e w2 ⟨rfl, hb2⟩
      rw [HJ.out]
      have hb3 := hb1.trans (hb2.mono hb1.size)
      clear hb1 hb2
      go_wp2_with fail
      go_ret2
      exact ⟨by rw [Hno.out]; rfl, hb3⟩
  · have hnet := isj_net hj
    have hfr := net_fr hnet
    obtain ⟨F, rfl⟩ := Int.eq_ofNat_of_zero_le (show 0 ≤ f by omega)
    have HJ : Hid (joinB F l = true) := Lib.hid (by rw [← isj_at hnet]; exact hj)
    have Hy := Lib.hid (few_yes hj)
    have HI := Lib.hid hj
    have Hg := Lib.hid hnet
    have Hgd := Lib.hid (net_gd hnet)
    clear hj hnet
    go_enter Try.func23, Try.ntmps23
    go_wp2_with fail
    refine (neGood_any F ao cap l n w Hn.out (by omega) HA.out).mono ?_
    rintro e w1 ⟨rfl, hb1⟩
    rw [Hg.out]
    go_wp2_with fail
    refine (neJoined_any F ao cap l n w1 Hn hs Hgd (HA.out.kept hb1)).mono ?_
    rintro e w2 ⟨rfl, hb2⟩
    rw [HJ.out]
    have hb3 := hb1.trans (hb2.mono hb1.size)
    clear hb1 hb2
    have hs3 := hb3.size
    go_wp2_with fail
    refine (neFew_any F ao cap l n w2 Hn hs (by omega) (by omega) (Lib.hid (HA.out.kept hb3))).mono ?_
    rintro e w4 ⟨rfl, hb4⟩
    have hb5 := hb3.trans (hb4.mono hs3)
    clear hb3 hb4
    rw [← Hy.out]
    go_wp2_with fail
    go_ret2
    exact ⟨rfl, hb5⟩

theorem sqA_four {T : List (List Int)} (h : ∀ q, q ∈ T → ∃ a x y z : Nat, q = qd a x y z) : ∃ s0 s1 s2 s3 : Int, sqA T = #[.int .i64 s0, .int .i64 s1, .int .i64 s2, .int .i64 s3] := by
  cases T with
  | nil => exact ⟨0, 0, 0, 0, rfl⟩
  | cons q r =>
    obtain ⟨a, x, y, z, rfl⟩ := h q (List.mem_cons_self ..)
    exact ⟨a, x, y, z, rfl⟩

set_option maxHeartbeats 1600000 in
set_option maxRecDepth 20000 in
theorem implFew_any (w : World) (f : Int) (ao : Option Addr) (cap : Nat) (l : List (Int × Int)) (n : Nat) (Hn : Hid (n = l.length)) (hs : n ≤ 1048576) (Hc : CallsAt w ao l) :
    Calls Try.prog 24 #[.int .i64 f, .slice ao n cap] w fun e w' => e = .returned (.tuple #[.int .i64 (fewR f l), .bool (isjR f l)]) ∧ Below w.heap.size w w' := by
  have HA := Lib.hid Hc
  clear Hc
  cases hj : isjR f l
  · have Hno := Lib.hid (few_no hj)
    have Hj := Lib.hid hj
    clear hj
    go_enter Try.func24, Try.ntmps24
    go_wp2_with fail
    refine (areJoined_any w f ao cap l n Hn hs HA.out).mono ?_
    rintro e w1 ⟨rfl, hb1⟩
    rw [Hj.out]
    go_wp2_with fail
    go_ret2
    exact ⟨by rw [Hno.out]; rfl, hb1⟩
  · have hnet := isj_net hj
    have hfr := net_fr hnet
    obtain ⟨F, rfl⟩ := Int.eq_ofNat_of_zero_le (show 0 ≤ f by omega)
    have HJ : Hid (joinB F l = true) := Lib.hid (by rw [← isj_at hnet]; exact hj)
    have Hy := Lib.hid (few_yes hj)
    have HI := Lib.hid hj
    have Hg := Lib.hid hnet
    have Hgd := Lib.hid (net_gd hnet)
    clear hj hnet
    by_cases h1 : F = 1
    · subst h1
      have Hr : Hid (fewN 1 (sqW l 1 1) = 0) := Lib.hid rfl
      go_enter Try.func24, Try.ntmps24
      go_wp2_with fail
      refine (areJoined_any w ((1 : Nat) : Int) ao cap l n Hn hs HA.out).mono ?_
      rintro e w1 ⟨rfl, hb1⟩
      rw [HI.out]
      go_wp2_with fail
      go_ret2
      exact ⟨by rw [Hy.out, Hr.out]; rfl, hb1⟩
    · have hne : ((F : Int) == 1) = false := by simp; omega
      obtain ⟨s0, s1, s2, s3, hsq⟩ := sqA_four (T := sqW l F F) (fun q hq => sq_shape hq)
      have Hsq := Lib.hid hsq
      clear hsq
      go_enter Try.func24, Try.ntmps24
      go_wp2_with fail
      refine (areJoined_any w F ao cap l n Hn hs HA.out).mono ?_
      rintro e w1 ⟨rfl, hb1⟩
      rw [HI.out]
      have hs1 := hb1.size
      go_wp2_with fail
      refine (firstSquare_any F ao cap l n w1 Hn hs Hgd (Lib.hid (HA.out.kept hb1))).mono ?_
      rintro e w2 ⟨rfl, hb2⟩
      rw [Hsq.out]
      have hb3 := hb1.trans (hb2.mono hs1)
      have hs3 := hb3.size
      have Hb4 := Lib.hid (hb3.alloc hs3 (.cells #[.int .i64 s0, .int .i64 s1, .int .i64 s2, .int .i64 s3] 53))
      clear hb1 hb2
      cases hq : anyQ (sqW l F F)
      · have Hr : Hid (fewR (F : Int) l = 2 * (F : Int) - 3) := Lib.hid (by rw [Hy.out, fewN, if_neg h1, hq]; rfl)
        clear hq
        go_wp2_with fail
        go_ret2
        exact ⟨by rw [Hr.out]; first | rfl | (repeat rw [IntWalk.i64_in _ (by omega)]), by first | exact Hb4.out | exact hb3⟩
      · have Hr : Hid (fewR (F : Int) l = 2 * (F : Int) - 4) := Lib.hid (by rw [Hy.out, fewN, if_neg h1, hq]; rfl)
        clear hq
        go_wp2_with fail
        go_ret2
        exact ⟨by rw [Hr.out]; first | rfl | (repeat rw [IntWalk.i64_in _ (by omega)]), by first | exact Hb4.out | exact hb3⟩

end Go.Proofs.Ytibjapfaljeclaa
