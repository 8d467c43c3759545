/- CountCasts, both sides. -/
import Derived.Test.YtaangjidkkpogaaCfS
namespace Go.Proofs.Ytaangjidkkpogaa
open Go.ChangeShapes Go.WideShapes Go.ChangeAt Go.RowKit
set_option linter.unusedVariables false


def ccR (f : Int) (l : List Snd) : Int := ((fitB f l).length : Int)
theorem implCC_any (w : World) (f : Int) (ao : Option Addr) (cap : Nat) (l : List Snd) (n : Nat) (Hn : Hid (n = l.length)) (hn : n ≤ 1048576) (hcap : n ≤ cap) (hc : SendsAt w ao l) :
    Calls Try.prog 18 #[.int .i64 f, .slice ao n cap] w fun e w' => e = .returned (.tuple #[.int .i64 (ccR f l), .bool (clB f l)]) ∧ Below w.heap.size w w' := by
  have HX := Lib.hid (implCF_any w f ao cap l n Hn hn hc)
  obtain ⟨r, hr⟩ : ∃ r, ccR f l = r := ⟨_, rfl⟩
  have HR := Lib.hid hr
  rw [hr]
  clear hr hc
  go_enter Try.func18, Try.ntmps18
  go_wp2_with fail
  refine HX.out.mono ?_
  rintro e w1 ⟨v, M, HM, rfl, own, hb1⟩
  obtain ⟨ao2, cap2, rfl, _, _, _⟩ := strs_shape own (by rw [tc_len]; exact HM.out)
  clear own
  go_wp2_with fail
  go_ret2
  exact ⟨by rw [← HR.out, ccR, ← HM.out]; rfl, hb1⟩
theorem liAll_any (w : World) (f : Int) (ao : Option Addr) (cap : Nat) (l : List Snd) (n : Nat) (Hn : Hid (n = l.length)) (hn : n ≤ 1048576) (hcap : n ≤ cap) (hc : SendsAt w ao l) (hcl : clB f l = true) :
    Calls Try.prog 45 #[.int .i64 f, .slice ao n cap] w fun e w' => ∃ ao2 M cap2, Hid (M = (fitB f l).length) ∧ e = .returned (.slice ao2 M cap2) ∧ w'.ownsRow w.heap.size 9 1 (.slice ao2 M cap2) M (ts (tc (fitB f l))) ∧ Below w.heap.size w w' := by
  obtain ⟨q, rfl, hn1, hn8⟩ := cl_in hcl
  rw [fitB_yes hcl]
  refine (liAll_yes w q ao cap l n Hn hn hcl hn1 hn8 hc).mono ?_
  rintro e w' ⟨v, M, HM, rfl, own, hb⟩
  obtain ⟨ao2, cap2, rfl, _, _, _⟩ := strs_shape own (by rw [tc_len]; exact HM.out)
  exact ⟨ao2, M, cap2, HM, rfl, own, hb⟩
theorem specCC_any (w : World) (f : Int) (ao : Option Addr) (cap : Nat) (l : List Snd) (n : Nat) (Hn : Hid (n = l.length)) (hn : n ≤ 1048576) (hcap : n ≤ cap) (hc : SendsAt w ao l) :
    Calls Try.prog 17 #[.int .i64 f, .slice ao n cap] w fun e w' => e = .returned (.tuple #[.int .i64 (ccR f l), .bool (clB f l)]) ∧ Below w.heap.size w w' := by
  have HG := Lib.hid (liGood_any w f ao cap l n Hn hn hc)
  cases hcl : clB f l
  · have hr : ccR f l = 0 := by simp [ccR, fitB_no hcl]
    rw [hr]
    rw [hcl] at HG
    clear hr hc hcl
    go_enter Try.func17, Try.ntmps17
    go_wp2_with fail
    refine HG.out.mono ?_
    rintro e w1 ⟨rfl, hb1⟩
    go_wp2_with fail
    go_ret2
    exact ⟨rfl, hb1⟩
  · have HX := Lib.hid (fun w1 hw => liAll_any w1 f ao cap l n Hn hn hcap (hc.kept hw) hcl)
    obtain ⟨r, hr⟩ : ∃ r, ccR f l = r := ⟨_, rfl⟩
    have HR := Lib.hid hr
    rw [hr]
    rw [hcl] at HG
    clear hr hc hcl
    go_enter Try.func17, Try.ntmps17
    go_wp2_with fail
    refine HG.out.mono ?_
    rintro e w1 ⟨rfl, hb1⟩
    have Hb1 := Lib.hid hb1
    clear hb1
    go_wp2_with fail
    refine (HX.out _ Hb1.out).mono ?_
    rintro e w2 ⟨ao2, M, cap2, HM, rfl, own, hb2⟩
    have Hb2 := Lib.hid (Hb1.out.trans (hb2.mono Hb1.out.size))
    clear own hb2
    go_wp2_with fail
    go_ret2
    exact ⟨by rw [← HR.out, ccR, ← HM.out]; rfl, Hb2.out⟩

end Go.Proofs.Ytaangjidkkpogaa
