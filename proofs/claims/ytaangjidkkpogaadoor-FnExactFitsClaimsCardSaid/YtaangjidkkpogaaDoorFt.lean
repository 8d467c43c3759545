/- FitsClaims, both sides. -/
import Derived.Test.YtaangjidkkpogaaDoorCa
namespace Go.Proofs.YtaangjidkkpogaaDoor
open Go.ChangeShapes Go.WideShapes Go.ChangeAt Go.RowKit
set_option linter.unusedVariables false


def ftB (f : Int) (l : List Snd) (s : ByteArray) : Bool := clB f l && (castB s && ((s.size : Int) == f))
def ftR (f : Int) (l : List Snd) (s : ByteArray) : Bool := ftB f l s && fit l (cOf s)
theorem ft_no {f : Int} {l : List Snd} {s : ByteArray} (h : ftB f l s = false) : ftR f l s = false := by unfold ftR; rw [h]; rfl

theorem implFT_any (w : World) (f : Int) (ao : Option Addr) (cap : Nat) (l : List Snd) (n : Nat) (Hn : Hid (n = l.length)) (hn : n ≤ 1048576) (hcap : n ≤ cap) (hc : SendsAt w ao l) (s : ByteArray) (hs : s.size ≤ 1048576) :
    Calls Tryd.prog 11 #[.int .i64 f, .slice ao n cap, .string s] w fun e w' => e = .returned (.tuple #[.bool (ftR f l s), .bool (ftB f l s)]) ∧ Below w.heap.size w w' := by
  have HG := Lib.hid (implAC_any w f ao cap l n Hn hn hc)
  have HS := Lib.hid hc
  clear hc
  cases hcl : clB f l
  · have hb : ftB f l s = false := by simp [ftB, hcl]
    rw [ft_no hb, hb]
    rw [hcl] at HG
    clear hb hcl
    go_enter Tryd.func11, Tryd.ntmps11
    go_wp2_with fail
    refine HG.out.mono ?_
    rintro e w1 ⟨rfl, hb1⟩
    go_wp2_with fail
    go_ret2
    exact ⟨rfl, hb1⟩
  · rw [hcl] at HG
    have HC := Lib.hid (fun w => isCast_any s w hs)
    cases hca : castB s
    · have hb : ftB f l s = false := by simp [ftB, hca]
      rw [ft_no hb, hb]
      rw [hca] at HC
      clear hb hcl hca
      go_enter Tryd.func11, Tryd.ntmps11
      go_wp2_with fail
      refine HG.out.mono ?_
      rintro e w1 ⟨rfl, hb1⟩
      have Hb1 := Lib.hid hb1
      clear hb1
      go_wp2_with fail
      refine (HC.out _).mono ?_
      rintro e w2 ⟨rfl, hb2⟩
      have Hb2 := Lib.hid (Hb1.out.trans (hb2.mono Hb1.out.size))
      clear hb2
      go_wp2_with fail
      go_ret2
      exact ⟨rfl, Hb2.out⟩
    · rw [hca] at HC
      obtain ⟨hsc, hlen, _, h8⟩ := cast_of hca
      obtain ⟨z, hz⟩ : ∃ z, s.size = z := ⟨_, rfl⟩
      cases he : ((z : Int) == f)
      · have hb : ftB f l s = false := by simp only [ftB, hz, he, Bool.and_false]
        rw [ft_no hb, hb]
        have hne : ((z : Int) != f) = true := by rw [bne, he]; rfl
        clear hb hcl hca hsc hlen he
        go_enter Tryd.func11, Tryd.ntmps11
        go_wp2_with fail
        refine HG.out.mono ?_
        rintro e w1 ⟨rfl, hb1⟩
        have Hb1 := Lib.hid hb1
        clear hb1
        go_wp2_with fail
        refine (HC.out _).mono ?_
        rintro e w2 ⟨rfl, hb2⟩
        have Hb2 := Lib.hid (Hb1.out.trans (hb2.mono Hb1.out.size))
        clear hb2
        go_wp2_with fail
        go_ret2
        exact ⟨rfl, Hb2.out⟩
      · have hzf : (z : Int) = f := by simpa using he
        have hb : ftB f l s = true := by simp only [ftB, hcl, hca, hz, he, Bool.and_self]
        have hr : ftR f l s = fit l (cOf s) := by unfold ftR; rw [hb]; rfl
        rw [hr, hb]
        have HL : Hid (∀ i, i < n → (0 ≤ sf l i ∧ sf l i < (cOf s).length) ∧ (0 ≤ st l i ∧ st l i < (cOf s).length)) := Lib.hid (fun i hi => by
          rw [hlen, hz, hzf]
          exact cl_at (cl_parts hcl).2.2 (by rw [← Hn.out]; exact hi))
        have HF := Lib.hid (fun w1 (hw : Below w.heap.size w w1) => fits_any w1 (cOf s) ao cap l n Hn hn (Lib.hid (by omega)) HL (HS.out.kept hw))
        rw [← hsc] at HF
        have hne : ((z : Int) != f) = false := by rw [bne, he]; rfl
        clear hb hr hcl hca hsc hlen he hzf HL
        generalize fit l (cOf s) = r at HF ⊢
        go_enter Tryd.func11, Tryd.ntmps11
        go_wp2_with fail
        refine HG.out.mono ?_
        rintro e w1 ⟨rfl, hb1⟩
        have Hb1 := Lib.hid hb1
        clear hb1
        go_wp2_with fail
        refine (HC.out _).mono ?_
        rintro e w2 ⟨rfl, hb2⟩
        have Hb2 := Lib.hid (Hb1.out.trans (hb2.mono Hb1.out.size))
        clear hb2
        go_wp2_with fail
        refine (HF.out _ Hb2.out).mono ?_
        rintro e w3 ⟨rfl, hb3⟩
        have Hb3 := Lib.hid (Hb2.out.trans (hb3.mono Hb2.out.size))
        clear hb3
        go_wp2_with fail
        go_ret2
        exact ⟨rfl, Hb3.out⟩

theorem specFT_any (w : World) (f : Int) (ao : Option Addr) (cap : Nat) (l : List Snd) (n : Nat) (Hn : Hid (n = l.length)) (hn : n ≤ 1048576) (hcap : n ≤ cap) (hc : SendsAt w ao l) (s : ByteArray) (hs : s.size ≤ 1048576) :
    Calls Tryd.prog 9 #[.int .i64 f, .slice ao n cap, .string s] w fun e w' => e = .returned (.tuple #[.bool (ftR f l s), .bool (ftB f l s)]) ∧ Below w.heap.size w w' := by
  have HG := Lib.hid (liGood_any w f ao cap l n Hn hn hc)
  have HS := Lib.hid hc
  clear hc
  cases hcl : clB f l
  · have hb : ftB f l s = false := by simp [ftB, hcl]
    rw [ft_no hb, hb]
    rw [hcl] at HG
    clear hb hcl
    go_enter Tryd.func9, Tryd.ntmps9
    go_wp2_with fail
    refine HG.out.mono ?_
    rintro e w1 ⟨rfl, hb1⟩
    go_wp2_with fail
    go_ret2
    exact ⟨rfl, hb1⟩
  · rw [hcl] at HG
    have HC := Lib.hid (fun w => liCast_any s w hs)
    cases hca : castB s
    · have hb : ftB f l s = false := by simp [ftB, hca]
      rw [ft_no hb, hb]
      rw [hca] at HC
      clear hb hcl hca
      go_enter Tryd.func9, Tryd.ntmps9
      go_wp2_with fail
      refine HG.out.mono ?_
      rintro e w1 ⟨rfl, hb1⟩
      have Hb1 := Lib.hid hb1
      clear hb1
      go_wp2_with fail
      refine (HC.out _).mono ?_
      rintro e w2 ⟨rfl, hb2⟩
      have Hb2 := Lib.hid (Hb1.out.trans (hb2.mono Hb1.out.size))
      clear hb2
      go_wp2_with fail
      go_ret2
      exact ⟨rfl, Hb2.out⟩
    · rw [hca] at HC
      obtain ⟨hsc, hlen, _, h8⟩ := cast_of hca
      obtain ⟨z, hz⟩ : ∃ z, s.size = z := ⟨_, rfl⟩
      cases he : ((z : Int) == f)
      · have hb : ftB f l s = false := by simp only [ftB, hz, he, Bool.and_false]
        rw [ft_no hb, hb]
        have hne : ((z : Int) != f) = true := by rw [bne, he]; rfl
        clear hb hcl hca hsc hlen he
        go_enter Tryd.func9, Tryd.ntmps9
        go_wp2_with fail
        refine HG.out.mono ?_
        rintro e w1 ⟨rfl, hb1⟩
        have Hb1 := Lib.hid hb1
        clear hb1
        go_wp2_with fail
        refine (HC.out _).mono ?_
        rintro e w2 ⟨rfl, hb2⟩
        have Hb2 := Lib.hid (Hb1.out.trans (hb2.mono Hb1.out.size))
        clear hb2
        go_wp2_with fail
        go_ret2
        exact ⟨rfl, Hb2.out⟩
      · have hzf : (z : Int) = f := by simpa using he
        have hb : ftB f l s = true := by simp only [ftB, hcl, hca, hz, he, Bool.and_self]
        have hr : ftR f l s = fit l (cOf s) := by unfold ftR; rw [hb]; rfl
        rw [hr, hb]
        have HL : Hid (∀ i, i < n → (0 ≤ sf l i ∧ sf l i < (cOf s).length) ∧ (0 ≤ st l i ∧ st l i < (cOf s).length)) := Lib.hid (fun i hi => by
          rw [hlen, hz, hzf]
          exact cl_at (cl_parts hcl).2.2 (by rw [← Hn.out]; exact hi))
        have HF := Lib.hid (fun w1 (hw : Below w.heap.size w w1) => liFits_any w1 (cOf s) ao cap l n Hn hn (Lib.hid (by omega)) HL (HS.out.kept hw))
        rw [← hsc] at HF
        have hne : ((z : Int) != f) = false := by rw [bne, he]; rfl
        clear hb hr hcl hca hsc hlen he hzf HL
        generalize fit l (cOf s) = r at HF ⊢
        go_enter Tryd.func9, Tryd.ntmps9
        go_wp2_with fail
        refine HG.out.mono ?_
        rintro e w1 ⟨rfl, hb1⟩
        have Hb1 := Lib.hid hb1
        clear hb1
        go_wp2_with fail
        refine (HC.out _).mono ?_
        rintro e w2 ⟨rfl, hb2⟩
        have Hb2 := Lib.hid (Hb1.out.trans (hb2.mono Hb1.out.size))
        clear hb2
        go_wp2_with fail
        refine (HF.out _ Hb2.out).mono ?_
        rintro e w3 ⟨rfl, hb3⟩
        have Hb3 := Lib.hid (Hb2.out.trans (hb3.mono Hb2.out.size))
        clear hb3
        go_wp2_with fail
        go_ret2
        exact ⟨rfl, Hb3.out⟩

end Go.Proofs.YtaangjidkkpogaaDoor
