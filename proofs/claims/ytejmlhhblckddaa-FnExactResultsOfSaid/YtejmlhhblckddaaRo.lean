/- Results of tests if some wires are broken: the model and the program. -/
import Derived.Test.YtejmlhhblckddaaRs1
import Derived.Test.YtejmlhhblckddaaRs2
namespace Go.Proofs.Ytejmlhhblckddaa
open Go.ChangeShapes Go.WideShapes Go.ChangeAt Go.RowKit
set_option linter.unusedVariables false


def roB (f : Int) (L : List (List Int)) (l : List Int) : Bool := wiB f L && risB f l
def roR (f : Int) (L : List (List Int)) (l : List Int) : ByteArray := if roB f L l then rtx (bws L) (bw l) L.length else ⟨#[]⟩

theorem specRO_any (w : World) (f : Int) (ao : Option Addr) (cap : Nat) (L : List (List Int)) (n : Nat) (Hn : Hid (n = L.length)) (hn : n ≤ 1048576) (hL : Hid (∀ i, (row L i).length ≤ 1048576)) (Hc : RowsAt w ao L) (bo : Option Addr) (kb : Nat) (l : List Int) (m : Nat) (Hm : Hid (m = l.length)) (hm : m ≤ 1048576) (Hb : NumsAt w bo l) :
    Calls Try.prog 16 #[.int .i64 f, .slice ao n cap, .slice bo m kb] w fun e w' => e = .returned (.tuple #[.string (roR f L l), .bool (roB f L l)]) ∧ Below w.heap.size w w' := by
  have HC := Lib.hid Hc
  have HB := Lib.hid Hb
  clear Hc Hb
  cases hg : wiB f L
  · have hR : roR f L l = ⟨#[]⟩ := by simp [roR, roB, hg]
    have hB : roB f L l = false := by simp [roB, hg]
    rw [hR, hB]
    have Hg := Lib.hid hg
    clear hR hB hg
    go_enter Try.func16, Try.ntmps16
    go_wp2_with fail
    refine (wiGood_any f ao cap L n w Hn hn hL HC).mono ?_
    rintro e w' ⟨rfl, rfl⟩
    rw [Hg.out]
    go_wp2_with fail
    go_ret2
    exact ⟨rfl, Below.refl _ _⟩
  · have hp := (wi_parts hg).1
    have hw1 : IntKind.i64.wrap (f - 1) = f - 1 := IntWalk.i64_in _ (by omega)
    have Hg := Lib.hid hg
    cases hr : risB f l
    · have hR : roR f L l = ⟨#[]⟩ := by simp [roR, roB, hr]
      have hB : roB f L l = false := by simp [roB, hr]
      rw [hR, hB]
      have Hr := Lib.hid hr
      clear hR hB hg hr
      go_enter Try.func16, Try.ntmps16
      go_wp2_with fail
      refine (wiGood_any f ao cap L n w Hn hn hL HC).mono ?_
      rintro e w' ⟨rfl, rfl⟩
      rw [Hg.out]
      go_wp2_with fail
      refine (l1Rising_any bo kb f l m w Hm.out hm (f - 1) rfl HB.out).mono ?_
      rintro e w' ⟨rfl, rfl⟩
      rw [Hr.out]
      go_wp2_with fail
      go_ret2
      exact ⟨rfl, Below.refl _ _⟩
    · have hR : roR f L l = rtx (bws L) (bw l) n := by simp [roR, roB, hr, hg, Hn.out]
      have hB : roB f L l = true := by simp [roB, hr, hg]
      rw [hR, hB]
      have Hr := Lib.hid hr
      have hbl := bw_lt hp.2 hr
      clear hR hB hg hr
      go_enter Try.func16, Try.ntmps16
      go_wp2_with fail
      refine (wiGood_any f ao cap L n w Hn hn hL HC).mono ?_
      rintro e w' ⟨rfl, rfl⟩
      rw [Hg.out]
      go_wp2_with fail
      refine (l1Rising_any bo kb f l m w Hm.out hm (f - 1) rfl HB.out).mono ?_
      rintro e w' ⟨rfl, rfl⟩
      rw [Hr.out]
      go_wp2_with fail
      refine (wiBits_any bo kb f hp.2 l m w Hm.out Hr.out HB.out).mono ?_
      rintro e w' ⟨rfl, rfl⟩
      go_wp2_with fail
      refine (wiResults_any ao cap f L n (bw l) w Hn Hg hbl HC).mono ?_
      rintro e w' ⟨rfl, rfl⟩
      go_wp2_with fail
      go_ret2
      exact ⟨rfl, Below.refl _ _⟩

theorem implRO_any (w : World) (f : Int) (ao : Option Addr) (cap : Nat) (L : List (List Int)) (n : Nat) (Hn : Hid (n = L.length)) (hn : n ≤ 1048576) (hL : Hid (∀ i, (row L i).length ≤ 1048576)) (Hc : RowsAt w ao L) (bo : Option Addr) (kb : Nat) (l : List Int) (m : Nat) (Hm : Hid (m = l.length)) (hm : m ≤ 1048576) (Hb : NumsAt w bo l) :
    Calls Try.prog 18 #[.int .i64 f, .slice ao n cap, .slice bo m kb] w fun e w' => e = .returned (.tuple #[.string (roR f L l), .bool (roB f L l)]) ∧ Below w.heap.size w w' := by
  have HC := Lib.hid Hc
  have HB := Lib.hid Hb
  clear Hc Hb
  cases hg : wiB f L
  · have hR : roR f L l = ⟨#[]⟩ := by simp [roR, roB, hg]
    have hB : roB f L l = false := by simp [roB, hg]
    rw [hR, hB]
    have Hg := Lib.hid hg
    clear hR hB hg
    go_enter Try.func18, Try.ntmps18
    go_wp2_with fail
    refine (areTests_any f ao cap L n w Hn hn hL HC).mono ?_
    rintro e w' ⟨rfl, rfl⟩
    rw [Hg.out]
    go_wp2_with fail
    go_ret2
    exact ⟨rfl, Below.refl _ _⟩
  · have hp := wi_parts hg
    have Hg := Lib.hid hg
    have hn12 : n ≤ 12 := by have := Hn.out; omega
    have hf10 := hp.1.2
    cases hr : risB f l
    · have hR : roR f L l = ⟨#[]⟩ := by simp [roR, roB, hr]
      have hB : roB f L l = false := by simp [roB, hr]
      rw [hR, hB]
      have Hr := Lib.hid hr
      clear hR hB hg hr hp
      go_enter Try.func18, Try.ntmps18
      go_wp2_with fail
      refine (areTests_any f ao cap L n w Hn hn hL HC).mono ?_
      rintro e w' ⟨rfl, rfl⟩
      rw [Hg.out]
      go_wp2_with fail
      refine (areWires_any bo kb f hf10 l m w Hm.out hm HB.out).mono ?_
      rintro e w' ⟨rfl, rfl⟩
      rw [Hr.out]
      go_wp2_with fail
      go_ret2
      exact ⟨rfl, Below.refl _ _⟩
    · have hR : roR f L l = rtx (bws L) (bw l) n := by simp [roR, roB, hr, hg, Hn.out]
      have hB : roB f L l = true := by simp [roB, hr, hg]
      rw [hR, hB]
      have Hr := Lib.hid hr
      have hbl := bw_lt hf10 hr
      have HM := Lib.hid (bws_lt hg)
      have Hlen : Hid (n = (bws L).length) := by show _ = _; rw [bws_length]; exact Hn.out
      clear hR hB hg hr hp
      go_enter Try.func18, Try.ntmps18
      go_wp2_with fail
      refine (areTests_any f ao cap L n w Hn hn hL HC).mono ?_
      rintro e w' ⟨rfl, rfl⟩
      rw [Hg.out]
      go_wp2_with fail
      refine (areWires_any bo kb f hf10 l m w Hm.out hm HB.out).mono ?_
      rintro e w' ⟨rfl, rfl⟩
      rw [Hr.out]
      go_wp2_with fail
      refine (wireListsOf_any ao cap f L n w Hn Hg HC).mono ?_
      rintro e w1 ⟨v, rfl, own1, hb1⟩
      obtain ⟨aw, cw, rfl, hwl⟩ := wl_at own1 Hlen.out
      have HWL := Lib.hid hwl
      have Hb1 := Lib.hid hb1
      clear own1 hb1 hwl
      go_wp2_with fail
      refine (wireListOf_any bo kb f hf10 l m w1 Hm Hr (HB.out.kept Hb1.out)).mono ?_
      rintro e w2 ⟨rfl, hb2⟩
      have Hb2 := Lib.hid (Hb1.out.trans (hb2.mono Hb1.out.size))
      have HWL2 := Lib.hid (HWL.out.kept hb2)
      clear hb2
      go_wp2_with fail
      refine (resultsOf_any aw cw (bws L) n (bw l) w2 Hlen hn12 HM hbl HWL2).mono ?_
      rintro e w3 ⟨rfl, hb3⟩
      have hb4 := Hb2.out.trans (hb3.mono Hb2.out.size)
      go_wp2_with fail
      go_ret2
      exact ⟨rfl, hb4⟩

end Go.Proofs.Ytejmlhhblckddaa
