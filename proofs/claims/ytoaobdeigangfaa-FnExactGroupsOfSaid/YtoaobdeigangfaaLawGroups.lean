/- The walk of the law FnExactGroupsOf: it answers true and turns nothing that was there. -/
import Derived.Test.YtoaobdeigangfaaGrW
import Derived.Test.YtoaobdeigangfaaOpen
namespace Go.Proofs.Ytoaobdeigangfaa
open Go.ChangeShapes Go.WideShapes Go.ChangeAt Go.RowKit
set_option linter.unusedVariables false


def grpR (l : List Int) : List (List Int) := if grB l then gl l l.length else []

theorem grpR_length (l : List Int) : (grpR l).length ≤ 1000 := by
  unfold grpR
  split
  · rename_i h
    have h1 := gl_length l l.length (grB_to h (Nat.le_refl _))
    have h2 := nx_le l l.length
    have h3 := grB_len h
    omega
  · simp

theorem grpR_row (l : List Int) (i : Nat) : (row (grpR l) i).length ≤ 1000 := by
  unfold grpR
  split
  · rename_i h
    have h1 := row_gl_len l l.length (grB_to h (Nat.le_refl _)) i
    have h3 := grB_len h
    omega
  · simp [row]

theorem specGroups_yes (w : World) (ao : Option Addr) (cap : Nat) (l : List Int) (n : Nat) (Hn : Hid (n = l.length)) (hn : n ≤ 1048576) (hc : NumsAt w ao l) (Hg : Hid (grB l = true)) :
    Calls Try.prog 17 #[.slice ao n cap] w fun e w' => ∃ v X, e = .returned (.tuple #[v, .bool true]) ∧ OwnSS w' w.heap.size v X (gl l n) ∧ Below w.heap.size w w' := by
  go_enter Try.func17, Try.ntmps17
  go_wp2_with fail
  refine (cbGood_any ao cap l n w Hn hn hc).mono ?_
  rintro e w' ⟨rfl, rfl⟩
  rw [Hg.out]
  go_wp2_with fail
  refine (cbGroups_any ao cap l n w Hn Hg hc).mono ?_
  rintro e w' ⟨v, X, rfl, hO, hb⟩
  go_wp2_with fail
  go_ret2
  exact ⟨v, X, rfl, hO, hb⟩

theorem specGroups_no (w : World) (ao : Option Addr) (cap : Nat) (l : List Int) (n : Nat) (Hn : Hid (n = l.length)) (hn : n ≤ 1048576) (hc : NumsAt w ao l) (Hg : Hid (grB l = false)) :
    Calls Try.prog 17 #[.slice ao n cap] w fun e w' => e = .returned (.tuple #[.slice none 0 0, .bool false]) ∧ w = w' := by
  go_enter Try.func17, Try.ntmps17
  go_wp2_with fail
  refine (cbGood_any ao cap l n w Hn hn hc).mono ?_
  rintro e w' ⟨rfl, rfl⟩
  rw [Hg.out]
  go_wp2_with fail
  go_ret2
  exact ⟨rfl, rfl⟩

theorem specGroups_any (w : World) (ao : Option Addr) (cap : Nat) (l : List Int) (n : Nat) (Hn : Hid (n = l.length)) (hn : n ≤ 1048576) (hc : NumsAt w ao l) :
    Calls Try.prog 17 #[.slice ao n cap] w fun e w' => ∃ v X, e = .returned (.tuple #[v, .bool (grB l)]) ∧ OwnSS w' w.heap.size v X (grpR l) ∧ Below w.heap.size w w' := by
  cases hg : grB l
  · have hR : grpR l = [] := by simp [grpR, hg]
    rw [hR]
    refine (specGroups_no w ao cap l n Hn hn hc hg).mono ?_
    rintro e w' ⟨rfl, rfl⟩
    exact ⟨_, [], rfl, OwnSS.nil _ _, Below.refl _ _⟩
  · have hR : grpR l = gl l n := by rw [Hn.out]; simp [grpR, hg]
    rw [hR]
    exact specGroups_yes w ao cap l n Hn hn hc hg

theorem implGroups_yes (w : World) (ao : Option Addr) (cap : Nat) (l : List Int) (n : Nat) (Hn : Hid (n = l.length)) (hn : n ≤ 1048576) (hc : NumsAt w ao l) (Hg : Hid (grB l = true)) :
    Calls Try.prog 18 #[.slice ao n cap] w fun e w' => ∃ v X, e = .returned (.tuple #[v, .bool true]) ∧ OwnSS w' w.heap.size v X (gl l n) ∧ Below w.heap.size w w' := by
  go_enter Try.func18, Try.ntmps18
  go_wp2_with fail
  refine (isGr_any ao cap l n w Hn hn hc).mono ?_
  rintro e w' ⟨rfl, rfl⟩
  rw [Hg.out]
  go_wp2_with fail
  refine (groupsOf_any ao cap l n w Hn Hg hc).mono ?_
  rintro e w' ⟨v, X, rfl, hO, hb⟩
  go_wp2_with fail
  go_ret2
  exact ⟨v, X, rfl, hO, hb⟩

theorem implGroups_no (w : World) (ao : Option Addr) (cap : Nat) (l : List Int) (n : Nat) (Hn : Hid (n = l.length)) (hn : n ≤ 1048576) (hc : NumsAt w ao l) (Hg : Hid (grB l = false)) :
    Calls Try.prog 18 #[.slice ao n cap] w fun e w' => e = .returned (.tuple #[.slice none 0 0, .bool false]) ∧ w = w' := by
  go_enter Try.func18, Try.ntmps18
  go_wp2_with fail
  refine (isGr_any ao cap l n w Hn hn hc).mono ?_
  rintro e w' ⟨rfl, rfl⟩
  rw [Hg.out]
  go_wp2_with fail
  go_ret2
  exact ⟨rfl, rfl⟩

theorem implGroups_any (w : World) (ao : Option Addr) (cap : Nat) (l : List Int) (n : Nat) (Hn : Hid (n = l.length)) (hn : n ≤ 1048576) (hc : NumsAt w ao l) :
    Calls Try.prog 18 #[.slice ao n cap] w fun e w' => ∃ v X, e = .returned (.tuple #[v, .bool (grB l)]) ∧ OwnSS w' w.heap.size v X (grpR l) ∧ Below w.heap.size w w' := by
  cases hg : grB l
  · have hR : grpR l = [] := by simp [grpR, hg]
    rw [hR]
    refine (implGroups_no w ao cap l n Hn hn hc hg).mono ?_
    rintro e w' ⟨rfl, rfl⟩
    exact ⟨_, [], rfl, OwnSS.nil _ _, Below.refl _ _⟩
  · have hR : grpR l = gl l n := by rw [Hn.out]; simp [grpR, hg]
    rw [hR]
    exact implGroups_yes w ao cap l n Hn hn hc hg

set_option maxRecDepth 20000 in
theorem walkGroups (W : World) (o0 : Option Addr) (n0 c0 : Nat) (l0 : List Int) (q0n : n0 = l0.length) (q0m : n0 ≤ 9223372036854775807) (q0c : NumsAt W o0 l0) :
    Calls Try.prog 4 #[.slice o0 n0 c0] W fun e w' => e = .returned (.bool true) ∧ Below W.heap.size W w' := by
  have Hn0 := Lib.hid q0n
  have Hc0 := Lib.hid q0c
  clear q0n q0c
  by_cases hs0 : n0 ≤ 1048576
  · have hRl := grpR_length l0
    have HRr := Lib.hid (grpR_row l0)
    have HRr2 : Hid (∀ i, i < (grpR l0).length → (row (grpR l0) i).length ≤ 1048576) := fun i _ => Nat.le_trans (HRr.out i) (by omega)
    have hok : ((grB l0) != (grB l0)) = false := by simp
    go_enter Try.func4, Try.ntmps4
    go_wp2_with fail
    refine (toIntS_any o0 c0 l0 n0 W Hn0 hs0 Hc0.out).mono ?_
    rintro e w1 ⟨capy0, rfl, own1, bel1⟩
    have b1 : Below W.heap.size W w1 := bel1
    have Oy0 := Lib.hid own1
    clear own1 bel1
    go_wp2_with fail
    refine (specGroups_any w1 _ capy0 l0 n0 Hn0 hs0 (nums_at Oy0.out Hn0.out)).mono ?_
    rintro e w2 ⟨vw, Xw, rfl, ow, bel2⟩
    have b2 : Below W.heap.size W w2 := b1.trans (bel2.mono b1.size)
    have Ow := Lib.hid ow
    have hW2 := b2.size
    clear ow bel2
    go_wp2_with fail
    refine (toIntS_any o0 c0 l0 n0 w2 Hn0 hs0 (Hc0.out.kept b2)).mono ?_
    rintro e w3 ⟨capx0, rfl, own3, bel3⟩
    have d3 : Below w2.heap.size w2 w3 := bel3
    have Ox0 := Lib.hid own3
    clear own3 bel3
    have OX0 := Ox0
    have hs_x := d3.size
    go_wp2_with fail
    refine (implGroups_any w3 _ capx0 l0 n0 Hn0 hs0 (nums_at Ox0.out Hn0.out)).mono ?_
    rintro e w4 ⟨vg, Xg, rfl, og, bel4⟩
    have d4 : Below w2.heap.size w2 w4 := d3.trans (bel4.mono d3.size)
    have Ox0 := Lib.hid (own_later Ox0.out bel4)
    have Og := Lib.hid og
    have Ow2 := Lib.hid (Ow.out.later d4)
    clear og bel4
    go_wp2_with fail
    refine (eqIntSS_own vg vw Xg Xw (grpR l0) w4 (by omega) HRr2.out Og.out Ow2.out).mono ?_
    rintro e w5 ⟨rfl, bel5⟩
    have d5 : Below w2.heap.size w2 w5 := d4.trans (bel5.mono d4.size)
    have Og := Lib.hid (Og.out.later bel5)
    have Ox0 := Lib.hid (own_later Ox0.out bel5)
    clear bel5
    clear Ow2
    go_wp2_with fail
    refine (toIntS_any o0 c0 l0 n0 w5 Hn0 hs0 (Hc0.out.kept (b2.trans (d5.mono hW2)))).mono ?_
    rintro e w6 ⟨capz, rfl, ownz, bel6⟩
    have d6 : Below w2.heap.size w2 w6 := d5.trans (bel6.mono d5.size)
    have Ox0 := Lib.hid (own_later Ox0.out bel6)
    have Og := Lib.hid (Og.out.later bel6)
    have Oz := Lib.hid ownz
    clear ownz bel6
    go_wp2_with fail
    refine (eqIntS_own _ _ l0 n0 n0 w6 Hn0.out Hn0.out (by omega) Ox0.out Oz.out).mono ?_
    rintro e w7 ⟨rfl, bel7⟩
    have d7 : Below w2.heap.size w2 w7 := d6.trans (bel7.mono d6.size)
    have Ox0 := Lib.hid (own_later Ox0.out bel7)
    have Og := Lib.hid (Og.out.later bel7)
    clear Oz bel7
    go_wp2_with fail
    refine (markIntS_any _ _ l0 n0 w7 (1) (by omega) (by omega) Hn0.out (by omega) Ox0.out).mono ?_
    rintro e w8 ⟨rfl, ownm, gr8⟩
    have d8 : Below w2.heap.size w2 w8 := d7.grown gr8 d7.size (fun k hk => Nat.le_trans (Nat.le_refl _) (Ox0.out.lt k hk).1)
    have Og := Lib.hid (Og.out.kept gr8 (fun b hb => (OX0.out.lt b hb).2))
    clear ownm gr8
    have Ow3 := Lib.hid (Ow.out.later d8)
    go_wp2_with fail
    refine (eqIntSS_own vg vw Xg Xw (grpR l0) w8 (by omega) HRr2.out Og.out Ow3.out).mono ?_
    rintro e w9 ⟨rfl, bel9⟩
    have d9 : Below w2.heap.size w2 w9 := d8.trans (bel9.mono d8.size)
    have Og := Lib.hid (Og.out.later bel9)
    clear bel9
    clear Ow3
    go_wp2_with fail
    refine (markIntSS_any _ vg Xg (grpR l0) w9 hRl HRr.out Og.out).mono ?_
    rintro e w10 ⟨rfl, om, bel10⟩
    have d10 : Below w2.heap.size w2 w10 := d9.trans (bel10.mono hs_x)
    have Om := Lib.hid om
    have hct := ctot_le HRr.out (grpR l0).length
    have hmm : ((1 + (ctot (grpR l0) (grpR l0).length : Int)) != (1 + (ctot (grpR l0) (grpR l0).length : Int))) = false := by simp
    clear om bel10
    go_wp2_with fail
    refine (heldIntSS_any _ vg Xg (grpR l0) w10 hRl HRr.out Om.out).mono ?_
    rintro e w' ⟨rfl, rfl⟩
    go_wp2_with fail
    refine (toIntS_any o0 c0 l0 n0 w10 Hn0 hs0 (Hc0.out.kept (b2.trans (d10.mono hW2)))).mono ?_
    rintro e w11 ⟨capu0, rfl, own11, bel11⟩
    have d11 : Below w2.heap.size w2 w11 := d10.trans (bel11.mono d10.size)
    have Ou0 := Lib.hid own11
    have Om := Lib.hid (Om.out.later bel11)
    clear own11 bel11
    go_wp2_with fail
    refine (implGroups_any w11 _ capu0 l0 n0 Hn0 hs0 (nums_at Ou0.out Hn0.out)).mono ?_
    rintro e w12 ⟨vh, Xh, rfl, oh, bel12⟩
    have d12 : Below w2.heap.size w2 w12 := d11.trans (bel12.mono d11.size)
    have Oh := Lib.hid oh
    have Om := Lib.hid (Om.out.later bel12)
    have Ow4 := Lib.hid (Ow.out.later d12)
    clear oh bel12
    go_wp2_with fail
    refine (eqIntSS_own vh vw Xh Xw (grpR l0) w12 (by omega) HRr2.out Oh.out Ow4.out).mono ?_
    rintro e w13 ⟨rfl, bel13⟩
    have d13 : Below w2.heap.size w2 w13 := d12.trans (bel13.mono d12.size)
    have Om := Lib.hid (Om.out.later bel13)
    clear bel13
    go_wp2_with fail
    refine (heldIntSS_any _ vg Xg (grpR l0) w13 hRl HRr.out Om.out).mono ?_
    rintro e w' ⟨rfl, rfl⟩
    go_wp2_with fail
    go_ret
    exact ⟨rfl, b2.trans (d13.mono hW2)⟩
  · go_enter Try.func4, Try.ntmps4
    go_wp2_with fail
    go_ret
    exact ⟨rfl, Below.refl _ _⟩

end Go.Proofs.Ytoaobdeigangfaa
