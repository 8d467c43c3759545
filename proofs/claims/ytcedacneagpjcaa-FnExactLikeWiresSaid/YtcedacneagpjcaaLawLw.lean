/- The walk of the law FnExactLikeWires: it answers true and turns nothing that was there. -/
import Derived.Test.YtcedacneagpjcaaTk
import Derived.Test.YtcedacneagpjcaaLk
import Derived.Test.YtcedacneagpjcaaOpen
namespace Go.Proofs.Ytcedacneagpjcaa
open Go.ChangeShapes Go.WideShapes Go.ChangeAt Go.RowKit
set_option linter.unusedVariables false


def lkR (l m : List Int) : List (List Int) := if twB l m then lkL l m l.length l.length else []

theorem lkR_length (l m : List Int) : (lkR l m).length ≤ 1000 := by
  unfold lkR
  split
  · rename_i h
    have h1 := lkL_len l m l.length l.length
    have h2 := grB_len (twB_parts h).1
    omega
  · simp

theorem lkR_row (l m : List Int) (i : Nat) : (row (lkR l m) i).length ≤ 1000 := by
  unfold lkR
  split
  · rename_i h
    have h1 := lkL_row l m l.length l.length i
    have h2 := grB_len (twB_parts h).1
    omega
  · simp [row]

theorem specLw_yes (w : World) (ao : Option Addr) (ka : Nat) (l : List Int) (n : Nat) (Hn : Hid (n = l.length)) (hn : n ≤ 1048576) (Ha : NumsAt w ao l) (bo : Option Addr) (kb : Nat) (m : List Int) (Hk : Hid (n = m.length)) (Hb : NumsAt w bo m) (Ht : Hid (twB l m = true)) :
    Calls Try.prog 26 #[.slice ao n ka, .slice bo n kb] w fun e w' => ∃ v X, e = .returned (.tuple #[v, .bool true]) ∧ OwnSS w' w.heap.size v X (lkL l m n n) ∧ Below w.heap.size w w' := by
  have Hp := Lib.hid (twB_parts Ht.out)
  obtain ⟨b, off, hao, hc⟩ := nums_pos Hn Hp.out.1 Ha
  obtain ⟨b2, off2, hbo, hd⟩ := nums_pos Hk Hp.out.2.1 Hb
  have HA := Lib.hid Ha
  have HB := Lib.hid Hb
  have HC := Lib.hid hc
  have HD := Lib.hid hd
  clear Ha Hb hc hd
  subst hao
  subst hbo
  go_enter Try.func26, Try.ntmps26
  go_wp2_with fail
  refine (cbTwo_any w _ ka l n Hn hn HA.out _ kb m n Hk hn HB.out).mono ?_
  rintro e w' ⟨rfl, rfl⟩
  rw [Ht.out]
  go_wp2_with fail
  refine (cbLike_pos w b off ka b2 off2 kb l m n Hn Hk Hp.out.1 Hp.out.2.1 HC HD).mono ?_
  rintro e w' ⟨v, X, rfl, hO, hb⟩
  go_wp2_with fail
  go_ret2
  exact ⟨v, X, rfl, hO, hb⟩

theorem implLw_yes (w : World) (ao : Option Addr) (ka : Nat) (l : List Int) (n : Nat) (Hn : Hid (n = l.length)) (hn : n ≤ 1048576) (Ha : NumsAt w ao l) (bo : Option Addr) (kb : Nat) (m : List Int) (Hk : Hid (n = m.length)) (Hb : NumsAt w bo m) (Ht : Hid (twB l m = true)) :
    Calls Try.prog 27 #[.slice ao n ka, .slice bo n kb] w fun e w' => ∃ v X, e = .returned (.tuple #[v, .bool true]) ∧ OwnSS w' w.heap.size v X (lkL l m n n) ∧ Below w.heap.size w w' := by
  have Hp := Lib.hid (twB_parts Ht.out)
  have hn12 : n ≤ 12 := by have := grB_len Hp.out.1; have := Hn.out; omega
  have HR : Hid (∀ i, i < n → inR ((sz l i : Nat) : Int) ∧ inR ((sz m i : Nat) : Int)) := fun i hi => by
    have h1 := sz_le l i
    have h2 := sz_le m i
    have h3 := Hn.out
    have h4 := Hk.out
    unfold inR
    omega
  obtain ⟨b, off, hao, hc⟩ := nums_pos Hn Hp.out.1 Ha
  obtain ⟨b2, off2, hbo, hd⟩ := nums_pos Hk Hp.out.2.1 Hb
  have HA := Lib.hid Ha
  have HB := Lib.hid Hb
  have HC := Lib.hid hc
  have HD := Lib.hid hd
  clear Ha Hb hc hd
  subst hao
  subst hbo
  go_enter Try.func27, Try.ntmps27
  go_wp2_with fail
  refine (areGroupings_any w _ ka l n Hn hn HA.out _ kb m n Hk hn HB.out).mono ?_
  rintro e w' ⟨rfl, rfl⟩
  rw [Ht.out]
  go_wp2_with fail
  refine (labelledBy_pos w b off ka b2 off2 kb l m n Hn Hk Hp.out.1 Hp.out.2.1 HC HD).mono ?_
  rintro e w1 ⟨B, D, V, rfl, hM, hG, hB, hb1⟩
  have HI : Hid (TkI w B n l m w1 0 (.slice none 0 0) [] D V (wz l m n)) := ⟨Nat.zero_le _, hM, hG, Lv.start l m n, OwnSS.nil _ _, fun _ _ _ _ _ _ => ⟨fun h => (by cases h), fun i u h => (by simp at h)⟩, hb1⟩
  have HT := Lib.hid (takeAlike_pos w w1 B n hB hn12 l m HR D V HI)
  clear hM hG hb1 HI
  go_wp2_with fail
  refine HT.out.mono ?_
  rintro e w2 ⟨v, X, rfl, hO, hb⟩
  go_wp2_with fail
  go_ret2
  exact ⟨v, X, rfl, hO, hb⟩

theorem specLw_no (w : World) (ao : Option Addr) (ka : Nat) (l : List Int) (n : Nat) (Hn : Hid (n = l.length)) (hn : n ≤ 1048576) (Ha : NumsAt w ao l) (bo : Option Addr) (kb : Nat) (m : List Int) (k : Nat) (Hk : Hid (k = m.length)) (hk : k ≤ 1048576) (Hb : NumsAt w bo m) (Ht : Hid (twB l m = false)) :
    Calls Try.prog 26 #[.slice ao n ka, .slice bo k kb] w fun e w' => e = .returned (.tuple #[.slice none 0 0, .bool false]) ∧ w = w' := by
  go_enter Try.func26, Try.ntmps26
  go_wp2_with fail
  refine (cbTwo_any w _ ka l n Hn hn Ha _ kb m k Hk hk Hb).mono ?_
  rintro e w' ⟨rfl, rfl⟩
  rw [Ht.out]
  go_wp2_with fail
  go_ret2
  exact ⟨rfl, rfl⟩

theorem specLw_any (w : World) (ao : Option Addr) (ka : Nat) (l : List Int) (n : Nat) (Hn : Hid (n = l.length)) (hn : n ≤ 1048576) (Ha : NumsAt w ao l) (bo : Option Addr) (kb : Nat) (m : List Int) (k : Nat) (Hk : Hid (k = m.length)) (hk : k ≤ 1048576) (Hb : NumsAt w bo m) :
    Calls Try.prog 26 #[.slice ao n ka, .slice bo k kb] w fun e w' => ∃ v X, e = .returned (.tuple #[v, .bool (twB l m)]) ∧ OwnSS w' w.heap.size v X (lkR l m) ∧ Below w.heap.size w w' := by
  cases ht : twB l m
  · have hR : lkR l m = [] := by simp [lkR, ht]
    rw [hR]
    refine (specLw_no w ao ka l n Hn hn Ha bo kb m k Hk hk Hb ht).mono ?_
    rintro e w' ⟨rfl, rfl⟩
    exact ⟨_, [], rfl, OwnSS.nil _ _, Below.refl _ _⟩
  · have hR : lkR l m = lkL l m n n := by rw [Hn.out]; simp [lkR, ht]
    rw [hR]
    obtain rfl : k = n := by have h := (twB_parts ht).2.2; have := Hn.out; have := Hk.out; omega
    exact specLw_yes w ao ka l k Hn hn Ha bo kb m Hk Hb ht

theorem implLw_no (w : World) (ao : Option Addr) (ka : Nat) (l : List Int) (n : Nat) (Hn : Hid (n = l.length)) (hn : n ≤ 1048576) (Ha : NumsAt w ao l) (bo : Option Addr) (kb : Nat) (m : List Int) (k : Nat) (Hk : Hid (k = m.length)) (hk : k ≤ 1048576) (Hb : NumsAt w bo m) (Ht : Hid (twB l m = false)) :
    Calls Try.prog 27 #[.slice ao n ka, .slice bo k kb] w fun e w' => e = .returned (.tuple #[.slice none 0 0, .bool false]) ∧ w = w' := by
  go_enter Try.func27, Try.ntmps27
  go_wp2_with fail
  refine (areGroupings_any w _ ka l n Hn hn Ha _ kb m k Hk hk Hb).mono ?_
  rintro e w' ⟨rfl, rfl⟩
  rw [Ht.out]
  go_wp2_with fail
  go_ret2
  exact ⟨rfl, rfl⟩

theorem implLw_any (w : World) (ao : Option Addr) (ka : Nat) (l : List Int) (n : Nat) (Hn : Hid (n = l.length)) (hn : n ≤ 1048576) (Ha : NumsAt w ao l) (bo : Option Addr) (kb : Nat) (m : List Int) (k : Nat) (Hk : Hid (k = m.length)) (hk : k ≤ 1048576) (Hb : NumsAt w bo m) :
    Calls Try.prog 27 #[.slice ao n ka, .slice bo k kb] w fun e w' => ∃ v X, e = .returned (.tuple #[v, .bool (twB l m)]) ∧ OwnSS w' w.heap.size v X (lkR l m) ∧ Below w.heap.size w w' := by
  cases ht : twB l m
  · have hR : lkR l m = [] := by simp [lkR, ht]
    rw [hR]
    refine (implLw_no w ao ka l n Hn hn Ha bo kb m k Hk hk Hb ht).mono ?_
    rintro e w' ⟨rfl, rfl⟩
    exact ⟨_, [], rfl, OwnSS.nil _ _, Below.refl _ _⟩
  · have hR : lkR l m = lkL l m n n := by rw [Hn.out]; simp [lkR, ht]
    rw [hR]
    obtain rfl : k = n := by have h := (twB_parts ht).2.2; have := Hn.out; have := Hk.out; omega
    exact implLw_yes w ao ka l k Hn hn Ha bo kb m Hk Hb ht

set_option maxRecDepth 20000 in
theorem walkLw (W : World) (o0 : Option Addr) (n0 c0 : Nat) (l0 : List Int) (q0n : n0 = l0.length) (q0m : n0 ≤ 9223372036854775807) (q0c : NumsAt W o0 l0) (o1 : Option Addr) (n1 c1 : Nat) (l1 : List Int) (q1n : n1 = l1.length) (q1m : n1 ≤ 9223372036854775807) (q1c : NumsAt W o1 l1) :
    Calls Try.prog 9 #[.slice o0 n0 c0, .slice o1 n1 c1] W fun e w' => e = .returned (.bool true) ∧ Below W.heap.size W w' := by
  have Hn0 := Lib.hid q0n
  have Hc0 := Lib.hid q0c
  clear q0n q0c
  have Hn1 := Lib.hid q1n
  have Hc1 := Lib.hid q1c
  clear q1n q1c
  by_cases hs0 : n0 ≤ 1048576
  · by_cases hs1 : n1 ≤ 1048576
    · have hRl := lkR_length l0 l1
      have HRr := Lib.hid (lkR_row l0 l1)
      have HRr2 : Hid (∀ i, i < (lkR l0 l1).length → (row (lkR l0 l1) i).length ≤ 1048576) := fun i _ => Nat.le_trans (HRr.out i) (by omega)
      have hok : ((twB l0 l1) != (twB l0 l1)) = false := by simp
      go_enter Try.func9, Try.ntmps9
      go_wp2_with fail
      refine (toIntS_any o0 c0 l0 n0 W Hn0 hs0 Hc0.out).mono ?_
      rintro e w1 ⟨capy0, rfl, own1, bel1⟩
      have b1 : Below W.heap.size W w1 := bel1
      have Oy0 := Lib.hid own1
      clear own1 bel1
      go_wp2_with fail
      refine (toIntS_any o1 c1 l1 n1 w1 Hn1 hs1 (Hc1.out.kept b1)).mono ?_
      rintro e w2 ⟨capy1, rfl, own2, bel2⟩
      have b2 : Below W.heap.size W w2 := b1.trans (bel2.mono b1.size)
      have Oy0 := Lib.hid (own_later Oy0.out bel2)
      have Oy1 := Lib.hid own2
      clear own2 bel2
      go_wp2_with fail
      refine (specLw_any w2 _ capy0 l0 n0 Hn0 hs0 (nums_at Oy0.out Hn0.out) _ capy1 l1 n1 Hn1 hs1 (nums_at Oy1.out Hn1.out)).mono ?_
      rintro e w3 ⟨vw, Xw, rfl, ow, bel3⟩
      have b3 : Below W.heap.size W w3 := b2.trans (bel3.mono b2.size)
      have Ow := Lib.hid ow
      have hW2 := b3.size
      clear ow bel3
      go_wp2_with fail
      refine (toIntS_any o0 c0 l0 n0 w3 Hn0 hs0 (Hc0.out.kept b3)).mono ?_
      rintro e w4 ⟨capx0, rfl, own4, bel4⟩
      have d4 : Below w3.heap.size w3 w4 := bel4
      have Ox0 := Lib.hid own4
      clear own4 bel4
      go_wp2_with fail
      refine (toIntS_any o1 c1 l1 n1 w4 Hn1 hs1 (Hc1.out.kept (b3.trans (d4.mono hW2)))).mono ?_
      rintro e w5 ⟨capx1, rfl, own5, bel5⟩
      have d5 : Below w3.heap.size w3 w5 := d4.trans (bel5.mono d4.size)
      have OOx0 := Ox0
      have Ox0 := Lib.hid (own_later Ox0.out bel5)
      have Ox1 := Lib.hid own5
      have hx1 := d4.size
      have A10 := Lib.hid (apart_of' OOx0.out Ox1.out)
      clear own5 bel5
      have OX0 := Ox0
      have OX1 := Ox1
      have hs_x := d5.size
      go_wp2_with fail
      refine (implLw_any w5 _ capx0 l0 n0 Hn0 hs0 (nums_at Ox0.out Hn0.out) _ capx1 l1 n1 Hn1 hs1 (nums_at Ox1.out Hn1.out)).mono ?_
      rintro e w6 ⟨vg, Xg, rfl, og, bel6⟩
      have d6 : Below w3.heap.size w3 w6 := d5.trans (bel6.mono d5.size)
      have Ox0 := Lib.hid (own_later Ox0.out bel6)
      have Ox1 := Lib.hid (own_later Ox1.out bel6)
      have Og := Lib.hid og
      have Ow2 := Lib.hid (Ow.out.later d6)
      clear og bel6
      go_wp2_with fail
      refine (eqIntSS_own vg vw Xg Xw (lkR l0 l1) w6 (by omega) HRr2.out Og.out Ow2.out).mono ?_
      rintro e w7 ⟨rfl, bel7⟩
      have d7 : Below w3.heap.size w3 w7 := d6.trans (bel7.mono d6.size)
      have Og := Lib.hid (Og.out.later bel7)
      have Ox0 := Lib.hid (own_later Ox0.out bel7)
      have Ox1 := Lib.hid (own_later Ox1.out bel7)
      clear bel7
      clear Ow2
      go_wp2_with fail
      refine (toIntS_any o0 c0 l0 n0 w7 Hn0 hs0 (Hc0.out.kept (b3.trans (d7.mono hW2)))).mono ?_
      rintro e w8 ⟨capz, rfl, ownz, bel8⟩
      have d8 : Below w3.heap.size w3 w8 := d7.trans (bel8.mono d7.size)
      have Ox0 := Lib.hid (own_later Ox0.out bel8)
      have Ox1 := Lib.hid (own_later Ox1.out bel8)
      have Og := Lib.hid (Og.out.later bel8)
      have Oz := Lib.hid ownz
      clear ownz bel8
      go_wp2_with fail
      refine (eqIntS_own _ _ l0 n0 n0 w8 Hn0.out Hn0.out (by omega) Ox0.out Oz.out).mono ?_
      rintro e w9 ⟨rfl, bel9⟩
      have d9 : Below w3.heap.size w3 w9 := d8.trans (bel9.mono d8.size)
      have Ox0 := Lib.hid (own_later Ox0.out bel9)
      have Ox1 := Lib.hid (own_later Ox1.out bel9)
      have Og := Lib.hid (Og.out.later bel9)
      clear Oz bel9
      go_wp2_with fail
      refine (toIntS_any o1 c1 l1 n1 w9 Hn1 hs1 (Hc1.out.kept (b3.trans (d9.mono hW2)))).mono ?_
      rintro e w10 ⟨capz, rfl, ownz, bel10⟩
      have d10 : Below w3.heap.size w3 w10 := d9.trans (bel10.mono d9.size)
      have Ox0 := Lib.hid (own_later Ox0.out bel10)
      have Ox1 := Lib.hid (own_later Ox1.out bel10)
      have Og := Lib.hid (Og.out.later bel10)
      have Oz := Lib.hid ownz
      clear ownz bel10
      go_wp2_with fail
      refine (eqIntS_own _ _ l1 n1 n1 w10 Hn1.out Hn1.out (by omega) Ox1.out Oz.out).mono ?_
      rintro e w11 ⟨rfl, bel11⟩
      have d11 : Below w3.heap.size w3 w11 := d10.trans (bel11.mono d10.size)
      have Ox0 := Lib.hid (own_later Ox0.out bel11)
      have Ox1 := Lib.hid (own_later Ox1.out bel11)
      have Og := Lib.hid (Og.out.later bel11)
      clear Oz bel11
      go_wp2_with fail
      refine (markIntS_any _ _ l0 n0 w11 (1) (by omega) (by omega) Hn0.out (by omega) Ox0.out).mono ?_
      rintro e w12 ⟨rfl, ownm, gr12⟩
      have d12 : Below w3.heap.size w3 w12 := d11.grown gr12 d11.size (fun k hk => Nat.le_trans (Nat.le_refl _) (Ox0.out.lt k hk).1)
      have Og := Lib.hid (Og.out.kept gr12 (fun b hb => (OX0.out.lt b hb).2))
      have Ox1 := Lib.hid (Ox1.out.kept gr12 A10.out)
      clear ownm gr12
      go_wp2_with fail
      refine (markIntS_any _ _ l1 n1 w12 (1 + (n0 : Int)) (by omega) (by omega) Hn1.out (by omega) Ox1.out).mono ?_
      rintro e w13 ⟨rfl, ownm, gr13⟩
      have d13 : Below w3.heap.size w3 w13 := d12.grown gr13 d12.size (fun k hk => Nat.le_trans (hx1) (Ox1.out.lt k hk).1)
      have Og := Lib.hid (Og.out.kept gr13 (fun b hb => (OX1.out.lt b hb).2))
      clear ownm gr13
      have Ow3 := Lib.hid (Ow.out.later d13)
      go_wp2_with fail
      refine (eqIntSS_own vg vw Xg Xw (lkR l0 l1) w13 (by omega) HRr2.out Og.out Ow3.out).mono ?_
      rintro e w14 ⟨rfl, bel14⟩
      have d14 : Below w3.heap.size w3 w14 := d13.trans (bel14.mono d13.size)
      have Og := Lib.hid (Og.out.later bel14)
      clear bel14
      clear Ow3
      go_wp2_with fail
      refine (markIntSS_any _ vg Xg (lkR l0 l1) w14 hRl HRr.out Og.out).mono ?_
      rintro e w15 ⟨rfl, om, bel15⟩
      have d15 : Below w3.heap.size w3 w15 := d14.trans (bel15.mono hs_x)
      have Om := Lib.hid om
      have hct := ctot_le HRr.out (lkR l0 l1).length
      have hmm : ((1 + (ctot (lkR l0 l1) (lkR l0 l1).length : Int)) != (1 + (ctot (lkR l0 l1) (lkR l0 l1).length : Int))) = false := by simp
      clear om bel15
      go_wp2_with fail
      refine (heldIntSS_any _ vg Xg (lkR l0 l1) w15 hRl HRr.out Om.out).mono ?_
      rintro e w' ⟨rfl, rfl⟩
      go_wp2_with fail
      refine (toIntS_any o0 c0 l0 n0 w15 Hn0 hs0 (Hc0.out.kept (b3.trans (d15.mono hW2)))).mono ?_
      rintro e w16 ⟨capu0, rfl, own16, bel16⟩
      have d16 : Below w3.heap.size w3 w16 := d15.trans (bel16.mono d15.size)
      have Ou0 := Lib.hid own16
      have Om := Lib.hid (Om.out.later bel16)
      clear own16 bel16
      go_wp2_with fail
      refine (toIntS_any o1 c1 l1 n1 w16 Hn1 hs1 (Hc1.out.kept (b3.trans (d16.mono hW2)))).mono ?_
      rintro e w17 ⟨capu1, rfl, own17, bel17⟩
      have d17 : Below w3.heap.size w3 w17 := d16.trans (bel17.mono d16.size)
      have Ou0 := Lib.hid (own_later Ou0.out bel17)
      have Ou1 := Lib.hid own17
      have Om := Lib.hid (Om.out.later bel17)
      clear own17 bel17
      go_wp2_with fail
      refine (implLw_any w17 _ capu0 l0 n0 Hn0 hs0 (nums_at Ou0.out Hn0.out) _ capu1 l1 n1 Hn1 hs1 (nums_at Ou1.out Hn1.out)).mono ?_
      rintro e w18 ⟨vh, Xh, rfl, oh, bel18⟩
      have d18 : Below w3.heap.size w3 w18 := d17.trans (bel18.mono d17.size)
      have Oh := Lib.hid oh
      have Om := Lib.hid (Om.out.later bel18)
      have Ow4 := Lib.hid (Ow.out.later d18)
      clear oh bel18
      go_wp2_with fail
      refine (eqIntSS_own vh vw Xh Xw (lkR l0 l1) w18 (by omega) HRr2.out Oh.out Ow4.out).mono ?_
      rintro e w19 ⟨rfl, bel19⟩
      have d19 : Below w3.heap.size w3 w19 := d18.trans (bel19.mono d18.size)
      have Om := Lib.hid (Om.out.later bel19)
      clear bel19
      go_wp2_with fail
      refine (heldIntSS_any _ vg Xg (lkR l0 l1) w19 hRl HRr.out Om.out).mono ?_
      rintro e w' ⟨rfl, rfl⟩
      go_wp2_with fail
      go_ret
      exact ⟨rfl, b3.trans (d19.mono hW2)⟩
    · go_enter Try.func9, Try.ntmps9
      go_wp2_with fail
      go_ret
      exact ⟨rfl, Below.refl _ _⟩
  · go_enter Try.func9, Try.ntmps9
    go_wp2_with fail
    go_ret
    exact ⟨rfl, Below.refl _ _⟩

end Go.Proofs.Ytcedacneagpjcaa
