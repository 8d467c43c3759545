/- The walk of the law FnExactSizesOf: it answers true and turns nothing that was there. -/
import Derived.Test.YtoaobdeigangfaaSzI
import Derived.Test.YtoaobdeigangfaaSzS
import Derived.Test.YtoaobdeigangfaaOpen
namespace Go.Proofs.Ytoaobdeigangfaa
open Go.ChangeShapes Go.WideShapes Go.ChangeAt Go.RowKit
set_option linter.unusedVariables false


theorem specSz_any (w : World) (ao : Option Addr) (cap : Nat) (l : List Int) (n : Nat) (Hn : Hid (n = l.length)) (hn : n ≤ 1048576) (hc : NumsAt w ao l) :
    Calls Try.prog 23 #[.slice ao n cap] w fun e w' => ∃ v, e = .returned (.tuple #[v, .bool (grB l)]) ∧ w'.ownsRow w.heap.size 3 1 v (szR l).length (ns (szR l)) ∧ Below w.heap.size w w' := by
  cases hg : grB l
  · have hR : szR l = [] := by simp [szR, hg]
    rw [hR]
    have Hg := Lib.hid hg
    clear hR hg
    go_enter Try.func23, Try.ntmps23
    go_wp2_with fail
    refine (cbGood_any ao cap l n w Hn hn hc).mono ?_
    rintro e w' ⟨rfl, rfl⟩
    rw [Hg.out]
    go_wp2_with fail
    go_ret2
    exact ⟨_, rfl, World.ownsRow_nil _ _ _ _, Below.refl _ _⟩
  · have hR : szR l = szS (gl l n) := by simp [szR, hg, ← Hn.out]
    have hl : (szS (gl l n)).length = (gl l n).length := by unfold szS; rw [srtD_length, szL_length _ _ (Nat.le_refl _)]
    rw [hR, hl]
    have Hg := Lib.hid hg
    have Hin := Lib.hid (cbSizes_any ao cap l n w Hn hg hc)
    clear hR hl hg
    go_enter Try.func23, Try.ntmps23
    go_wp2_with fail
    refine (cbGood_any ao cap l n w Hn hn hc).mono ?_
    rintro e w' ⟨rfl, rfl⟩
    rw [Hg.out]
    go_wp2_with fail
    refine Hin.out.mono ?_
    rintro e w1 ⟨v, rfl, hO, hb1⟩
    have HO := Lib.hid hO
    clear hO Hin
    go_wp2_with fail
    go_ret2
    exact ⟨_, rfl, HO.out, hb1⟩

theorem implSz_any (w : World) (ao : Option Addr) (cap : Nat) (l : List Int) (n : Nat) (Hn : Hid (n = l.length)) (hn : n ≤ 1048576) (hc : NumsAt w ao l) :
    Calls Try.prog 24 #[.slice ao n cap] w fun e w' => ∃ v, e = .returned (.tuple #[v, .bool (grB l)]) ∧ w'.ownsRow w.heap.size 3 1 v (szR l).length (ns (szR l)) ∧ Below w.heap.size w w' := by
  cases hg : grB l
  · have hR : szR l = [] := by simp [szR, hg]
    rw [hR]
    have Hg := Lib.hid hg
    clear hR hg
    go_enter Try.func24, Try.ntmps24
    go_wp2_with fail
    refine (isGr_any ao cap l n w Hn hn hc).mono ?_
    rintro e w' ⟨rfl, rfl⟩
    rw [Hg.out]
    go_wp2_with fail
    go_ret2
    exact ⟨_, rfl, World.ownsRow_nil _ _ _ _, Below.refl _ _⟩
  · have hR : szR l = szS (gl l n) := by simp [szR, hg, ← Hn.out]
    have hl : (szS (gl l n)).length = (gl l n).length := by unfold szS; rw [srtD_length, szL_length _ _ (Nat.le_refl _)]
    rw [hR, hl]
    have Hg := Lib.hid hg
    have Hin := Lib.hid (sizesOf_any ao cap l n w Hn hg hc)
    clear hR hl hg
    go_enter Try.func24, Try.ntmps24
    go_wp2_with fail
    refine (isGr_any ao cap l n w Hn hn hc).mono ?_
    rintro e w' ⟨rfl, rfl⟩
    rw [Hg.out]
    go_wp2_with fail
    refine Hin.out.mono ?_
    rintro e w1 ⟨v, rfl, hO, hb1⟩
    have HO := Lib.hid hO
    clear hO Hin
    go_wp2_with fail
    go_ret2
    exact ⟨_, rfl, HO.out, hb1⟩
set_option maxRecDepth 20000 in
theorem walkSz (W : World) (o0 : Option Addr) (n0 c0 : Nat) (l0 : List (Int)) (q0n : n0 = l0.length) (q0m : n0 ≤ 9223372036854775807) (q0c : NumsAt W o0 l0) :
    Calls Try.prog 5 #[.slice o0 n0 c0] W fun e w' => e = .returned (.bool true) ∧ Below W.heap.size W w' := by
  have Hn0 := Lib.hid q0n
  have Hc0 := Lib.hid q0c
  clear q0n q0c
  by_cases hs0 : n0 ≤ 1048576
  · go_enter Try.func5, Try.ntmps5
    go_wp2_with fail
    refine (toIntS_any o0 c0 l0 n0 W Hn0 hs0 Hc0).mono ?_
    rintro e w1 ⟨capy0, rfl, owny0, bel1⟩
    have b1 : Below W.heap.size W w1 := bel1
    clear bel1
    have Hy0 : W.heap.size ≤ W.heap.size := Nat.le_refl _
    have Oy0 := Lib.hid owny0
    clear owny0
    have OOy0 := Oy0
    go_wp2_with fail
    refine (specSz_any w1 _ capy0 l0 n0 Hn0 hs0 (nums_at Oy0.out Hn0.out)).mono ?_
    rintro e w2 ⟨vw, rfl, ownvw, bel2⟩
    have b2 : Below W.heap.size W w2 := b1.trans (bel2.mono b1.size)
    have Oy0 := Lib.hid (own_later Oy0.out bel2)
    clear bel2
    have Hvw : W.heap.size ≤ w1.heap.size := b1.size
    have Ovw := Lib.hid ownvw
    clear ownvw
    have Ay0vw := Lib.hid (apart_of OOy0.out Ovw.out)
    have Avwy0 := Lib.hid (apart_of' OOy0.out Ovw.out)
    have OOvw := Ovw
    go_wp2_with fail
    refine (toIntS_any o0 c0 l0 n0 w2 Hn0 hs0 (Hc0.out.kept b2)).mono ?_
    rintro e w3 ⟨capx0, rfl, ownx0, bel3⟩
    have b3 : Below W.heap.size W w3 := b2.trans (bel3.mono b2.size)
    have Ovw := Lib.hid (own_later Ovw.out bel3)
    clear bel3
    have Hx0 : W.heap.size ≤ w2.heap.size := b2.size
    have Ox0 := Lib.hid ownx0
    clear ownx0
    have Avwx0 := Lib.hid (apart_of OOvw.out Ox0.out)
    have Ax0vw := Lib.hid (apart_of' OOvw.out Ox0.out)
    have hok : ((grB l0) != (grB l0)) = false := by simp
    have OOvw := Ovw
    have OOx0 := Ox0
    go_wp2_with fail
    refine (implSz_any w3 _ capx0 l0 n0 Hn0 hs0 (nums_at Ox0.out Hn0.out)).mono ?_
    rintro e w4 ⟨vg, rfl, ownvg, bel4⟩
    have b4 : Below W.heap.size W w4 := b3.trans (bel4.mono b3.size)
    have Ovw := Lib.hid (own_later Ovw.out bel4)
    have Ox0 := Lib.hid (own_later Ox0.out bel4)
    clear bel4
    have Hvg : W.heap.size ≤ w3.heap.size := b3.size
    have Ovg := Lib.hid ownvg
    clear ownvg
    have Avwvg := Lib.hid (apart_of OOvw.out Ovg.out)
    have Avgvw := Lib.hid (apart_of' OOvw.out Ovg.out)
    have Ax0vg := Lib.hid (apart_of OOx0.out Ovg.out)
    have Avgx0 := Lib.hid (apart_of' OOx0.out Ovg.out)
    have hlen := szR_len l0
    go_wp2_with fail
    refine (eqIntS_own _ _ (szR l0) (szR l0).length (szR l0).length w4 rfl rfl (by omega) Ovg.out Ovw.out).mono ?_
    rintro e w5 ⟨rfl, bel5⟩
    have b5 : Below W.heap.size W w5 := b4.trans (bel5.mono b4.size)
    have Ovw := Lib.hid (own_later Ovw.out bel5)
    have Ox0 := Lib.hid (own_later Ox0.out bel5)
    have Ovg := Lib.hid (own_later Ovg.out bel5)
    clear bel5
    have OOvw := Ovw
    have OOx0 := Ox0
    have OOvg := Ovg
    go_wp2_with fail
    refine (toIntS_any o0 c0 l0 n0 w5 Hn0 hs0 (Hc0.out.kept b5)).mono ?_
    rintro e w6 ⟨capz0, rfl, ownz0, bel6⟩
    have b6 : Below W.heap.size W w6 := b5.trans (bel6.mono b5.size)
    have Ovw := Lib.hid (own_later Ovw.out bel6)
    have Ox0 := Lib.hid (own_later Ox0.out bel6)
    have Ovg := Lib.hid (own_later Ovg.out bel6)
    clear bel6
    have Hz0 : W.heap.size ≤ w5.heap.size := b5.size
    have Oz0 := Lib.hid ownz0
    clear ownz0
    have Avwz0 := Lib.hid (apart_of OOvw.out Oz0.out)
    have Az0vw := Lib.hid (apart_of' OOvw.out Oz0.out)
    have Ax0z0 := Lib.hid (apart_of OOx0.out Oz0.out)
    have Az0x0 := Lib.hid (apart_of' OOx0.out Oz0.out)
    have Avgz0 := Lib.hid (apart_of OOvg.out Oz0.out)
    have Az0vg := Lib.hid (apart_of' OOvg.out Oz0.out)
    go_wp2_with fail
    refine (eqIntS_own _ _ l0 n0 n0 w6 Hn0.out Hn0.out (by omega) Ox0.out Oz0.out).mono ?_
    rintro e w7 ⟨rfl, bel7⟩
    have b7 : Below W.heap.size W w7 := b6.trans (bel7.mono b6.size)
    have Ovw := Lib.hid (own_later Ovw.out bel7)
    have Ox0 := Lib.hid (own_later Ox0.out bel7)
    have Ovg := Lib.hid (own_later Ovg.out bel7)
    have Oz0 := Lib.hid (own_later Oz0.out bel7)
    clear bel7
    go_wp2_with fail
    refine (markIntS_any _ _ l0 n0 w7 (1) (by omega) (by omega) Hn0.out (by omega) Ox0.out).mono ?_
    rintro e w8 ⟨rfl, ownx0, gr8⟩
    have b8 : Below W.heap.size W w8 := b7.grown gr8 b7.size (fun k hk => Nat.le_trans Hx0 (Ox0.out.lt k hk).1)
    have Ovw := Lib.hid (Ovw.out.kept gr8 Avwx0.out)
    have Ovg := Lib.hid (Ovg.out.kept gr8 Avgx0.out)
    have Ox0 := Lib.hid ownx0
    clear ownx0 gr8
    go_wp2_with fail
    refine (eqIntS_own _ _ (szR l0) (szR l0).length (szR l0).length w8 rfl rfl (by omega) Ovg.out Ovw.out).mono ?_
    rintro e w9 ⟨rfl, bel9⟩
    have b9 : Below W.heap.size W w9 := b8.trans (bel9.mono b8.size)
    have Ovw := Lib.hid (own_later Ovw.out bel9)
    have Ox0 := Lib.hid (own_later Ox0.out bel9)
    have Ovg := Lib.hid (own_later Ovg.out bel9)
    clear bel9
    go_wp2_with fail
    refine (markIntS_any _ _ (szR l0) (szR l0).length w9 1 (by omega) (by omega) rfl (by omega) Ovg.out).mono ?_
    rintro e w10 ⟨rfl, ownvg, gr10⟩
    have b10 : Below W.heap.size W w10 := b9.grown gr10 b9.size (fun k hk => Nat.le_trans Hvg (Ovg.out.lt k hk).1)
    have Ovw := Lib.hid (Ovw.out.kept gr10 Avwvg.out)
    have Ovg := Lib.hid ownvg
    clear ownvg gr10
    have hmm : ((1 + ((szR l0).length : Int)) != (1 + ((szR l0).length : Int))) = false := by simp
    go_wp2_with fail
    refine (heldIntS_any _ _ (szR l0) (szR l0).length w10 1 (by omega) (by omega) rfl (by omega) Ovg.out).mono ?_
    rintro e w' ⟨rfl, rfl⟩
    have OOvw := Ovw
    have OOvg := Ovg
    go_wp2_with fail
    refine (toIntS_any o0 c0 l0 n0 w10 Hn0 hs0 (Hc0.out.kept b10)).mono ?_
    rintro e w11 ⟨capu0, rfl, ownu0, bel11⟩
    have b11 : Below W.heap.size W w11 := b10.trans (bel11.mono b10.size)
    have Ovw := Lib.hid (own_later Ovw.out bel11)
    have Ovg := Lib.hid (own_later Ovg.out bel11)
    clear bel11
    have Hu0 : W.heap.size ≤ w10.heap.size := b10.size
    have Ou0 := Lib.hid ownu0
    clear ownu0
    have Avwu0 := Lib.hid (apart_of OOvw.out Ou0.out)
    have Au0vw := Lib.hid (apart_of' OOvw.out Ou0.out)
    have Avgu0 := Lib.hid (apart_of OOvg.out Ou0.out)
    have Au0vg := Lib.hid (apart_of' OOvg.out Ou0.out)
    have OOvw := Ovw
    have OOvg := Ovg
    have OOu0 := Ou0
    go_wp2_with fail
    refine (implSz_any w11 _ capu0 l0 n0 Hn0 hs0 (nums_at Ou0.out Hn0.out)).mono ?_
    rintro e w12 ⟨vh, rfl, ownvh, bel12⟩
    have b12 : Below W.heap.size W w12 := b11.trans (bel12.mono b11.size)
    have Ovw := Lib.hid (own_later Ovw.out bel12)
    have Ovg := Lib.hid (own_later Ovg.out bel12)
    have Ou0 := Lib.hid (own_later Ou0.out bel12)
    clear bel12
    have Hvh : W.heap.size ≤ w11.heap.size := b11.size
    have Ovh := Lib.hid ownvh
    clear ownvh
    have Avwvh := Lib.hid (apart_of OOvw.out Ovh.out)
    have Avhvw := Lib.hid (apart_of' OOvw.out Ovh.out)
    have Avgvh := Lib.hid (apart_of OOvg.out Ovh.out)
    have Avhvg := Lib.hid (apart_of' OOvg.out Ovh.out)
    have Au0vh := Lib.hid (apart_of OOu0.out Ovh.out)
    have Avhu0 := Lib.hid (apart_of' OOu0.out Ovh.out)
    go_wp2_with fail
    refine (eqIntS_own _ _ (szR l0) (szR l0).length (szR l0).length w12 rfl rfl (by omega) Ovh.out Ovw.out).mono ?_
    rintro e w13 ⟨rfl, bel13⟩
    have b13 : Below W.heap.size W w13 := b12.trans (bel13.mono b12.size)
    have Ovw := Lib.hid (own_later Ovw.out bel13)
    have Ovg := Lib.hid (own_later Ovg.out bel13)
    have Ovh := Lib.hid (own_later Ovh.out bel13)
    clear bel13
    go_wp2_with fail
    refine (heldIntS_any _ _ (szR l0) (szR l0).length w13 1 (by omega) (by omega) rfl (by omega) Ovg.out).mono ?_
    rintro e w' ⟨rfl, rfl⟩
    go_wp2_with fail
    go_ret
    exact ⟨rfl, b13⟩
  · go_enter Try.func5, Try.ntmps5
    go_wp2_with fail
    go_ret
    exact ⟨rfl, Below.refl _ _⟩

end Go.Proofs.Ytoaobdeigangfaa
