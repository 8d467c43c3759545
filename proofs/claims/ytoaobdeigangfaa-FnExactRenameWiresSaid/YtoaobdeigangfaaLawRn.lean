/- The walk of the law FnExactRenameWires: it answers true and turns nothing that was there. -/
import Derived.Test.YtoaobdeigangfaaRn
import Derived.Test.YtoaobdeigangfaaOpen
namespace Go.Proofs.Ytoaobdeigangfaa
open Go.ChangeShapes Go.WideShapes Go.ChangeAt Go.RowKit
set_option linter.unusedVariables false

set_option maxRecDepth 20000 in
theorem walkRn (W : World) (o0 : Option Addr) (n0 c0 : Nat) (l0 : List (Int)) (q0n : n0 = l0.length) (q0m : n0 ≤ 9223372036854775807) (q0c : NumsAt W o0 l0) (o1 : Option Addr) (n1 c1 : Nat) (l1 : List (Int)) (q1n : n1 = l1.length) (q1m : n1 ≤ 9223372036854775807) (q1c : NumsAt W o1 l1) :
    Calls Try.prog 10 #[.slice o0 n0 c0, .slice o1 n1 c1] W fun e w' => e = .returned (.bool true) ∧ Below W.heap.size W w' := by
  have Hn0 := Lib.hid q0n
  have Hc0 := Lib.hid q0c
  clear q0n q0c
  have Hn1 := Lib.hid q1n
  have Hc1 := Lib.hid q1c
  clear q1n q1c
  by_cases hs0 : n0 ≤ 1048576
  · by_cases hs1 : n1 ≤ 1048576
    · go_enter Try.func10, Try.ntmps10
      go_wp2_with fail
      refine (toIntS_any o0 c0 l0 n0 W Hn0 hs0 Hc0).mono ?_
      rintro e w1 ⟨capy0, rfl, owny0, bel1⟩
      have b1 : Below W.heap.size W w1 := bel1
      clear bel1
      have Hy0 : W.heap.size ≤ W.heap.size := Nat.le_refl _
      have Oy0 := Lib.hid owny0
      clear owny0
      have OOy0 := Oy0
      go_wp2_with fail
      refine (toIntS_any o1 c1 l1 n1 w1 Hn1 hs1 (Hc1.out.kept b1)).mono ?_
      rintro e w2 ⟨capy1, rfl, owny1, bel2⟩
      have b2 : Below W.heap.size W w2 := b1.trans (bel2.mono b1.size)
      have Oy0 := Lib.hid (own_later Oy0.out bel2)
      clear bel2
      have Hy1 : W.heap.size ≤ w1.heap.size := b1.size
      have Oy1 := Lib.hid owny1
      clear owny1
      have Ay0y1 := Lib.hid (apart_of OOy0.out Oy1.out)
      have Ay1y0 := Lib.hid (apart_of' OOy0.out Oy1.out)
      have OOy0 := Oy0
      have OOy1 := Oy1
      go_wp2_with fail
      refine (specRn_any w2 _ capy0 l0 n0 Hn0 hs0 (nums_at Oy0.out Hn0.out) (own_cap Oy0.out) _ capy1 l1 n1 Hn1 hs1 (nums_at Oy1.out Hn1.out) (own_cap Oy1.out)).mono ?_
      rintro e w3 ⟨vw, rfl, ownvw, bel3⟩
      have b3 : Below W.heap.size W w3 := b2.trans (bel3.mono b2.size)
      have Oy0 := Lib.hid (own_later Oy0.out bel3)
      have Oy1 := Lib.hid (own_later Oy1.out bel3)
      clear bel3
      have Hvw : W.heap.size ≤ w2.heap.size := b2.size
      have Ovw := Lib.hid ownvw
      clear ownvw
      have Ay0vw := Lib.hid (apart_of OOy0.out Ovw.out)
      have Avwy0 := Lib.hid (apart_of' OOy0.out Ovw.out)
      have Ay1vw := Lib.hid (apart_of OOy1.out Ovw.out)
      have Avwy1 := Lib.hid (apart_of' OOy1.out Ovw.out)
      have OOvw := Ovw
      go_wp2_with fail
      refine (toIntS_any o0 c0 l0 n0 w3 Hn0 hs0 (Hc0.out.kept b3)).mono ?_
      rintro e w4 ⟨capx0, rfl, ownx0, bel4⟩
      have b4 : Below W.heap.size W w4 := b3.trans (bel4.mono b3.size)
      have Ovw := Lib.hid (own_later Ovw.out bel4)
      clear bel4
      have Hx0 : W.heap.size ≤ w3.heap.size := b3.size
      have Ox0 := Lib.hid ownx0
      clear ownx0
      have Avwx0 := Lib.hid (apart_of OOvw.out Ox0.out)
      have Ax0vw := Lib.hid (apart_of' OOvw.out Ox0.out)
      have OOvw := Ovw
      have OOx0 := Ox0
      go_wp2_with fail
      refine (toIntS_any o1 c1 l1 n1 w4 Hn1 hs1 (Hc1.out.kept b4)).mono ?_
      rintro e w5 ⟨capx1, rfl, ownx1, bel5⟩
      have b5 : Below W.heap.size W w5 := b4.trans (bel5.mono b4.size)
      have Ovw := Lib.hid (own_later Ovw.out bel5)
      have Ox0 := Lib.hid (own_later Ox0.out bel5)
      clear bel5
      have Hx1 : W.heap.size ≤ w4.heap.size := b4.size
      have Ox1 := Lib.hid ownx1
      clear ownx1
      have Avwx1 := Lib.hid (apart_of OOvw.out Ox1.out)
      have Ax1vw := Lib.hid (apart_of' OOvw.out Ox1.out)
      have Ax0x1 := Lib.hid (apart_of OOx0.out Ox1.out)
      have Ax1x0 := Lib.hid (apart_of' OOx0.out Ox1.out)
      have hok : ((rnB l0 l1) != (rnB l0 l1)) = false := by simp
      have OOvw := Ovw
      have OOx0 := Ox0
      have OOx1 := Ox1
      go_wp2_with fail
      refine (implRn_any w5 _ capx0 l0 n0 Hn0 hs0 (nums_at Ox0.out Hn0.out) (own_cap Ox0.out) _ capx1 l1 n1 Hn1 hs1 (nums_at Ox1.out Hn1.out) (own_cap Ox1.out)).mono ?_
      rintro e w6 ⟨vg, rfl, ownvg, bel6⟩
      have b6 : Below W.heap.size W w6 := b5.trans (bel6.mono b5.size)
      have Ovw := Lib.hid (own_later Ovw.out bel6)
      have Ox0 := Lib.hid (own_later Ox0.out bel6)
      have Ox1 := Lib.hid (own_later Ox1.out bel6)
      clear bel6
      have Hvg : W.heap.size ≤ w5.heap.size := b5.size
      have Ovg := Lib.hid ownvg
      clear ownvg
      have Avwvg := Lib.hid (apart_of OOvw.out Ovg.out)
      have Avgvw := Lib.hid (apart_of' OOvw.out Ovg.out)
      have Ax0vg := Lib.hid (apart_of OOx0.out Ovg.out)
      have Avgx0 := Lib.hid (apart_of' OOx0.out Ovg.out)
      have Ax1vg := Lib.hid (apart_of OOx1.out Ovg.out)
      have Avgx1 := Lib.hid (apart_of' OOx1.out Ovg.out)
      have hlen := rnR_length l0 l1
      go_wp2_with fail
      refine (eqIntS_own _ _ (rnR l0 l1) (rnR l0 l1).length (rnR l0 l1).length w6 rfl rfl (by omega) Ovg.out Ovw.out).mono ?_
      rintro e w7 ⟨rfl, bel7⟩
      have b7 : Below W.heap.size W w7 := b6.trans (bel7.mono b6.size)
      have Ovw := Lib.hid (own_later Ovw.out bel7)
      have Ox0 := Lib.hid (own_later Ox0.out bel7)
      have Ox1 := Lib.hid (own_later Ox1.out bel7)
      have Ovg := Lib.hid (own_later Ovg.out bel7)
      clear bel7
      have OOvw := Ovw
      have OOx0 := Ox0
      have OOx1 := Ox1
      have OOvg := Ovg
      go_wp2_with fail
      refine (toIntS_any o0 c0 l0 n0 w7 Hn0 hs0 (Hc0.out.kept b7)).mono ?_
      rintro e w8 ⟨capz0, rfl, ownz0, bel8⟩
      have b8 : Below W.heap.size W w8 := b7.trans (bel8.mono b7.size)
      have Ovw := Lib.hid (own_later Ovw.out bel8)
      have Ox0 := Lib.hid (own_later Ox0.out bel8)
      have Ox1 := Lib.hid (own_later Ox1.out bel8)
      have Ovg := Lib.hid (own_later Ovg.out bel8)
      clear bel8
      have Hz0 : W.heap.size ≤ w7.heap.size := b7.size
      have Oz0 := Lib.hid ownz0
      clear ownz0
      have Avwz0 := Lib.hid (apart_of OOvw.out Oz0.out)
      have Az0vw := Lib.hid (apart_of' OOvw.out Oz0.out)
      have Ax0z0 := Lib.hid (apart_of OOx0.out Oz0.out)
      have Az0x0 := Lib.hid (apart_of' OOx0.out Oz0.out)
      have Ax1z0 := Lib.hid (apart_of OOx1.out Oz0.out)
      have Az0x1 := Lib.hid (apart_of' OOx1.out Oz0.out)
      have Avgz0 := Lib.hid (apart_of OOvg.out Oz0.out)
      have Az0vg := Lib.hid (apart_of' OOvg.out Oz0.out)
      go_wp2_with fail
      refine (eqIntS_own _ _ l0 n0 n0 w8 Hn0.out Hn0.out (by omega) Ox0.out Oz0.out).mono ?_
      rintro e w9 ⟨rfl, bel9⟩
      have b9 : Below W.heap.size W w9 := b8.trans (bel9.mono b8.size)
      have Ovw := Lib.hid (own_later Ovw.out bel9)
      have Ox0 := Lib.hid (own_later Ox0.out bel9)
      have Ox1 := Lib.hid (own_later Ox1.out bel9)
      have Ovg := Lib.hid (own_later Ovg.out bel9)
      have Oz0 := Lib.hid (own_later Oz0.out bel9)
      clear bel9
      have OOvw := Ovw
      have OOx0 := Ox0
      have OOx1 := Ox1
      have OOvg := Ovg
      go_wp2_with fail
      refine (toIntS_any o1 c1 l1 n1 w9 Hn1 hs1 (Hc1.out.kept b9)).mono ?_
      rintro e w10 ⟨capz1, rfl, ownz1, bel10⟩
      have b10 : Below W.heap.size W w10 := b9.trans (bel10.mono b9.size)
      have Ovw := Lib.hid (own_later Ovw.out bel10)
      have Ox0 := Lib.hid (own_later Ox0.out bel10)
      have Ox1 := Lib.hid (own_later Ox1.out bel10)
      have Ovg := Lib.hid (own_later Ovg.out bel10)
      clear bel10
      have Hz1 : W.heap.size ≤ w9.heap.size := b9.size
      have Oz1 := Lib.hid ownz1
      clear ownz1
      have Avwz1 := Lib.hid (apart_of OOvw.out Oz1.out)
      have Az1vw := Lib.hid (apart_of' OOvw.out Oz1.out)
      have Ax0z1 := Lib.hid (apart_of OOx0.out Oz1.out)
      have Az1x0 := Lib.hid (apart_of' OOx0.out Oz1.out)
      have Ax1z1 := Lib.hid (apart_of OOx1.out Oz1.out)
      have Az1x1 := Lib.hid (apart_of' OOx1.out Oz1.out)
      have Avgz1 := Lib.hid (apart_of OOvg.out Oz1.out)
      have Az1vg := Lib.hid (apart_of' OOvg.out Oz1.out)
      go_wp2_with fail
      refine (eqIntS_own _ _ l1 n1 n1 w10 Hn1.out Hn1.out (by omega) Ox1.out Oz1.out).mono ?_
      rintro e w11 ⟨rfl, bel11⟩
      have b11 : Below W.heap.size W w11 := b10.trans (bel11.mono b10.size)
      have Ovw := Lib.hid (own_later Ovw.out bel11)
      have Ox0 := Lib.hid (own_later Ox0.out bel11)
      have Ox1 := Lib.hid (own_later Ox1.out bel11)
      have Ovg := Lib.hid (own_later Ovg.out bel11)
      have Oz1 := Lib.hid (own_later Oz1.out bel11)
      clear bel11
      go_wp2_with fail
      refine (markIntS_any _ _ l0 n0 w11 (1) (by omega) (by omega) Hn0.out (by omega) Ox0.out).mono ?_
      rintro e w12 ⟨rfl, ownx0, gr12⟩
      have b12 : Below W.heap.size W w12 := b11.grown gr12 b11.size (fun k hk => Nat.le_trans Hx0 (Ox0.out.lt k hk).1)
      have Ovw := Lib.hid (Ovw.out.kept gr12 Avwx0.out)
      have Ox1 := Lib.hid (Ox1.out.kept gr12 Ax1x0.out)
      have Ovg := Lib.hid (Ovg.out.kept gr12 Avgx0.out)
      have Ox0 := Lib.hid ownx0
      clear ownx0 gr12
      go_wp2_with fail
      refine (markIntS_any _ _ l1 n1 w12 (1 + (n0 : Int)) (by omega) (by omega) Hn1.out (by omega) Ox1.out).mono ?_
      rintro e w13 ⟨rfl, ownx1, gr13⟩
      have b13 : Below W.heap.size W w13 := b12.grown gr13 b12.size (fun k hk => Nat.le_trans Hx1 (Ox1.out.lt k hk).1)
      have Ovw := Lib.hid (Ovw.out.kept gr13 Avwx1.out)
      have Ox0 := Lib.hid (Ox0.out.kept gr13 Ax0x1.out)
      have Ovg := Lib.hid (Ovg.out.kept gr13 Avgx1.out)
      have Ox1 := Lib.hid ownx1
      clear ownx1 gr13
      go_wp2_with fail
      refine (eqIntS_own _ _ (rnR l0 l1) (rnR l0 l1).length (rnR l0 l1).length w13 rfl rfl (by omega) Ovg.out Ovw.out).mono ?_
      rintro e w14 ⟨rfl, bel14⟩
      have b14 : Below W.heap.size W w14 := b13.trans (bel14.mono b13.size)
      have Ovw := Lib.hid (own_later Ovw.out bel14)
      have Ox0 := Lib.hid (own_later Ox0.out bel14)
      have Ox1 := Lib.hid (own_later Ox1.out bel14)
      have Ovg := Lib.hid (own_later Ovg.out bel14)
      clear bel14
      go_wp2_with fail
      refine (markIntS_any _ _ (rnR l0 l1) (rnR l0 l1).length w14 1 (by omega) (by omega) rfl (by omega) Ovg.out).mono ?_
      rintro e w15 ⟨rfl, ownvg, gr15⟩
      have b15 : Below W.heap.size W w15 := b14.grown gr15 b14.size (fun k hk => Nat.le_trans Hvg (Ovg.out.lt k hk).1)
      have Ovw := Lib.hid (Ovw.out.kept gr15 Avwvg.out)
      have Ovg := Lib.hid ownvg
      clear ownvg gr15
      have hmm : ((1 + ((rnR l0 l1).length : Int)) != (1 + ((rnR l0 l1).length : Int))) = false := by simp
      go_wp2_with fail
      refine (heldIntS_any _ _ (rnR l0 l1) (rnR l0 l1).length w15 1 (by omega) (by omega) rfl (by omega) Ovg.out).mono ?_
      rintro e w' ⟨rfl, rfl⟩
      have OOvw := Ovw
      have OOvg := Ovg
      go_wp2_with fail
      refine (toIntS_any o0 c0 l0 n0 w15 Hn0 hs0 (Hc0.out.kept b15)).mono ?_
      rintro e w16 ⟨capu0, rfl, ownu0, bel16⟩
      have b16 : Below W.heap.size W w16 := b15.trans (bel16.mono b15.size)
      have Ovw := Lib.hid (own_later Ovw.out bel16)
      have Ovg := Lib.hid (own_later Ovg.out bel16)
      clear bel16
      have Hu0 : W.heap.size ≤ w15.heap.size := b15.size
      have Ou0 := Lib.hid ownu0
      clear ownu0
      have Avwu0 := Lib.hid (apart_of OOvw.out Ou0.out)
      have Au0vw := Lib.hid (apart_of' OOvw.out Ou0.out)
      have Avgu0 := Lib.hid (apart_of OOvg.out Ou0.out)
      have Au0vg := Lib.hid (apart_of' OOvg.out Ou0.out)
      have OOvw := Ovw
      have OOvg := Ovg
      have OOu0 := Ou0
      go_wp2_with fail
      refine (toIntS_any o1 c1 l1 n1 w16 Hn1 hs1 (Hc1.out.kept b16)).mono ?_
      rintro e w17 ⟨capu1, rfl, ownu1, bel17⟩
      have b17 : Below W.heap.size W w17 := b16.trans (bel17.mono b16.size)
      have Ovw := Lib.hid (own_later Ovw.out bel17)
      have Ovg := Lib.hid (own_later Ovg.out bel17)
      have Ou0 := Lib.hid (own_later Ou0.out bel17)
      clear bel17
      have Hu1 : W.heap.size ≤ w16.heap.size := b16.size
      have Ou1 := Lib.hid ownu1
      clear ownu1
      have Avwu1 := Lib.hid (apart_of OOvw.out Ou1.out)
      have Au1vw := Lib.hid (apart_of' OOvw.out Ou1.out)
      have Avgu1 := Lib.hid (apart_of OOvg.out Ou1.out)
      have Au1vg := Lib.hid (apart_of' OOvg.out Ou1.out)
      have Au0u1 := Lib.hid (apart_of OOu0.out Ou1.out)
      have Au1u0 := Lib.hid (apart_of' OOu0.out Ou1.out)
      have OOvw := Ovw
      have OOvg := Ovg
      have OOu0 := Ou0
      have OOu1 := Ou1
      go_wp2_with fail
      refine (implRn_any w17 _ capu0 l0 n0 Hn0 hs0 (nums_at Ou0.out Hn0.out) (own_cap Ou0.out) _ capu1 l1 n1 Hn1 hs1 (nums_at Ou1.out Hn1.out) (own_cap Ou1.out)).mono ?_
      rintro e w18 ⟨vh, rfl, ownvh, bel18⟩
      have b18 : Below W.heap.size W w18 := b17.trans (bel18.mono b17.size)
      have Ovw := Lib.hid (own_later Ovw.out bel18)
      have Ovg := Lib.hid (own_later Ovg.out bel18)
      have Ou0 := Lib.hid (own_later Ou0.out bel18)
      have Ou1 := Lib.hid (own_later Ou1.out bel18)
      clear bel18
      have Hvh : W.heap.size ≤ w17.heap.size := b17.size
      have Ovh := Lib.hid ownvh
      clear ownvh
      have Avwvh := Lib.hid (apart_of OOvw.out Ovh.out)
      have Avhvw := Lib.hid (apart_of' OOvw.out Ovh.out)
      have Avgvh := Lib.hid (apart_of OOvg.out Ovh.out)
      have Avhvg := Lib.hid (apart_of' OOvg.out Ovh.out)
      have Au0vh := Lib.hid (apart_of OOu0.out Ovh.out)
      have Avhu0 := Lib.hid (apart_of' OOu0.out Ovh.out)
      have Au1vh := Lib.hid (apart_of OOu1.out Ovh.out)
      have Avhu1 := Lib.hid (apart_of' OOu1.out Ovh.out)
      go_wp2_with fail
      refine (eqIntS_own _ _ (rnR l0 l1) (rnR l0 l1).length (rnR l0 l1).length w18 rfl rfl (by omega) Ovh.out Ovw.out).mono ?_
      rintro e w19 ⟨rfl, bel19⟩
      have b19 : Below W.heap.size W w19 := b18.trans (bel19.mono b18.size)
      have Ovw := Lib.hid (own_later Ovw.out bel19)
      have Ovg := Lib.hid (own_later Ovg.out bel19)
      have Ovh := Lib.hid (own_later Ovh.out bel19)
      clear bel19
      go_wp2_with fail
      refine (heldIntS_any _ _ (rnR l0 l1) (rnR l0 l1).length w19 1 (by omega) (by omega) rfl (by omega) Ovg.out).mono ?_
      rintro e w' ⟨rfl, rfl⟩
      go_wp2_with fail
      go_ret
      exact ⟨rfl, b19⟩
    · go_enter Try.func10, Try.ntmps10
      go_wp2_with fail
      go_ret
      exact ⟨rfl, Below.refl _ _⟩
  · go_enter Try.func10, Try.ntmps10
    go_wp2_with fail
    go_ret
    exact ⟨rfl, Below.refl _ _⟩

end Go.Proofs.Ytoaobdeigangfaa
