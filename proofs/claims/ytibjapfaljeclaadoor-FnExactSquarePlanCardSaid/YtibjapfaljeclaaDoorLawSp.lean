/- The walk of the law FnExactSquarePlan: it answers true and turns nothing that was there. -/
import Derived.Test.YtibjapfaljeclaaDoorSpS
import Derived.Test.YtibjapfaljeclaaDoorSpI
import Derived.Test.YtibjapfaljeclaaDoorOpen
namespace Go.Proofs.YtibjapfaljeclaaDoor
open Go.ChangeShapes Go.WideShapes Go.ChangeAt Go.RowKit
set_option linter.unusedVariables false

set_option maxRecDepth 20000 in
theorem walkSp (W : World) (HTab : Hid (TabHere W)) (a0 : Int) (_w0 : (Lit.int .i64 a0).wf = true) (o1 : Option Addr) (n1 c1 : Nat) (l1 : List (Int × Int)) (q1n : n1 = l1.length) (q1m : n1 ≤ 9223372036854775807) (q1c : CallsAt W o1 l1) :
    Calls Tryd.prog 4 #[.int .i64 a0, .slice o1 n1 c1] W fun e w' => e = .returned (.bool true) ∧ Below W.heap.size W w' := by
  have Hn1 := Lib.hid q1n
  have Hc1 := Lib.hid q1c
  clear q1n q1c
  by_cases hs1 : n1 ≤ 1048576
  · go_enter Tryd.func4, Tryd.ntmps4
    go_wp2_with fail
    refine (szCallS_small o1 n1 c1 W hs1).mono ?_
    rintro e w' ⟨rfl, rfl⟩
    go_wp2_with fail
    refine (toCallS_any o1 c1 l1 n1 W Hn1 hs1 Hc1).mono ?_
    rintro e w1 ⟨capy1, rfl, owny1, bel1⟩
    have b1 : Below W.heap.size W w1 := bel1
    clear bel1
    have Hy1 : W.heap.size ≤ W.heap.size := Nat.le_refl _
    have Oy1 := Lib.hid owny1
    clear owny1
    have OOy1 := Oy1
    go_wp2_with fail
    refine (specSp_any w1 a0 _ capy1 l1 n1 Hn1 hs1 (own_at Oy1.out Hn1.out)).mono ?_
    rintro e w2 ⟨vw, rfl, ownvw, bel2⟩
    have b2 : Below W.heap.size W w2 := b1.trans (bel2.mono b1.size)
    have Oy1 := Lib.hid (own_later Oy1.out bel2)
    clear bel2
    have Hvw : W.heap.size ≤ w1.heap.size := b1.size
    have Ovw := Lib.hid ownvw
    clear ownvw
    have Ay1vw := Lib.hid (apart_of OOy1.out Ovw.out)
    have Avwy1 := Lib.hid (apart_of' OOy1.out Ovw.out)
    have OOvw := Ovw
    go_wp2_with fail
    refine (toCallS_any o1 c1 l1 n1 w2 Hn1 hs1 (Hc1.out.kept b2)).mono ?_
    rintro e w3 ⟨capx1, rfl, ownx1, bel3⟩
    have b3 : Below W.heap.size W w3 := b2.trans (bel3.mono b2.size)
    have Ovw := Lib.hid (own_later Ovw.out bel3)
    clear bel3
    have Hx1 : W.heap.size ≤ w2.heap.size := b2.size
    have Ox1 := Lib.hid ownx1
    clear ownx1
    have Avwx1 := Lib.hid (apart_of OOvw.out Ox1.out)
    have Ax1vw := Lib.hid (apart_of' OOvw.out Ox1.out)
    have hok : ((spB a0 l1) != (spB a0 l1)) = false := by simp
    have OOvw := Ovw
    have OOx1 := Ox1
    go_wp2_with fail
    refine (implSp_any w3 a0 _ capx1 l1 n1 Hn1 hs1 (own_at Ox1.out Hn1.out) (Lib.hid (HTab.out.kept b3))).mono ?_
    rintro e w4 ⟨vg, rfl, ownvg, bel4⟩
    have b4 : Below W.heap.size W w4 := b3.trans (bel4.mono b3.size)
    have Ovw := Lib.hid (own_later Ovw.out bel4)
    have Ox1 := Lib.hid (own_later Ox1.out bel4)
    clear bel4
    have Hvg : W.heap.size ≤ w3.heap.size := b3.size
    have Ovg := Lib.hid ownvg
    clear ownvg
    have Avwvg := Lib.hid (apart_of OOvw.out Ovg.out)
    have Avgvw := Lib.hid (apart_of' OOvw.out Ovg.out)
    have Ax1vg := Lib.hid (apart_of OOx1.out Ovg.out)
    have Avgx1 := Lib.hid (apart_of' OOx1.out Ovg.out)
    have hlen := spR_len a0 l1
    go_wp2_with fail
    refine (eqCallS_own _ _ (spR a0 l1) (spR a0 l1).length (spR a0 l1).length w4 rfl rfl (by omega) Ovg.out Ovw.out).mono ?_
    rintro e w5 ⟨rfl, bel5⟩
    have b5 : Below W.heap.size W w5 := b4.trans (bel5.mono b4.size)
    have Ovw := Lib.hid (own_later Ovw.out bel5)
    have Ox1 := Lib.hid (own_later Ox1.out bel5)
    have Ovg := Lib.hid (own_later Ovg.out bel5)
    clear bel5
    have OOvw := Ovw
    have OOx1 := Ox1
    have OOvg := Ovg
    go_wp2_with fail
    refine (toCallS_any o1 c1 l1 n1 w5 Hn1 hs1 (Hc1.out.kept b5)).mono ?_
    rintro e w6 ⟨capz1, rfl, ownz1, bel6⟩
    have b6 : Below W.heap.size W w6 := b5.trans (bel6.mono b5.size)
    have Ovw := Lib.hid (own_later Ovw.out bel6)
    have Ox1 := Lib.hid (own_later Ox1.out bel6)
    have Ovg := Lib.hid (own_later Ovg.out bel6)
    clear bel6
    have Hz1 : W.heap.size ≤ w5.heap.size := b5.size
    have Oz1 := Lib.hid ownz1
    clear ownz1
    have Avwz1 := Lib.hid (apart_of OOvw.out Oz1.out)
    have Az1vw := Lib.hid (apart_of' OOvw.out Oz1.out)
    have Ax1z1 := Lib.hid (apart_of OOx1.out Oz1.out)
    have Az1x1 := Lib.hid (apart_of' OOx1.out Oz1.out)
    have Avgz1 := Lib.hid (apart_of OOvg.out Oz1.out)
    have Az1vg := Lib.hid (apart_of' OOvg.out Oz1.out)
    go_wp2_with fail
    refine (eqCallS_own _ _ l1 n1 n1 w6 Hn1.out Hn1.out (by omega) Ox1.out Oz1.out).mono ?_
    rintro e w7 ⟨rfl, bel7⟩
    have b7 : Below W.heap.size W w7 := b6.trans (bel7.mono b6.size)
    have Ovw := Lib.hid (own_later Ovw.out bel7)
    have Ox1 := Lib.hid (own_later Ox1.out bel7)
    have Ovg := Lib.hid (own_later Ovg.out bel7)
    have Oz1 := Lib.hid (own_later Oz1.out bel7)
    clear bel7
    go_wp2_with fail
    refine (markCallS_any _ _ l1 n1 w7  Hn1.out (by omega) Ox1.out).mono ?_
    rintro e w8 ⟨rfl, ownx1, gr8⟩
    have b8 : Below W.heap.size W w8 := b7.grown gr8 b7.size (fun k hk => Nat.le_trans Hx1 (Ox1.out.lt k hk).1)
    have Ovw := Lib.hid (Ovw.out.kept gr8 Avwx1.out)
    have Ovg := Lib.hid (Ovg.out.kept gr8 Avgx1.out)
    have Ox1 := Lib.hid ownx1
    clear ownx1 gr8
    go_wp2_with fail
    refine (eqCallS_own _ _ (spR a0 l1) (spR a0 l1).length (spR a0 l1).length w8 rfl rfl (by omega) Ovg.out Ovw.out).mono ?_
    rintro e w9 ⟨rfl, bel9⟩
    have b9 : Below W.heap.size W w9 := b8.trans (bel9.mono b8.size)
    have Ovw := Lib.hid (own_later Ovw.out bel9)
    have Ox1 := Lib.hid (own_later Ox1.out bel9)
    have Ovg := Lib.hid (own_later Ovg.out bel9)
    clear bel9
    go_wp2_with fail
    refine (markCallS_any _ _ (spR a0 l1) (spR a0 l1).length w9 rfl (by omega) Ovg.out).mono ?_
    rintro e w10 ⟨rfl, ownvg, gr10⟩
    have b10 : Below W.heap.size W w10 := b9.grown gr10 b9.size (fun k hk => Nat.le_trans Hvg (Ovg.out.lt k hk).1)
    have Ovw := Lib.hid (Ovw.out.kept gr10 Avwvg.out)
    have Ovg := Lib.hid ownvg
    clear ownvg gr10
    have hmm : ((1 + 2 * ((spR a0 l1).length : Int)) != (1 + 2 * ((spR a0 l1).length : Int))) = false := by simp
    go_wp2_with fail
    refine (heldCallS_any _ _ (spR a0 l1) (spR a0 l1).length w10 rfl (by omega) Ovg.out).mono ?_
    rintro e w' ⟨rfl, rfl⟩
    have OOvw := Ovw
    have OOvg := Ovg
    go_wp2_with fail
    refine (toCallS_any o1 c1 l1 n1 w10 Hn1 hs1 (Hc1.out.kept b10)).mono ?_
    rintro e w11 ⟨capu1, rfl, ownu1, bel11⟩
    have b11 : Below W.heap.size W w11 := b10.trans (bel11.mono b10.size)
    have Ovw := Lib.hid (own_later Ovw.out bel11)
    have Ovg := Lib.hid (own_later Ovg.out bel11)
    clear bel11
    have Hu1 : W.heap.size ≤ w10.heap.size := b10.size
    have Ou1 := Lib.hid ownu1
    clear ownu1
    have Avwu1 := Lib.hid (apart_of OOvw.out Ou1.out)
    have Au1vw := Lib.hid (apart_of' OOvw.out Ou1.out)
    have Avgu1 := Lib.hid (apart_of OOvg.out Ou1.out)
    have Au1vg := Lib.hid (apart_of' OOvg.out Ou1.out)
    have OOvw := Ovw
    have OOvg := Ovg
    have OOu1 := Ou1
    go_wp2_with fail
    refine (implSp_any w11 a0 _ capu1 l1 n1 Hn1 hs1 (own_at Ou1.out Hn1.out) (Lib.hid (HTab.out.kept b11))).mono ?_
    rintro e w12 ⟨vh, rfl, ownvh, bel12⟩
    have b12 : Below W.heap.size W w12 := b11.trans (bel12.mono b11.size)
    have Ovw := Lib.hid (own_later Ovw.out bel12)
    have Ovg := Lib.hid (own_later Ovg.out bel12)
    have Ou1 := Lib.hid (own_later Ou1.out bel12)
    clear bel12
    have Hvh : W.heap.size ≤ w11.heap.size := b11.size
    have Ovh := Lib.hid ownvh
    clear ownvh
    have Avwvh := Lib.hid (apart_of OOvw.out Ovh.out)
    have Avhvw := Lib.hid (apart_of' OOvw.out Ovh.out)
    have Avgvh := Lib.hid (apart_of OOvg.out Ovh.out)
    have Avhvg := Lib.hid (apart_of' OOvg.out Ovh.out)
    have Au1vh := Lib.hid (apart_of OOu1.out Ovh.out)
    have Avhu1 := Lib.hid (apart_of' OOu1.out Ovh.out)
    go_wp2_with fail
    refine (eqCallS_own _ _ (spR a0 l1) (spR a0 l1).length (spR a0 l1).length w12 rfl rfl (by omega) Ovh.out Ovw.out).mono ?_
    rintro e w13 ⟨rfl, bel13⟩
    have b13 : Below W.heap.size W w13 := b12.trans (bel13.mono b12.size)
    have Ovw := Lib.hid (own_later Ovw.out bel13)
    have Ovg := Lib.hid (own_later Ovg.out bel13)
    have Ovh := Lib.hid (own_later Ovh.out bel13)
    clear bel13
    go_wp2_with fail
    refine (heldCallS_any _ _ (spR a0 l1) (spR a0 l1).length w13 rfl (by omega) Ovg.out).mono ?_
    rintro e w' ⟨rfl, rfl⟩
    go_wp2_with fail
    go_ret
    exact ⟨rfl, b13⟩
  · go_enter Tryd.func4, Tryd.ntmps4
    go_wp2_with fail
    refine (szCallS_great o1 n1 c1 W (by omega) q1m).mono ?_
    rintro e w' ⟨rfl, rfl⟩
    go_wp2_with fail
    go_ret
    exact ⟨rfl, Below.refl _ _⟩

end Go.Proofs.YtibjapfaljeclaaDoor
