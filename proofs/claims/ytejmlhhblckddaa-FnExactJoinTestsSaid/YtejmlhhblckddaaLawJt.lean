/- The walk of the law FnExactJoinTests. -/
import Derived.Test.YtejmlhhblckddaaLawAT
import Derived.Test.YtejmlhhblckddaaJtI
import Derived.Test.YtejmlhhblckddaaJtS
import Derived.Test.YtejmlhhblckddaaMarkUp
namespace Go.Proofs.Ytejmlhhblckddaa
open Go.ChangeShapes Go.WideShapes Go.ChangeAt Go.RowKit
set_option linter.unusedVariables false

set_option maxRecDepth 20000 in
theorem walkJt (W : World) (a0 : Int) (_w0 : (Lit.int .i64 a0).wf = true) (o1 : Option Addr) (n1 c1 : Nat) (l1 : List (List Int)) (q1n : n1 = l1.length) (q1m : n1 ≤ 9223372036854775807) (q1L : ∀ i, (row l1 i).length ≤ 9223372036854775807) (q1c : RowsAt W o1 l1) (o2 : Option Addr) (n2 c2 : Nat) (l2 : List (List Int)) (q2n : n2 = l2.length) (q2m : n2 ≤ 9223372036854775807) (q2L : ∀ i, (row l2 i).length ≤ 9223372036854775807) (q2c : RowsAt W o2 l2) :
    Calls Try.prog 10 #[.int .i64 a0, .slice o1 n1 c1, .slice o2 n2 c2] W fun e w' => e = .returned (.bool true) ∧ Below W.heap.size W w' := by
  have Hn1 := Lib.hid q1n
  have Hc1 := Lib.hid q1c
  have HL1 := Lib.hid q1L
  clear q1n q1c q1L
  have Hn2 := Lib.hid q2n
  have Hc2 := Lib.hid q2c
  have HL2 := Lib.hid q2L
  clear q2n q2c q2L
  have hRl := jtR_length a0 l1 l2
  have HRr := Lib.hid (jtR_row a0 l1 l2)
  have HRr2 : Hid (∀ i, i < (jtR a0 l1 l2).length → (row (jtR a0 l1 l2) i).length ≤ 1048576) := fun i _ => Nat.le_trans (HRr.out i) (by omega)
  have hok : ((jtB a0 l1 l2) != (jtB a0 l1 l2)) = false := by simp
  go_enter Try.func10, Try.ntmps10
  go_wp2_with fail
  refine (szIntSS_any o1 c1 l1 n1 (1048576) W (by omega) (by omega) Hn1.out q1m HL1.out Hc1.out).mono ?_
  rintro e w' ⟨r1, rfl, rfl, hr1⟩
  by_cases hr1n : r1 < 0
  · have hd : decide (r1 < 0) = true := by simpa using hr1n
    clear hr1
    go_wp2_with fail
    go_ret
    exact ⟨rfl, Below.refl _ _⟩
  have hq1 := hr1 (by omega)
  have hd1 : decide (r1 < 0) = false := by simpa using hr1n
  have hs1 : n1 ≤ 1048576 := by omega
  have hct1 : ctot l1 l1.length ≤ 1048576 := by rw [← Hn1.out]; omega
  have HS1 : Hid (∀ i, (row l1 i).length ≤ 1048576) := fun i => Nat.le_trans (row_le_ctot l1 i) hct1
  have hr10 : 0 ≤ r1 := by omega
  clear hr1 hr1n
  have hr11 : r1 ≤ 1048576 := by omega
  go_wp2_with fail
  refine (szIntSS_any o2 c2 l2 n2 (r1) W (by omega) (by omega) Hn2.out q2m HL2.out Hc2.out).mono ?_
  rintro e w' ⟨r2, rfl, rfl, hr2⟩
  by_cases hr2n : r2 < 0
  · have hd : decide (r2 < 0) = true := by simpa using hr2n
    clear hr2
    go_wp2_with fail
    go_ret
    exact ⟨rfl, Below.refl _ _⟩
  have hq2 := hr2 (by omega)
  have hd2 : decide (r2 < 0) = false := by simpa using hr2n
  have hs2 : n2 ≤ 1048576 := by omega
  have hct2 : ctot l2 l2.length ≤ 1048576 := by rw [← Hn2.out]; omega
  have HS2 : Hid (∀ i, (row l2 i).length ≤ 1048576) := fun i => Nat.le_trans (row_le_ctot l2 i) hct2
  have hr20 : 0 ≤ r2 := by omega
  clear hr2 hr2n
  have hr21 : r2 ≤ 1048576 := by omega
  go_wp2_with fail
  refine (toIntSS_any o1 c1 l1 n1 W Hn1 hs1 HS1 Hc1).mono ?_
  rintro e w1 ⟨capy1, Xy1, rfl, owny1, bel1⟩
  have s1 := bel1.size
  have b1 : Below W.heap.size W w1 := bel1
  have Oy1 := Lib.hid owny1
  clear owny1 bel1
  go_wp2_with fail
  refine (toIntSS_any o2 c2 l2 n2 w1 Hn2 hs2 HS2 (Hc2.out.kept b1)).mono ?_
  rintro e w2 ⟨capy2, Xy2, rfl, owny2, bel2⟩
  have s2 := bel2.size
  have b2 : Below W.heap.size W w2 := b1.trans (bel2.mono b1.size)
  have Oy1 := Lib.hid (Oy1.out.later bel2)
  have Oy2 := Lib.hid owny2
  clear owny2 bel2
  go_wp2_with fail
  refine (specJt_any w2 a0 _ capy1 l1 n1 Hn1 hs1 HS1 (rows_own Oy1.out) _ capy2 l2 n2 Hn2 hs2 HS2 (rows_own Oy2.out)).mono ?_
  rintro e w3 ⟨vw, Xvw, rfl, ownvw, bel3⟩
  have s3 := bel3.size
  have b3 : Below W.heap.size W w3 := b2.trans (bel3.mono b2.size)
  have Oy1 := Lib.hid (Oy1.out.later bel3)
  have Oy2 := Lib.hid (Oy2.out.later bel3)
  have Ovw := Lib.hid ownvw
  clear ownvw
  clear bel3
  clear Oy1 Oy2
  have hW2 := b3.size
  have OW := Ovw
  go_wp2_with fail
  refine (toIntSS_any o1 c1 l1 n1 w3 Hn1 hs1 HS1 (Hc1.out.kept b3)).mono ?_
  rintro e w4 ⟨capx1, Xx1, rfl, ownx1, bel4⟩
  have s4 := bel4.size
  have d4 : Below w3.heap.size w3 w4 := bel4
  have Ox1 := Lib.hid ownx1
  clear ownx1 bel4
  have OX1 := Ox1
  go_wp2_with fail
  refine (toIntSS_any o2 c2 l2 n2 w4 Hn2 hs2 HS2 (Hc2.out.kept (b3.trans (d4.mono hW2)))).mono ?_
  rintro e w5 ⟨capx2, Xx2, rfl, ownx2, bel5⟩
  have s5 := bel5.size
  have d5 : Below w3.heap.size w3 w5 := d4.trans (bel5.mono d4.size)
  have Ox1 := Lib.hid (Ox1.out.later bel5)
  have Ox2 := Lib.hid ownx2
  clear ownx2 bel5
  have OX2 := Ox2
  go_wp2_with fail
  refine (implJt_any w5 a0 _ capx1 l1 n1 Hn1 hs1 HS1 (rows_own2 Ox1.out) _ capx2 l2 n2 Hn2 hs2 HS2 (rows_own2 Ox2.out)).mono ?_
  rintro e w6 ⟨vg, Xvg, rfl, ownvg, bel6⟩
  have s6 := bel6.size
  have d6 : Below w3.heap.size w3 w6 := d5.trans (bel6.mono d5.size)
  have Ox1 := Lib.hid (Ox1.out.later bel6)
  have Ox2 := Lib.hid (Ox2.out.later bel6)
  have Ovg := Lib.hid ownvg
  clear ownvg
  clear bel6
  have Ovw := Lib.hid (OW.out.later d6)
  go_wp2_with fail
  refine (eqIntSS_own vg vw Xvg Xvw (jtR a0 l1 l2) w6 (by omega) HRr2.out Ovg.out Ovw.out).mono ?_
  rintro e w7 ⟨rfl, bel7⟩
  have s7 := bel7.size
  have d7 : Below w3.heap.size w3 w7 := d6.trans (bel7.mono d6.size)
  have Ox1 := Lib.hid (Ox1.out.later bel7)
  have Ox2 := Lib.hid (Ox2.out.later bel7)
  have Ovg := Lib.hid (Ovg.out.later bel7)
  clear bel7
  go_wp2_with fail
  refine (toIntSS_any o1 c1 l1 n1 w7 Hn1 hs1 HS1 (Hc1.out.kept (b3.trans (d7.mono hW2)))).mono ?_
  rintro e w8 ⟨capz1, Xz1, rfl, ownz1, bel8⟩
  have s8 := bel8.size
  have d8 : Below w3.heap.size w3 w8 := d7.trans (bel8.mono d7.size)
  have Ox1 := Lib.hid (Ox1.out.later bel8)
  have Ox2 := Lib.hid (Ox2.out.later bel8)
  have Ovg := Lib.hid (Ovg.out.later bel8)
  have Oz1 := Lib.hid ownz1
  clear ownz1 bel8
  go_wp2_with fail
  refine (eqIntSS_own _ _ Xx1 Xz1 l1 w8 (by rw [← Hn1.out]; exact hs1) (fun i _ => HS1.out i) Ox1.out Oz1.out).mono ?_
  rintro e w9 ⟨rfl, bel9⟩
  have s9 := bel9.size
  have d9 : Below w3.heap.size w3 w9 := d8.trans (bel9.mono d8.size)
  have Ox1 := Lib.hid (Ox1.out.later bel9)
  have Ox2 := Lib.hid (Ox2.out.later bel9)
  have Ovg := Lib.hid (Ovg.out.later bel9)
  clear bel9 Oz1
  go_wp2_with fail
  refine (toIntSS_any o2 c2 l2 n2 w9 Hn2 hs2 HS2 (Hc2.out.kept (b3.trans (d9.mono hW2)))).mono ?_
  rintro e w10 ⟨capz2, Xz2, rfl, ownz2, bel10⟩
  have s10 := bel10.size
  have d10 : Below w3.heap.size w3 w10 := d9.trans (bel10.mono d9.size)
  have Ox1 := Lib.hid (Ox1.out.later bel10)
  have Ox2 := Lib.hid (Ox2.out.later bel10)
  have Ovg := Lib.hid (Ovg.out.later bel10)
  have Oz2 := Lib.hid ownz2
  clear ownz2 bel10
  go_wp2_with fail
  refine (eqIntSS_own _ _ Xx2 Xz2 l2 w10 (by rw [← Hn2.out]; exact hs2) (fun i _ => HS2.out i) Ox2.out Oz2.out).mono ?_
  rintro e w11 ⟨rfl, bel11⟩
  have s11 := bel11.size
  have d11 : Below w3.heap.size w3 w11 := d10.trans (bel11.mono d10.size)
  have Ox1 := Lib.hid (Ox1.out.later bel11)
  have Ox2 := Lib.hid (Ox2.out.later bel11)
  have Ovg := Lib.hid (Ovg.out.later bel11)
  clear bel11 Oz2
  go_wp2_with fail
  refine (markIntSSa_any w4.heap.size _ _ Xx1 (Lib.hid (OX1.out.lowB (Nat.le_refl _))) l1 (1) w11 (by omega) (by omega) (by rw [← Hn1.out]; exact hs1) hct1 Ox1.out).mono ?_
  rintro e w12 ⟨rfl, be12, ab12⟩
  have s12 := be12.size
  have d12 : Below w3.heap.size w3 w12 := d11.trans (be12.mono (by omega))
  have Ox2 := Lib.hid (Ox2.out.above ab12 (by omega))
  have Ovg := Lib.hid (Ovg.out.above ab12 (by omega))
  clear be12 ab12
  go_wp2_with fail
  refine (markIntSSa_any w5.heap.size _ _ Xx2 (Lib.hid (OX2.out.lowB (Nat.le_refl _))) l2 (1 + (ctot l1 l1.length : Int)) w12 (by omega) (by omega) (by rw [← Hn2.out]; exact hs2) hct2 Ox2.out).mono ?_
  rintro e w13 ⟨rfl, be13, ab13⟩
  have s13 := be13.size
  have d13 : Below w3.heap.size w3 w13 := d12.trans (be13.mono (by omega))
  have Ovg := Lib.hid (Ovg.out.above ab13 (by omega))
  clear be13 ab13
  have hk0 : decide (1 + (ctot l1 l1.length : Int) + (ctot l2 l2.length : Int) < 0) = false := by simp; omega
  have Ovw := Lib.hid (OW.out.later d13)
  go_wp2_with fail
  refine (eqIntSS_own vg vw Xvg Xvw (jtR a0 l1 l2) w13 (by omega) HRr2.out Ovg.out Ovw.out).mono ?_
  rintro e w14 ⟨rfl, bel14⟩
  have s14 := bel14.size
  have d14 : Below w3.heap.size w3 w14 := d13.trans (bel14.mono d13.size)
  have Ovg := Lib.hid (Ovg.out.later bel14)
  clear bel14
  go_wp2_with fail
  refine (markIntSS_any _ vg Xvg (jtR a0 l1 l2) w14 hRl HRr.out Ovg.out).mono ?_
  rintro e w15 ⟨rfl, ownm, be15⟩
  have s15 := be15.size
  have d15 : Below w3.heap.size w3 w15 := d14.trans (be15.mono (by omega))
  have Om := Lib.hid ownm
  have hct := ctot_le HRr.out (jtR a0 l1 l2).length
  clear ownm be15
  have hmm : ((1 + (ctot (jtR a0 l1 l2) (jtR a0 l1 l2).length : Int)) != (1 + (ctot (jtR a0 l1 l2) (jtR a0 l1 l2).length : Int))) = false := by simp
  go_wp2_with fail
  refine (heldIntSS_any _ vg Xvg (jtR a0 l1 l2) w15 hRl HRr.out Om.out).mono ?_
  rintro e w' ⟨rfl, rfl⟩
  go_wp2_with fail
  refine (toIntSS_any o1 c1 l1 n1 w15 Hn1 hs1 HS1 (Hc1.out.kept (b3.trans (d15.mono hW2)))).mono ?_
  rintro e w16 ⟨capu1, Xu1, rfl, ownu1, bel16⟩
  have s16 := bel16.size
  have d16 : Below w3.heap.size w3 w16 := d15.trans (bel16.mono d15.size)
  have Om := Lib.hid (Om.out.later bel16)
  have Ou1 := Lib.hid ownu1
  clear ownu1 bel16
  go_wp2_with fail
  refine (toIntSS_any o2 c2 l2 n2 w16 Hn2 hs2 HS2 (Hc2.out.kept (b3.trans (d16.mono hW2)))).mono ?_
  rintro e w17 ⟨capu2, Xu2, rfl, ownu2, bel17⟩
  have s17 := bel17.size
  have d17 : Below w3.heap.size w3 w17 := d16.trans (bel17.mono d16.size)
  have Om := Lib.hid (Om.out.later bel17)
  have Ou1 := Lib.hid (Ou1.out.later bel17)
  have Ou2 := Lib.hid ownu2
  clear ownu2 bel17
  go_wp2_with fail
  refine (implJt_any w17 a0 _ capu1 l1 n1 Hn1 hs1 HS1 (rows_own2 Ou1.out) _ capu2 l2 n2 Hn2 hs2 HS2 (rows_own2 Ou2.out)).mono ?_
  rintro e w18 ⟨vh, Xvh, rfl, ownvh, bel18⟩
  have s18 := bel18.size
  have d18 : Below w3.heap.size w3 w18 := d17.trans (bel18.mono d17.size)
  have Om := Lib.hid (Om.out.later bel18)
  have Ou1 := Lib.hid (Ou1.out.later bel18)
  have Ou2 := Lib.hid (Ou2.out.later bel18)
  have Ovh := Lib.hid ownvh
  clear ownvh
  clear bel18
  have Ovw := Lib.hid (OW.out.later d18)
  go_wp2_with fail
  refine (eqIntSS_own vh vw Xvh Xvw (jtR a0 l1 l2) w18 (by omega) HRr2.out Ovh.out Ovw.out).mono ?_
  rintro e w19 ⟨rfl, bel19⟩
  have s19 := bel19.size
  have d19 : Below w3.heap.size w3 w19 := d18.trans (bel19.mono d18.size)
  have Om := Lib.hid (Om.out.later bel19)
  have Ou1 := Lib.hid (Ou1.out.later bel19)
  have Ou2 := Lib.hid (Ou2.out.later bel19)
  have Ovh := Lib.hid (Ovh.out.later bel19)
  clear bel19
  go_wp2_with fail
  refine (heldIntSS_any _ vg Xvg (jtR a0 l1 l2) w19 hRl HRr.out Om.out).mono ?_
  rintro e w' ⟨rfl, rfl⟩
  go_wp2_with fail
  go_ret
  exact ⟨rfl, (b3.trans (d19.mono hW2))⟩

end Go.Proofs.Ytejmlhhblckddaa
