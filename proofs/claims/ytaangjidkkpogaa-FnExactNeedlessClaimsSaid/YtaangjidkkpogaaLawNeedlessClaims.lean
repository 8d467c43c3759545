/- The law on NeedlessClaims, walked. -/
import Derived.Test.YtaangjidkkpogaaNcS
import Derived.Test.YtaangjidkkpogaaSz
import Derived.Test.YtaangjidkkpogaaSndK
import Derived.Test.YtaangjidkkpogaaUp
namespace Go.Proofs.Ytaangjidkkpogaa
open Go.ChangeShapes Go.WideShapes Go.ChangeAt Go.RowKit
set_option linter.unusedVariables false

set_option maxRecDepth 20000 in
theorem lawNeedlessClaimsS (W : World) (a0 : Int) (_w0 : (Lit.int .i64 a0).wf = true) (o1 : Option Addr) (n1 c1 : Nat) (l1 : List Snd) (q1n : n1 = l1.length) (q1m : n1 ≤ 9223372036854775807) (q1c : SendsAt W o1 l1) (hs1 : n1 ≤ 1048576) :
    Calls Try.prog 10 #[.int .i64 a0, .slice o1 n1 c1] W fun e w' => e = .returned (.bool true) ∧ Below W.heap.size W w' := by
  have Hn1 := Lib.hid q1n
  have Hc1 := Lib.hid q1c
  clear q1n q1c
  have hlen := ncR_len a0 l1
  have hok : ((clB a0 l1) != (clB a0 l1)) = false := by simp
  go_enter Try.func10, Try.ntmps10
  have hdl1 : decide ((1048576 : Int) - (n1 : Int) < 0) = false := by simp; omega
  go_wp2_with fail
  refine (sz20_fit o1 n1 c1 W hs1).mono ?_
  rintro e w' ⟨rfl, rfl⟩
  go_wp2_with fail
  refine (toSendS_any o1 c1 l1 n1 W Hn1 hs1 Hc1).mono ?_
  rintro e w1 ⟨capy1, rfl, owny1, bel1⟩
  have s1 := bel1.size
  have b1 : Below W.heap.size W w1 := bel1
  have Oy1 := Lib.hid owny1
  clear owny1 bel1
  go_wp2_with fail
  refine (specNC_any w1 a0 _ capy1 l1 n1 Hn1 hs1 (own_cap3 Oy1.out) (sown_at Oy1.out Hn1.out)).mono ?_
  rintro e w2 ⟨vw, rfl, ownvw, bel2⟩
  have s2 := bel2.size
  have b2 : Below W.heap.size W w2 := b1.trans (bel2.mono b1.size)
  have Oy1 := Lib.hid (own_later Oy1.out bel2)
  have Ovw := Lib.hid ownvw
  clear ownvw
  clear bel2
  clear Oy1
  have hW2 := b2.size
  have OW := Ovw
  go_wp2_with fail
  refine (toSendS_any o1 c1 l1 n1 w2 Hn1 hs1 (Hc1.out.kept b2)).mono ?_
  rintro e w3 ⟨capx1, rfl, ownx1, bel3⟩
  have s3 := bel3.size
  have d3 : Below w2.heap.size w2 w3 := bel3
  have Ox1 := Lib.hid ownx1
  clear ownx1 bel3
  have OX1 := Ox1
  go_wp2_with fail
  refine (implNC_any w3 a0 _ capx1 l1 n1 Hn1 hs1 (own_cap3 Ox1.out) (sown_at Ox1.out Hn1.out)).mono ?_
  rintro e w4 ⟨vg, rfl, ownvg, bel4⟩
  have s4 := bel4.size
  have d4 : Below w2.heap.size w2 w4 := d3.trans (bel4.mono d3.size)
  have Ox1 := Lib.hid (own_later Ox1.out bel4)
  have Ovg := Lib.hid ownvg
  clear ownvg
  clear bel4
  have Ovw := Lib.hid (own_later OW.out d4)
  go_wp2_with fail
  refine (eqIntS_own _ _ (ncR a0 l1) (ncR a0 l1).length (ncR a0 l1).length w4 rfl rfl (by omega) Ovg.out Ovw.out).mono ?_
  rintro e w5 ⟨rfl, bel5⟩
  have s5 := bel5.size
  have d5 : Below w2.heap.size w2 w5 := d4.trans (bel5.mono d4.size)
  have Ox1 := Lib.hid (own_later Ox1.out bel5)
  have Ovg := Lib.hid (own_later Ovg.out bel5)
  clear bel5
  go_wp2_with fail
  refine (toSendS_any o1 c1 l1 n1 w5 Hn1 hs1 (Hc1.out.kept (b2.trans (d5.mono hW2)))).mono ?_
  rintro e w6 ⟨capz1, rfl, ownz1, bel6⟩
  have s6 := bel6.size
  have d6 : Below w2.heap.size w2 w6 := d5.trans (bel6.mono d5.size)
  have Ox1 := Lib.hid (own_later Ox1.out bel6)
  have Ovg := Lib.hid (own_later Ovg.out bel6)
  have Oz1 := Lib.hid ownz1
  clear ownz1 bel6
  go_wp2_with fail
  refine (eqSendS_own _ _ l1 n1 n1 w6 Hn1.out Hn1.out (by omega) Ox1.out Oz1.out).mono ?_
  rintro e w7 ⟨rfl, bel7⟩
  have s7 := bel7.size
  have d7 : Below w2.heap.size w2 w7 := d6.trans (bel7.mono d6.size)
  have Ox1 := Lib.hid (own_later Ox1.out bel7)
  have Ovg := Lib.hid (own_later Ovg.out bel7)
  clear bel7 Oz1
  go_wp2_with fail
  refine (markSendS_any _ _ l1 n1 w7 (1) (by omega) (by omega) Hn1.out (by omega) Ox1.out).mono ?_
  rintro e w8 ⟨rfl, ownm, gr8⟩
  have be8 : Below w2.heap.size w7 w8 := (Below.refl _ _).grown gr8 (by omega) (fun k hk => (Ox1.out.lt k hk).1)
  have ab8 : Above w3.heap.size w7 w8 := Above.one gr8 (fun b hb => (OX1.out.lt b hb).2)
  clear ownm gr8
  have s8 := be8.size
  have d8 : Below w2.heap.size w2 w8 := d7.trans (be8.mono (by omega))
  have Ovg := Lib.hid (own_above Ovg.out ab8 (by omega))
  clear be8 ab8
  have hk0 : decide (1 + 3 * (n1 : Int) < 0) = false := by simp; omega
  have Ovw := Lib.hid (own_later OW.out d8)
  go_wp2_with fail
  refine (eqIntS_own _ _ (ncR a0 l1) (ncR a0 l1).length (ncR a0 l1).length w8 rfl rfl (by omega) Ovg.out Ovw.out).mono ?_
  rintro e w9 ⟨rfl, bel9⟩
  have s9 := bel9.size
  have d9 : Below w2.heap.size w2 w9 := d8.trans (bel9.mono d8.size)
  have Ovg := Lib.hid (own_later Ovg.out bel9)
  clear bel9
  go_wp2_with fail
  refine (markIntS_any _ vg (ncR a0 l1) (ncR a0 l1).length w9 1 (by omega) (by omega) rfl (by omega) Ovg.out).mono ?_
  rintro e w10 ⟨rfl, ownm, gr10⟩
  have s10 := gr10.size
  have d10 : Below w2.heap.size w2 w10 := d9.grown gr10 d9.size (fun k hk => Nat.le_trans (by omega) (Ovg.out.lt k hk).1)
  have Om := Lib.hid ownm
  clear ownm gr10
  have hmm : ((1 + ((ncR a0 l1).length : Int)) != (1 + ((ncR a0 l1).length : Int))) = false := by simp
  go_wp2_with fail
  refine (heldIntS_any _ vg (ncR a0 l1) (ncR a0 l1).length w10 1 (by omega) (by omega) rfl (by omega) Om.out).mono ?_
  rintro e w' ⟨rfl, rfl⟩
  go_wp2_with fail
  refine (toSendS_any o1 c1 l1 n1 w10 Hn1 hs1 (Hc1.out.kept (b2.trans (d10.mono hW2)))).mono ?_
  rintro e w11 ⟨capu1, rfl, ownu1, bel11⟩
  have s11 := bel11.size
  have d11 : Below w2.heap.size w2 w11 := d10.trans (bel11.mono d10.size)
  have Om := Lib.hid (own_later Om.out bel11)
  have Ou1 := Lib.hid ownu1
  clear ownu1 bel11
  go_wp2_with fail
  refine (implNC_any w11 a0 _ capu1 l1 n1 Hn1 hs1 (own_cap3 Ou1.out) (sown_at Ou1.out Hn1.out)).mono ?_
  rintro e w12 ⟨vh, rfl, ownvh, bel12⟩
  have s12 := bel12.size
  have d12 : Below w2.heap.size w2 w12 := d11.trans (bel12.mono d11.size)
  have Om := Lib.hid (own_later Om.out bel12)
  have Ou1 := Lib.hid (own_later Ou1.out bel12)
  have Ovh := Lib.hid ownvh
  clear ownvh
  clear bel12
  have Ovw := Lib.hid (own_later OW.out d12)
  go_wp2_with fail
  refine (eqIntS_own _ _ (ncR a0 l1) (ncR a0 l1).length (ncR a0 l1).length w12 rfl rfl (by omega) Ovh.out Ovw.out).mono ?_
  rintro e w13 ⟨rfl, bel13⟩
  have s13 := bel13.size
  have d13 : Below w2.heap.size w2 w13 := d12.trans (bel13.mono d12.size)
  have Om := Lib.hid (own_later Om.out bel13)
  have Ou1 := Lib.hid (own_later Ou1.out bel13)
  have Ovh := Lib.hid (own_later Ovh.out bel13)
  clear bel13
  go_wp2_with fail
  refine (heldIntS_any _ vg (ncR a0 l1) (ncR a0 l1).length w13 1 (by omega) (by omega) rfl (by omega) Om.out).mono ?_
  rintro e w' ⟨rfl, rfl⟩
  go_wp2_with fail
  go_ret
  exact ⟨rfl, (b2.trans (d13.mono hW2))⟩

set_option maxRecDepth 20000 in
theorem lawNeedlessClaims (W : World) (a0 : Int) (_w0 : (Lit.int .i64 a0).wf = true) (o1 : Option Addr) (n1 c1 : Nat) (l1 : List Snd) (q1n : n1 = l1.length) (q1m : n1 ≤ 9223372036854775807) (q1c : SendsAt W o1 l1) :
    Calls Try.prog 10 #[.int .i64 a0, .slice o1 n1 c1] W fun e w' => e = .returned (.bool true) ∧ Below W.heap.size W w' := by
  by_cases hs1 : n1 ≤ 1048576
  · exact lawNeedlessClaimsS W a0 _w0 o1 n1 c1 l1 q1n q1m q1c hs1
  · have hbg : decide ((n1 : Int) > 1048576) = true := by simp; omega
    clear q1n q1c
    go_enter Try.func10, Try.ntmps10
    go_wp2_with fail
    refine (sz20_over o1 n1 c1 W (by omega) q1m).mono ?_
    rintro e w' ⟨rfl, rfl⟩
    go_wp2_with fail
    go_ret
    exact ⟨rfl, Below.refl _ _⟩

end Go.Proofs.Ytaangjidkkpogaa
