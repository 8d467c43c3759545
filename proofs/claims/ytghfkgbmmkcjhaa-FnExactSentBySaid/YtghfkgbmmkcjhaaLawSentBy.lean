/- The law on SentBy, walked. -/
import Derived.Test.YtghfkgbmmkcjhaaSb
import Derived.Test.YtghfkgbmmkcjhaaSz
import Derived.Test.YtghfkgbmmkcjhaaInts
import Derived.Test.YtghfkgbmmkcjhaaUp
namespace Go.Proofs.Ytghfkgbmmkcjhaa
open Go.ChangeShapes Go.WideShapes Go.ChangeAt Go.RowKit
set_option linter.unusedVariables false

set_option maxRecDepth 20000 in
theorem lawSentByS (W : World) (a0 : Int) (_w0 : (Lit.int .i64 a0).wf = true) (a1 : Int) (_w1 : (Lit.int .i64 a1).wf = true) (o2 : Option Addr) (n2 c2 : Nat) (l2 : List Snd) (q2n : n2 = l2.length) (q2m : n2 ≤ 9223372036854775807) (q2c : SendsAt W o2 l2) (a3 : Int) (_w3 : (Lit.int .i64 a3).wf = true) (hs2 : n2 ≤ 1048576) :
    Calls Try.prog 12 #[.int .i64 a0, .int .i64 a1, .slice o2 n2 c2, .int .i64 a3] W fun e w' => e = .returned (.bool true) ∧ Below W.heap.size W w' := by
  have Hn2 := Lib.hid q2n
  have Hc2 := Lib.hid q2c
  clear q2n q2c
  have hlen := sbR_len a0 a1 l2 a3
  have hok : ((dpB a0 a1 l2 a3) != (dpB a0 a1 l2 a3)) = false := by simp
  go_enter Try.func12, Try.ntmps12
  have hdl2 : decide ((1048576 : Int) - (n2 : Int) < 0) = false := by simp; omega
  go_wp2_with fail
  refine (sz20_fit o2 n2 c2 W hs2).mono ?_
  rintro e w' ⟨rfl, rfl⟩
  go_wp2_with fail
  refine (toSendS_any o2 c2 l2 n2 W Hn2 hs2 Hc2).mono ?_
  rintro e w1 ⟨capy2, rfl, owny2, bel1⟩
  have s1 := bel1.size
  have b1 : Below W.heap.size W w1 := bel1
  have Oy2 := Lib.hid owny2
  clear owny2 bel1
  go_wp2_with fail
  refine (specSB_any w1 a0 a1 _ capy2 l2 n2 Hn2 hs2 (own_cap3 Oy2.out) (sown_at Oy2.out Hn2.out) a3).mono ?_
  rintro e w2 ⟨vw, rfl, ownvw, bel2⟩
  have s2 := bel2.size
  have b2 : Below W.heap.size W w2 := b1.trans (bel2.mono b1.size)
  have Oy2 := Lib.hid (own_later Oy2.out bel2)
  have Ovw := Lib.hid ownvw
  clear ownvw
  clear bel2
  clear Oy2
  have hW2 := b2.size
  have OW := Ovw
  go_wp2_with fail
  refine (toSendS_any o2 c2 l2 n2 w2 Hn2 hs2 (Hc2.out.kept b2)).mono ?_
  rintro e w3 ⟨capx2, rfl, ownx2, bel3⟩
  have s3 := bel3.size
  have d3 : Below w2.heap.size w2 w3 := bel3
  have Ox2 := Lib.hid ownx2
  clear ownx2 bel3
  have OX2 := Ox2
  go_wp2_with fail
  refine (implSB_any w3 a0 a1 _ capx2 l2 n2 Hn2 hs2 (own_cap3 Ox2.out) (sown_at Ox2.out Hn2.out) a3).mono ?_
  rintro e w4 ⟨vg, rfl, ownvg, bel4⟩
  have s4 := bel4.size
  have d4 : Below w2.heap.size w2 w4 := d3.trans (bel4.mono d3.size)
  have Ox2 := Lib.hid (own_later Ox2.out bel4)
  have Ovg := Lib.hid ownvg
  clear ownvg
  clear bel4
  have Ovw := Lib.hid (own_later OW.out d4)
  go_wp2_with fail
  refine (eqIntS_own _ _ (sbR a0 a1 l2 a3) (sbR a0 a1 l2 a3).length (sbR a0 a1 l2 a3).length w4 rfl rfl (by omega) Ovg.out Ovw.out).mono ?_
  rintro e w5 ⟨rfl, bel5⟩
  have s5 := bel5.size
  have d5 : Below w2.heap.size w2 w5 := d4.trans (bel5.mono d4.size)
  have Ox2 := Lib.hid (own_later Ox2.out bel5)
  have Ovg := Lib.hid (own_later Ovg.out bel5)
  clear bel5
  go_wp2_with fail
  refine (toSendS_any o2 c2 l2 n2 w5 Hn2 hs2 (Hc2.out.kept (b2.trans (d5.mono hW2)))).mono ?_
  rintro e w6 ⟨capz2, rfl, ownz2, bel6⟩
  have s6 := bel6.size
  have d6 : Below w2.heap.size w2 w6 := d5.trans (bel6.mono d5.size)
  have Ox2 := Lib.hid (own_later Ox2.out bel6)
  have Ovg := Lib.hid (own_later Ovg.out bel6)
  have Oz2 := Lib.hid ownz2
  clear ownz2 bel6
  go_wp2_with fail
  refine (eqSendS_own _ _ l2 n2 n2 w6 Hn2.out Hn2.out (by omega) Ox2.out Oz2.out).mono ?_
  rintro e w7 ⟨rfl, bel7⟩
  have s7 := bel7.size
  have d7 : Below w2.heap.size w2 w7 := d6.trans (bel7.mono d6.size)
  have Ox2 := Lib.hid (own_later Ox2.out bel7)
  have Ovg := Lib.hid (own_later Ovg.out bel7)
  clear bel7 Oz2
  go_wp2_with fail
  refine (markSendS_any _ _ l2 n2 w7 (1) (by omega) (by omega) Hn2.out (by omega) Ox2.out).mono ?_
  rintro e w8 ⟨rfl, ownm, gr8⟩
  have be8 : Below w2.heap.size w7 w8 := (Below.refl _ _).grown gr8 (by omega) (fun k hk => (Ox2.out.lt k hk).1)
  have ab8 : Above w3.heap.size w7 w8 := Above.one gr8 (fun b hb => (OX2.out.lt b hb).2)
  clear ownm gr8
  have s8 := be8.size
  have d8 : Below w2.heap.size w2 w8 := d7.trans (be8.mono (by omega))
  have Ovg := Lib.hid (own_above Ovg.out ab8 (by omega))
  clear be8 ab8
  have hk0 : decide (1 + 3 * (n2 : Int) < 0) = false := by simp; omega
  have Ovw := Lib.hid (own_later OW.out d8)
  go_wp2_with fail
  refine (eqIntS_own _ _ (sbR a0 a1 l2 a3) (sbR a0 a1 l2 a3).length (sbR a0 a1 l2 a3).length w8 rfl rfl (by omega) Ovg.out Ovw.out).mono ?_
  rintro e w9 ⟨rfl, bel9⟩
  have s9 := bel9.size
  have d9 : Below w2.heap.size w2 w9 := d8.trans (bel9.mono d8.size)
  have Ovg := Lib.hid (own_later Ovg.out bel9)
  clear bel9
  go_wp2_with fail
  refine (markIntS_any _ vg (sbR a0 a1 l2 a3) (sbR a0 a1 l2 a3).length w9 1 (by omega) (by omega) rfl (by omega) Ovg.out).mono ?_
  rintro e w10 ⟨rfl, ownm, gr10⟩
  have s10 := gr10.size
  have d10 : Below w2.heap.size w2 w10 := d9.grown gr10 d9.size (fun k hk => Nat.le_trans (by omega) (Ovg.out.lt k hk).1)
  have Om := Lib.hid ownm
  clear ownm gr10
  have hmm : ((1 + ((sbR a0 a1 l2 a3).length : Int)) != (1 + ((sbR a0 a1 l2 a3).length : Int))) = false := by simp
  go_wp2_with fail
  refine (heldIntS_any _ vg (sbR a0 a1 l2 a3) (sbR a0 a1 l2 a3).length w10 1 (by omega) (by omega) rfl (by omega) Om.out).mono ?_
  rintro e w' ⟨rfl, rfl⟩
  go_wp2_with fail
  refine (toSendS_any o2 c2 l2 n2 w10 Hn2 hs2 (Hc2.out.kept (b2.trans (d10.mono hW2)))).mono ?_
  rintro e w11 ⟨capu2, rfl, ownu2, bel11⟩
  have s11 := bel11.size
  have d11 : Below w2.heap.size w2 w11 := d10.trans (bel11.mono d10.size)
  have Om := Lib.hid (own_later Om.out bel11)
  have Ou2 := Lib.hid ownu2
  clear ownu2 bel11
  go_wp2_with fail
  refine (implSB_any w11 a0 a1 _ capu2 l2 n2 Hn2 hs2 (own_cap3 Ou2.out) (sown_at Ou2.out Hn2.out) a3).mono ?_
  rintro e w12 ⟨vh, rfl, ownvh, bel12⟩
  have s12 := bel12.size
  have d12 : Below w2.heap.size w2 w12 := d11.trans (bel12.mono d11.size)
  have Om := Lib.hid (own_later Om.out bel12)
  have Ou2 := Lib.hid (own_later Ou2.out bel12)
  have Ovh := Lib.hid ownvh
  clear ownvh
  clear bel12
  have Ovw := Lib.hid (own_later OW.out d12)
  go_wp2_with fail
  refine (eqIntS_own _ _ (sbR a0 a1 l2 a3) (sbR a0 a1 l2 a3).length (sbR a0 a1 l2 a3).length w12 rfl rfl (by omega) Ovh.out Ovw.out).mono ?_
  rintro e w13 ⟨rfl, bel13⟩
  have s13 := bel13.size
  have d13 : Below w2.heap.size w2 w13 := d12.trans (bel13.mono d12.size)
  have Om := Lib.hid (own_later Om.out bel13)
  have Ou2 := Lib.hid (own_later Ou2.out bel13)
  have Ovh := Lib.hid (own_later Ovh.out bel13)
  clear bel13
  go_wp2_with fail
  refine (heldIntS_any _ vg (sbR a0 a1 l2 a3) (sbR a0 a1 l2 a3).length w13 1 (by omega) (by omega) rfl (by omega) Om.out).mono ?_
  rintro e w' ⟨rfl, rfl⟩
  go_wp2_with fail
  go_ret
  exact ⟨rfl, (b2.trans (d13.mono hW2))⟩

set_option maxRecDepth 20000 in
theorem lawSentBy (W : World) (a0 : Int) (_w0 : (Lit.int .i64 a0).wf = true) (a1 : Int) (_w1 : (Lit.int .i64 a1).wf = true) (o2 : Option Addr) (n2 c2 : Nat) (l2 : List Snd) (q2n : n2 = l2.length) (q2m : n2 ≤ 9223372036854775807) (q2c : SendsAt W o2 l2) (a3 : Int) (_w3 : (Lit.int .i64 a3).wf = true) :
    Calls Try.prog 12 #[.int .i64 a0, .int .i64 a1, .slice o2 n2 c2, .int .i64 a3] W fun e w' => e = .returned (.bool true) ∧ Below W.heap.size W w' := by
  by_cases hs2 : n2 ≤ 1048576
  · exact lawSentByS W a0 _w0 a1 _w1 o2 n2 c2 l2 q2n q2m q2c a3 _w3 hs2
  · have hbg : decide ((n2 : Int) > 1048576) = true := by simp; omega
    clear q2n q2c
    go_enter Try.func12, Try.ntmps12
    go_wp2_with fail
    refine (sz20_over o2 n2 c2 W (by omega) q2m).mono ?_
    rintro e w' ⟨rfl, rfl⟩
    go_wp2_with fail
    go_ret
    exact ⟨rfl, Below.refl _ _⟩

end Go.Proofs.Ytghfkgbmmkcjhaa
