/- The walk of the law FnExactCallsOfRounds. -/
import Derived.Test.YtnngdoiempmkkaaCorI
import Derived.Test.YtnngdoiempmkkaaMarkUp
import Derived.Test.YtnngdoiempmkkaaCorS
namespace Go.Proofs.Ytnngdoiempmkkaa
open Go.ChangeShapes Go.WideShapes Go.ChangeAt Go.RowKit
set_option linter.unusedVariables false


set_option maxHeartbeats 800000 in
set_option maxRecDepth 20000 in
theorem walkCOR (W : World) (a0 : Int) (_w0 : (Lit.int .i64 a0).wf = true) (o1 : Option Addr) (n1 c1 : Nat) (L : List (List (Int × Int))) (q1n : n1 = L.length) (q1m : n1 ≤ 9223372036854775807) (q1L : ∀ i, (crow L i).length ≤ 9223372036854775807) (q1c : RowsAt W o1 L) :
    Calls Try.prog 4 #[.int .i64 a0, .slice o1 n1 c1] W fun e w' => e = .returned (.bool true) ∧ Below W.heap.size W w' := by
  have Hn := Lib.hid q1n
  have HL := Lib.hid q1L
  have Hc := Lib.hid q1c
  clear q1n q1L q1c
  have hok : (corB a0 L != corB a0 L) = false := by simp
  have hRl := corR_len a0 L
  go_enter Try.func4, Try.ntmps4
  go_wp2_with fail
  refine (szCallSS_any o1 c1 L n1 W Hn.out q1m HL.out Hc.out).mono ?_
  rintro e w' ⟨r, rfl, rfl, hr⟩
  by_cases hr0 : r < 0
  · have hd : decide (r < 0) = true := by simpa using hr0
    clear hr
    go_wp2_with fail
    go_ret
    exact ⟨rfl, Below.refl _ _⟩
  · obtain ⟨hs1, hs2⟩ := hr (by omega)
    have HS := Lib.hid hs2
    have HS2 : Hid (∀ i, i < L.length → (crow L i).length ≤ 1048576) := Lib.hid (fun i _ => HS.out i)
    have HLl : Hid (L.length ≤ 1048576) := Lib.hid (by rw [← Hn.out]; exact hs1)
    have hct0 := cctot_le HS.out L.length
    have hd : decide (r < 0) = false := by simpa using hr0
    have Hcl : Hid ((cctot L L.length : Int) ≤ 2097152 * 1048576) := Lib.hid (by have := HLl.out; omega)
    have hct : (cctot L L.length : Int) ≤ 2097152 * 1048576 := Hcl.out
    clear hr hr0 hs2 hct0
    go_wp2_with fail
    refine (toCallSS_any o1 c1 L n1 W Hn hs1 HS Hc).mono ?_
    rintro e w1 ⟨capy, Xy, rfl, owny, bel1⟩
    have b1 : Below W.heap.size W w1 := bel1
    obtain ⟨aoy, cy, hvy, ry⟩ := owny.rows
    have HRy : Hid (RowsAt w1 (some ⟨W.heap.size, 0, none⟩) L) := by cases hvy; exact ry
    clear owny bel1 hvy ry
    go_wp2_with fail
    refine (specCOR_any w1 a0 _ capy L n1 Hn q1m HL HRy).mono ?_
    rintro e w2 ⟨vw, rfl, ow, bel2⟩
    have b2 : Below W.heap.size W w2 := b1.trans (bel2.mono b1.size)
    have Ow := Lib.hid ow
    have hW2 := b2.size
    clear ow bel2 b1
    go_wp2_with fail
    refine (toCallSS_any o1 c1 L n1 w2 Hn hs1 HS (Hc.out.kept b2)).mono ?_
    rintro e w3 ⟨capx, Xx, rfl, ownx, bel3⟩
    have d3 : Below w2.heap.size w2 w3 := bel3
    obtain ⟨aox, cx, hvx, rx⟩ := ownx.rows
    have HRx : Hid (RowsAt w3 (some ⟨w2.heap.size, 0, none⟩) L) := by cases hvx; exact rx
    have Ox := Lib.hid ownx
    have hs3 := d3.size
    clear ownx bel3 hvx rx
    go_wp2_with fail
    refine (implCOR_any w3 a0 _ capx L n1 Hn q1m HL HRx).mono ?_
    rintro e w4 ⟨vg, rfl, og, bel4⟩
    have d4 : Below w2.heap.size w2 w4 := d3.trans (bel4.mono hs3)
    have Og := Lib.hid og
    have Ox4 := Lib.hid (Ox.out.later bel4)
    have Ow4 := Lib.hid (own_later Ow.out d4)
    have hs4 := bel4.size
    clear og bel4 d3
    go_wp2_with fail
    refine (eqCallS_own vg vw (corR a0 L) _ _ w4 rfl rfl (by omega) Og.out Ow4.out).mono ?_
    rintro e w5 ⟨rfl, bel5⟩
    have d5 : Below w2.heap.size w2 w5 := d4.trans (bel5.mono d4.size)
    have Og5 := Lib.hid (own_later Og.out bel5)
    have Ox5 := Lib.hid (Ox4.out.later bel5)
    clear bel5 d4 Ow4
    go_wp2_with fail
    refine (toCallSS_any o1 c1 L n1 w5 Hn hs1 HS (Hc.out.kept (b2.trans (d5.mono hW2)))).mono ?_
    rintro e w6 ⟨capz, Xz, rfl, ownz, bel6⟩
    have d6 : Below w2.heap.size w2 w6 := d5.trans (bel6.mono d5.size)
    have Oz := Lib.hid ownz
    have Og6 := Lib.hid (own_later Og5.out bel6)
    have Ox6 := Lib.hid (Ox5.out.later bel6)
    clear ownz bel6 d5
    go_wp2_with fail
    refine (eqCallSS_own _ _ Xx Xz L w6 HLl.out HS2.out Ox6.out Oz.out).mono ?_
    rintro e w7 ⟨rfl, bel7⟩
    have d7 : Below w2.heap.size w2 w7 := d6.trans (bel7.mono d6.size)
    have Og7 := Lib.hid (own_later Og6.out bel7)
    have Ox7 := Lib.hid (Ox6.out.later bel7)
    clear bel7 d6 Oz
    go_wp2_with fail
    refine (markCallSSa_any w3.heap.size _ _ Xx (Lib.hid (Ox.out.lowB (Nat.le_refl _))) L w7 HLl.out HS.out Ox7.out).mono ?_
    rintro e w8 ⟨rfl, ownm, be8, ab8⟩
    have d8 : Below w2.heap.size w2 w8 := d7.trans be8
    have Og8 := Lib.hid (own_above Og7.out ab8 (Nat.le_refl _))
    have Ow8 := Lib.hid (own_later Ow.out d8)
    clear ownm be8 ab8 d7 Ox7
    go_wp2_with fail
    refine (eqCallS_own vg vw (corR a0 L) _ _ w8 rfl rfl (by omega) Og8.out Ow8.out).mono ?_
    rintro e w9 ⟨rfl, bel9⟩
    have d9 : Below w2.heap.size w2 w9 := d8.trans (bel9.mono d8.size)
    have Og9 := Lib.hid (own_later Og8.out bel9)
    clear bel9 d8 Ow8
    go_wp2_with fail
    refine (markCallS_any _ vg (corR a0 L) _ w9 1 (by omega) (by omega) rfl (by omega) Og9.out).mono ?_
    rintro e w10 ⟨rfl, om, gr10⟩
    have d10 : Below w2.heap.size w2 w10 := d9.grown gr10 d9.size (fun k hk => Nat.le_trans hs3 (Og9.out.lt k hk).1)
    have Om := Lib.hid om
    have hmm : ((1 + 2 * ((corR a0 L).length : Int)) != (1 + 2 * ((corR a0 L).length : Int))) = false := by simp
    clear om gr10 d9
    go_wp2_with fail
    refine (heldCallS_any _ vg (corR a0 L) _ w10 1 (by omega) (by omega) rfl (by omega) Om.out).mono ?_
    rintro e w' ⟨rfl, rfl⟩
    go_wp2_with fail
    refine (toCallSS_any o1 c1 L n1 w10 Hn hs1 HS (Hc.out.kept (b2.trans (d10.mono hW2)))).mono ?_
    rintro e w11 ⟨capu, Xu, rfl, ownu, bel11⟩
    have d11 : Below w2.heap.size w2 w11 := d10.trans (bel11.mono d10.size)
    obtain ⟨aou, cu, hvu, ru⟩ := ownu.rows
    have HRu : Hid (RowsAt w11 (some ⟨w10.heap.size, 0, none⟩) L) := by cases hvu; exact ru
    have Om11 := Lib.hid (own_later Om.out bel11)
    clear ownu bel11 d10 hvu ru
    go_wp2_with fail
    refine (implCOR_any w11 a0 _ capu L n1 Hn q1m HL HRu).mono ?_
    rintro e w12 ⟨vh, rfl, oh, bel12⟩
    have d12 : Below w2.heap.size w2 w12 := d11.trans (bel12.mono d11.size)
    have Oh := Lib.hid oh
    have Om12 := Lib.hid (own_later Om11.out bel12)
    have Ow12 := Lib.hid (own_later Ow.out d12)
    clear oh bel12 d11
    go_wp2_with fail
    refine (eqCallS_own vh vw (corR a0 L) _ _ w12 rfl rfl (by omega) Oh.out Ow12.out).mono ?_
    rintro e w13 ⟨rfl, bel13⟩
    have d13 : Below w2.heap.size w2 w13 := d12.trans (bel13.mono d12.size)
    have Om13 := Lib.hid (own_later Om12.out bel13)
    clear bel13 d12
    go_wp2_with fail
    refine (heldCallS_any _ vg (corR a0 L) _ w13 1 (by omega) (by omega) rfl (by omega) Om13.out).mono ?_
    rintro e w' ⟨rfl, rfl⟩
    go_wp2_with fail
    go_ret
    exact ⟨rfl, b2.trans (d13.mono hW2)⟩

end Go.Proofs.Ytnngdoiempmkkaa
