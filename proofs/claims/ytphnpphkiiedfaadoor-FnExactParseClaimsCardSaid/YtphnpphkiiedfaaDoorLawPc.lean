/- The walk of the law FnExactParseClaims. -/
import Derived.Test.YtphnpphkiiedfaaDoorPrI
import Derived.Test.YtphnpphkiiedfaaDoorSndK
namespace Go.Proofs.YtphnpphkiiedfaaDoor
open Go.ChangeShapes Go.WideShapes Go.ChangeAt Go.RowKit
set_option linter.unusedVariables false


set_option maxRecDepth 20000 in
theorem walkPC (W : World) (s : ByteArray) (ws : s.size ≤ maxLen) (hm0 : ∃ m : Int, W.cell? ⟨1, 0, none⟩ = some (.int .i64 m)) :
    Calls Tryd.prog 4 #[.string s] W fun e w' => e = .returned (.bool true) ∧ Below W.heap.size W w' := by
  have Hm0 := Lib.hid hm0
  clear hm0
  obtain ⟨l, hl⟩ : ∃ l, l = s.data.toList := ⟨_, rfl⟩
  have Hl := Lib.hid hl
  clear hl
  obtain ⟨n, hn⟩ : ∃ n, n = s.size := ⟨_, rfl⟩
  have Hn := Lib.hid hn
  have hsz := hn.symm
  clear hn
  by_cases hs1 : n ≤ 1048576
  · have hsI : (n : Int) ≤ 1048576 := by omega
    have hok : ((pB l) != (pB l)) = false := by simp
    have hlen := pR_length l
    go_enter Tryd.func4, Tryd.ntmps4
    go_wp2_with fail
    refine (specPC_any s l Hl W).mono ?_
    rintro e w2 ⟨vw, rfl, ow, b2⟩
    have Ow := Lib.hid ow
    have hW2 := b2.size
    clear ow
    go_wp2_with fail
    refine (implPC_any s l Hl n Hn hs1 w2 (glob_kept Hm0.out b2)).mono ?_
    rintro e w4 ⟨vg, rfl, og, bel4⟩
    have d4 : Below w2.heap.size w2 w4 := bel4
    have Og := Lib.hid og
    have Ow4 := Lib.hid (own_later Ow.out bel4)
    clear og bel4
    go_wp2_with fail
    refine (eqSendS_own vg vw (pR l) (pR l).length (pR l).length w4 rfl rfl (by omega) Og.out Ow4.out).mono ?_
    rintro e w9 ⟨rfl, bel9⟩
    have d9 : Below w2.heap.size w2 w9 := d4.trans (bel9.mono d4.size)
    have Og9 := Lib.hid (own_later Og.out bel9)
    clear bel9 d4 Ow4
    go_wp2_with fail
    refine (markSendS_any _ vg (pR l) (pR l).length w9 1 (by omega) (by omega) rfl (by omega) Og9.out).mono ?_
    rintro e w10 ⟨rfl, om, gr10⟩
    have d10 : Below w2.heap.size w2 w10 := d9.grown gr10 d9.size (fun b hb => (Og9.out.lt b hb).1)
    have Om := Lib.hid om
    have hmm : ((1 + 3 * ((pR l).length : Int)) != (1 + 3 * ((pR l).length : Int))) = false := by simp
    clear om gr10 d9
    go_wp2_with fail
    refine (heldSendS_any _ vg (pR l) (pR l).length w10 1 (by omega) (by omega) rfl (by omega) Om.out).mono ?_
    rintro e w' ⟨rfl, rfl⟩
    go_wp2_with fail
    refine (implPC_any s l Hl n Hn hs1 w10 (glob_kept (glob_kept Hm0.out b2) (d10.mono (Nat.le_refl _)))).mono ?_
    rintro e w12 ⟨vh, rfl, oh, bel12⟩
    have d12 : Below w2.heap.size w2 w12 := d10.trans (bel12.mono d10.size)
    have Oh := Lib.hid oh
    have Om12 := Lib.hid (own_later Om.out bel12)
    have Ow12 := Lib.hid (own_later Ow.out d12)
    clear oh bel12 d10
    go_wp2_with fail
    refine (eqSendS_own vh vw (pR l) (pR l).length (pR l).length w12 rfl rfl (by omega) Oh.out Ow12.out).mono ?_
    rintro e w13 ⟨rfl, bel13⟩
    have d13 : Below w2.heap.size w2 w13 := d12.trans (bel13.mono d12.size)
    have Om13 := Lib.hid (own_later Om12.out bel13)
    clear bel13 d12
    go_wp2_with fail
    refine (heldSendS_any _ vg (pR l) (pR l).length w13 1 (by omega) (by omega) rfl (by omega) Om13.out).mono ?_
    rintro e w' ⟨rfl, rfl⟩
    go_wp2_with fail
    go_ret
    exact ⟨rfl, b2.trans (d13.mono hW2)⟩
  · have hsI : (1048576 : Int) < (n : Int) := by omega
    go_enter Tryd.func4, Tryd.ntmps4
    go_wp2_with fail
    go_ret
    exact ⟨rfl, Below.refl _ _⟩

end Go.Proofs.YtphnpphkiiedfaaDoor
