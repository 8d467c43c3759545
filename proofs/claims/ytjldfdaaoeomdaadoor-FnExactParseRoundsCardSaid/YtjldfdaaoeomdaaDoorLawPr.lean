/- The walk of the law FnExactParseRounds: it answers true and turns nothing that was there. -/
import Derived.Test.YtjldfdaaoeomdaaDoorPrI
namespace Go.Proofs.YtjldfdaaoeomdaaDoor
open Go.ChangeShapes Go.WideShapes Go.ChangeAt Go.RowKit
set_option linter.unusedVariables false


set_option maxRecDepth 20000 in
theorem walkPR (W : World) (s : ByteArray) (hm0 : ∃ m : Int, W.cell? ⟨0, 0, none⟩ = some (.int .i64 m)) :
    Calls Tryd.prog 4 #[.string s] W fun e w' => e = .returned (.bool true) ∧ Below W.heap.size W w' := by
  have Hm0 := Lib.hid hm0
  clear hm0
  obtain ⟨l, hl⟩ : ∃ l, l = s.data.toList := ⟨_, rfl⟩
  have Hl := Lib.hid hl
  clear hl
  obtain ⟨n, hn⟩ : ∃ n, n = s.size := ⟨_, rfl⟩
  have Hn := Lib.hid hn
  have hsz := hn.symm
  clear hn
  by_cases hs1 : n ≤ 1048576
  · have hsI : (n : Int) ≤ 1048576 := by omega
    have hok : ((rpB l) != (rpB l)) = false := by simp
    have hlen := rpR_len l
    have HS := Lib.hid (rpR_rows l)
    have HS2 : Hid (∀ i, i < (rpR l).length → (crow (rpR l) i).length ≤ 1048576) := Lib.hid (fun i _ => HS.out i)
    have hct := cctot_le HS.out (rpR l).length
    have hcq : (cctot (rpR l) (rpR l).length : Int) ≤ 2097152 * 1048576 := by omega
    have hl1 : (rpR l).length ≤ 1048576 := by omega
    clear hct
    go_enter Tryd.func4, Tryd.ntmps4
    go_wp2_with fail
    refine (specPR_any s l Hl n Hn hs1 W Hm0).mono ?_
    rintro e w2 ⟨vw, Xw, rfl, ow, b2⟩
    have Ow := Lib.hid ow
    have hW2 := b2.size
    clear ow
    go_wp2_with fail
    refine (implPR_any s l Hl n Hn hs1 w2 (glob_kept Hm0.out b2)).mono ?_
    rintro e w4 ⟨vg, Xg, rfl, og, bel4⟩
    have d4 : Below w2.heap.size w2 w4 := bel4
    have Og := Lib.hid og
    have Ow4 := Lib.hid (Ow.out.later bel4)
    clear og bel4
    go_wp2_with fail
    refine (eqCallSS_own vg vw Xg Xw (rpR l) w4 hl1 HS2.out Og.out Ow4.out).mono ?_
    rintro e w9 ⟨rfl, bel9⟩
    have d9 : Below w2.heap.size w2 w9 := d4.trans (bel9.mono d4.size)
    have Og9 := Lib.hid (Og.out.later bel9)
    clear bel9 d4 Ow4
    go_wp2_with fail
    refine (markCallSS_any _ vg Xg (rpR l) w9 hl1 HS.out Og9.out).mono ?_
    rintro e w10 ⟨rfl, om, bel10⟩
    have d10 : Below w2.heap.size w2 w10 := d9.trans bel10
    have Om := Lib.hid om
    have hmm : ((1 + (cctot (rpR l) (rpR l).length : Int)) != (1 + (cctot (rpR l) (rpR l).length : Int))) = false := by simp
    clear om bel10 d9
    go_wp2_with fail
    refine (heldCallSS_any _ vg Xg (rpR l) w10 hl1 HS.out Om.out).mono ?_
    rintro e w' ⟨rfl, rfl⟩
    go_wp2_with fail
    refine (implPR_any s l Hl n Hn hs1 w10 (glob_kept (glob_kept Hm0.out b2) (d10.mono (Nat.le_refl _)))).mono ?_
    rintro e w12 ⟨vh, Xh, rfl, oh, bel12⟩
    have d12 : Below w2.heap.size w2 w12 := d10.trans (bel12.mono d10.size)
    have Oh := Lib.hid oh
    have Om12 := Lib.hid (Om.out.later bel12)
    have Ow12 := Lib.hid (Ow.out.later d12)
    clear oh bel12 d10
    go_wp2_with fail
    refine (eqCallSS_own vh vw Xh Xw (rpR l) w12 hl1 HS2.out Oh.out Ow12.out).mono ?_
    rintro e w13 ⟨rfl, bel13⟩
    have d13 : Below w2.heap.size w2 w13 := d12.trans (bel13.mono d12.size)
    have Om13 := Lib.hid (Om12.out.later bel13)
    clear bel13 d12
    go_wp2_with fail
    refine (heldCallSS_any _ vg Xg (rpR l) w13 hl1 HS.out Om13.out).mono ?_
    rintro e w' ⟨rfl, rfl⟩
    go_wp2_with fail
    go_ret
    exact ⟨rfl, b2.trans (d13.mono hW2)⟩
  · have hsI : (1048576 : Int) < (n : Int) := by omega
    go_enter Tryd.func4, Tryd.ntmps4
    go_wp2_with fail
    go_ret
    exact ⟨rfl, Below.refl _ _⟩

end Go.Proofs.YtjldfdaaoeomdaaDoor
