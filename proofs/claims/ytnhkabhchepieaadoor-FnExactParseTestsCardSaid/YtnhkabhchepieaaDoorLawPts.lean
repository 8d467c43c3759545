/- The walk of the law FnExactParseTests. -/
import Derived.Test.YtnhkabhchepieaaDoorPtS3
import Derived.Test.YtnhkabhchepieaaDoorRows2
namespace Go.Proofs.YtnhkabhchepieaaDoor
open Go.ChangeShapes Go.WideShapes Go.ChangeAt Go.RowKit
set_option linter.unusedVariables false


theorem pR_rows1000 (l : List UInt8) : ∀ i, (row (pR l) i).length ≤ 1000 := by
  intro i
  by_cases hi : i < (pR l).length
  · unfold pR at hi ⊢
    split
    · rw [if_pos (by assumption)] at hi; simp at hi
    · split
      · rename_i h0 h
        rw [if_neg h0, if_pos h] at hi
        simp only [mOK, Bool.and_eq_true] at h
        have := (wi_row h.2.1 hi).2.2
        omega
      · rename_i h0 h
        rw [if_neg h0, if_neg h] at hi; simp at hi
  · have e : row (pR l) i = [] := by simp [row, List.getD_eq_getElem?_getD, Nat.le_of_not_lt hi]
    rw [e]; simp
set_option maxHeartbeats 1600000 in
set_option maxRecDepth 20000 in
theorem walkPts (W : World) (s : ByteArray) (ws : s.size ≤ maxLen) (hm0 : ∃ m : Int, W.cell? ⟨0, 0, none⟩ = some (.int .i64 m)) :
    Calls Tryd.prog 4 #[.string s] W fun e w' => e = .returned (.bool true) ∧ Below W.heap.size W w' := by
  have Hm0 : Hid (GlobOk W) := Lib.hid hm0
  clear hm0
  obtain ⟨l, hl⟩ : ∃ l, l = s.data.toList := ⟨_, rfl⟩
  have Hl := Lib.hid hl
  clear hl
  obtain ⟨n, hn⟩ : ∃ n, n = s.size := ⟨_, rfl⟩
  have Hn := Lib.hid hn
  have hsz := hn.symm
  clear hn
  by_cases hs1 : n ≤ 1048576
  · have hsI : (n : Int) ≤ 1048576 := by omega
    have hok : ((pB l) != (pB l)) = false := by simp
    have hlen : (pR l).length ≤ 1000 := Nat.le_trans (pR_length l) (by decide)
    have HRr := Lib.hid (pR_rows1000 l)
    have HRr2 : Hid (∀ i, i < (pR l).length → (row (pR l) i).length ≤ 1048576) := Lib.hid (fun i _ => Nat.le_trans (HRr.out i) (by omega))
    obtain ⟨R, hR⟩ : ∃ R, R = pR l := ⟨_, rfl⟩
    obtain ⟨B, hB⟩ : ∃ B, B = pB l := ⟨_, rfl⟩
    have HI : Hid (∀ w : World, GlobOk w → Calls Tryd.prog 14 #[.string s] w fun e w' => ∃ v X, e = .returned (.tuple #[v, .bool B]) ∧ OwnSS w' w.heap.size v X R ∧ Below w.heap.size w w') := Lib.hid (fun w hG => by rw [hR, hB]; exact implPts_any s l Hl n Hn hs1 w hG)
    have HSp : Hid (Calls Tryd.prog 13 #[.string s] W fun e w' => ∃ v X, e = .returned (.tuple #[v, .bool B]) ∧ OwnSS w' W.heap.size v X R ∧ Below W.heap.size W w') := Lib.hid (by rw [hR, hB]; exact specPts_any s l Hl n Hn W)
    rw [← hB] at hok
    rw [← hR] at hlen HRr HRr2
    clear hR hB
    have hmm : ((1 + (ctot R R.length : Int)) != (1 + (ctot R R.length : Int))) = false := by simp
    have hct : decide ((1 + (ctot R R.length : Int)) < 0) = false := by simp; omega
    go_enter Tryd.func4, Tryd.ntmps4
    go_wp2_with fail
    refine HSp.out.mono ?_
    rintro e w2 ⟨vw, Xw, rfl, ow, b2⟩
    have Ow := Lib.hid ow
    have hW2 := b2.size
    clear ow
    go_wp2_with fail
    refine (HI.out w2 (Hm0.out.kept b2)).mono ?_
    rintro e w4 ⟨vg, Xg, rfl, og, bel4⟩
    have d4 : Below w2.heap.size w2 w4 := bel4
    have Og := Lib.hid og
    have Ow4 := Lib.hid (Ow.out.later bel4)
    clear og bel4
    go_wp2_with fail
    refine (eqIntSS_own vg vw Xg Xw R w4 (by omega) HRr2.out Og.out Ow4.out).mono ?_
    rintro e w9 ⟨rfl, bel9⟩
    have d9 : Below w2.heap.size w2 w9 := d4.trans (bel9.mono d4.size)
    have Og9 := Lib.hid (Og.out.later bel9)
    clear bel9 d4 Ow4
    go_wp2_with fail
    refine (markIntSS_any _ vg Xg R w9 hlen HRr.out Og9.out).mono ?_
    rintro e w10 ⟨rfl, om, gr10⟩
    have d10 : Below w2.heap.size w2 w10 := d9.trans gr10
    have Om := Lib.hid om
    clear om gr10 d9
    go_wp2_with fail
    refine (heldIntSS_any _ vg Xg R w10 hlen HRr.out Om.out).mono ?_
    rintro e w' ⟨rfl, rfl⟩
    go_wp2_with fail
    refine (HI.out w10 ((Hm0.out.kept b2).kept d10)).mono ?_
    rintro e w12 ⟨vh, Xh, rfl, oh, bel12⟩
    have d12 : Below w2.heap.size w2 w12 := d10.trans (bel12.mono d10.size)
    have Oh := Lib.hid oh
    have Om12 := Lib.hid (Om.out.later bel12)
    have Ow12 := Lib.hid (Ow.out.later d12)
    clear oh bel12 d10
    go_wp2_with fail
    refine (eqIntSS_own vh vw Xh Xw R w12 (by omega) HRr2.out Oh.out Ow12.out).mono ?_
    rintro e w13 ⟨rfl, bel13⟩
    have d13 : Below w2.heap.size w2 w13 := d12.trans (bel13.mono d12.size)
    have Om13 := Lib.hid (Om12.out.later bel13)
    clear bel13 d12
    go_wp2_with fail
    refine (heldIntSS_any _ vg Xg R w13 hlen HRr.out Om13.out).mono ?_
    rintro e w' ⟨rfl, rfl⟩
    go_wp2_with fail
    go_ret
    exact ⟨rfl, b2.trans (d13.mono hW2)⟩
  · have hsI : (1048576 : Int) < (n : Int) := by omega
    go_enter Tryd.func4, Tryd.ntmps4
    go_wp2_with fail
    go_ret
    exact ⟨rfl, Below.refl _ _⟩

end Go.Proofs.YtnhkabhchepieaaDoor
