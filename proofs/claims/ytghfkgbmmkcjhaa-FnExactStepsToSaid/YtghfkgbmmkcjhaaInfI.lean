/- How many know the news: the program. -/
import Derived.Test.YtghfkgbmmkcjhaaInf
namespace Go.Proofs.Ytghfkgbmmkcjhaa
open Go.ChangeShapes Go.WideShapes Go.ChangeAt Go.RowKit
set_option linter.unusedVariables false


set_option maxHeartbeats 1600000 in
set_option maxRecDepth 20000 in
/-- informedAt, as long as nothing is too large. -/
theorem informed_any (w : World) (d M : Nat) (h1 : 1 ≤ d) (h10 : d ≤ 10) (hM : M ≤ 2000000) (Hb : Hid (∀ j, j ≤ M → inf d j ≤ 2305843009213693952)) :
    Calls Try.prog 55 #[.int .i64 (d : Int), .int .i64 (M : Int)] w fun e w' => e = .returned (.int .i64 (inf d M : Int)) ∧ Below w.heap.size w w' := by
  obtain ⟨i0, hi, hz0, hz1, hz2⟩ := info_parts info3
  have Hz := Lib.hid (And.intro hz0 (And.intro hz1 hz2))
  clear hz0 hz1 hz2
  have hm1 : IntKind.i64.wrap ((M : Int) + 1) = ((M + 1 : Nat) : Int) := by rw [IntWalk.i64_in _ (by omega)]; omega
  go_enter Try.func55, Try.ntmps55
  go_wp2_with (refine wpList_make_full _ rfl _ _ 36 rfl w.heap.size 3 i0 (.int .i64 0) 1 Try.underlying36 hi Hz.out.1 Hz.out.2.1 .i64 .i64 _ _ (M + 1) ?_ ?_ rfl rfl ?_ ?_ ?_ ?_)
  · rw [show ((M : Int) + 1) = ((M + 1 : Nat) : Int) by omega]; rfl
  · rw [show ((M : Int) + 1) = ((M + 1 : Nat) : Int) by omega]; rfl
  · rw [Hz.out.2.2]; omega
  · unfold maxLen; omega
  · exact Nat.le_refl _
  intro w1 hown hgr
  obtain ⟨g, hg⟩ : ∃ g, w.heap.size = g := ⟨_, rfl⟩
  have hgw : w.heap.size ≤ g := by omega
  have own1 : w1.ownsRow g 3 1 (.slice (some ⟨g, 0, none⟩) (M + 1) (M + 1)) (M + 1) (ns (il d M 0)) := by
    rw [il_zero, ← zero_nums, Nat.mul_one, ← hg]; simpa using hown
  have own2 := (own1.stored 0 (.int .i64 (inf d 0 : Int))).1
  rw [ns_set, il_set d M 0 (by omega)] at own2
  obtain ⟨u0, z0⟩ := own_some own1 0 (by omega)
  have zf0 := own1.frozenAt 0
  have hb1 : Below w.heap.size w w1 := (Below.refl _ _).grown hgr (Nat.le_refl _) (fun _ h => by cases h)
  rw [inf_lo (show 0 < d by omega)] at own2
  have Own := Lib.hid own2
  have Bel : Hid (Below w.heap.size w (w1.setCell ⟨g, 0, none⟩ (.int .i64 1))) := hb1.setCell (p := ⟨g, 0, none⟩) hgw _
  rw [hg]
  clear hown hgr own1 own2 hb1 hg
  go_wp2_with fail
  go_loopw [6] (fun i wr => ∃ m : Nat, 1 ≤ m ∧ m ≤ M + 1 ∧ i = .int .i64 m ∧ wr.ownsRow g 3 1 (.slice (some ⟨g, 0, none⟩) (M + 1) (M + 1)) (M + 1) (ns (il d M m)) ∧ Below w.heap.size w wr) (fun i _ => M + 1 - (intOf i).toNat)
  case atStart => exact ⟨1, Nat.le_refl _, by omega, rfl, Own.out, Bel.out⟩
  case round =>
    obtain ⟨m, hm1', hm2, rfl, hor, hbel⟩ := hrel
    clear Own Bel z0 zf0
    obtain ⟨q, rfl⟩ : ∃ q, m = q + 1 := ⟨m - 1, by omega⟩
    by_cases hlt : q + 1 ≤ M
    · have c0 := hor.cellAt q (by omega)
      rw [ns_get _ q (by rw [il_length]; omega), il_get d M (q + 1) q (by omega), if_pos (by omega)] at c0
      obtain ⟨u1, z1⟩ := own_some hor (q + 1) (by omega)
      have zf1 := hor.frozenAt (q + 1)
      have own3 := (hor.stored (q + 1) (.int .i64 (inf d q : Int))).1
      rw [ns_set] at own3
      have hq1 : ((q + 1 : Nat) : Int) - 1 = (q : Int) := by omega
      have hle : decide (((q + 1 : Nat) : Int) ≤ (M : Int)) = true := by simp only [decide_eq_true_eq]; omega
      have hb3 : Below w.heap.size w (wr.setCell ⟨g, q + 1, none⟩ (.int .i64 (inf d q : Int))) := hbel.setCell (p := ⟨g, q + 1, none⟩) hgw _
      have hbq := Hb.out q (by omega)
      have hbq1 := Hb.out (q + 1) (by omega)
      have hp0 : (0 : Int) ≤ (q : Int) := by omega
      have hp1 : (q : Int) < ((M + 1 : Nat) : Int) := by omega
      have hp2 : (0 : Int) ≤ ((q + 1 : Nat) : Int) := by omega
      have hp3 : ((q + 1 : Nat) : Int) < ((M + 1 : Nat) : Int) := by omega
      by_cases hd : q + 1 < d
      · have hge : decide (((q + 1 : Nat) : Int) ≥ (d : Int)) = false := by simp only [decide_eq_false_iff_not]; omega
        rw [inf_lo (show q < d by omega)] at own3 c0 hb3
        have own4 : (wr.setCell ⟨g, q + 1, none⟩ (.int .i64 1)).ownsRow g 3 1 (.slice (some ⟨g, 0, none⟩) (M + 1) (M + 1)) (M + 1) (ns (il d M (q + 1 + 1))) := by
          rw [← il_set d M (q + 1) hlt, inf_lo hd]; exact own3
        have Own4 := Lib.hid own4
        have Bel3 := Lib.hid hb3
        clear own3 own4 hb3 hbq hbq1 hor hbel
        go_wp2_with fail
        go_roundw
        case rel => exact ⟨q + 1 + 1, by omega, by omega, by go_num, Own4.out, Bel3.out⟩
        case measure => simp [intOf]; omega
      · have hge : decide (((q + 1 : Nat) : Int) ≥ (d : Int)) = true := by simp only [decide_eq_true_eq]; omega
        have hsum := inf_hi h1 (t := q + 1) (by omega)
        rw [Nat.add_sub_cancel] at hsum
        obtain ⟨r, hr⟩ : ∃ r, q + 1 - d = r := ⟨_, rfl⟩
        have hrq : r < q + 1 := by omega
        have hri : ((q + 1 : Nat) : Int) - (d : Int) = (r : Int) := by omega
        rw [hr] at hsum
        have d0 := own3.cellAt r (by omega)
        rw [ns_get _ r (by rw [List.length_set, il_length]; omega)] at d0
        have e0 : na ((il d M (q + 1)).set (q + 1) (inf d q : Int)) r = (inf d r : Int) := by
          have := il_get d M (q + 1) r (by omega)
          rw [if_pos hrq] at this
          rw [← this, na, na, List.getD_eq_getElem?_getD, List.getD_eq_getElem?_getD, List.getElem?_set_ne (by omega)]
        rw [e0] at d0
        have d2 := hor.cellAt r (by omega)
        rw [ns_get _ r (by rw [il_length]; omega), il_get d M (q + 1) r (by omega), if_pos hrq] at d2
        have d1 := own3.cellAt (q + 1) (by omega)
        rw [ns_get _ (q + 1) (by rw [List.length_set, il_length]; omega)] at d1
        have e1 : na ((il d M (q + 1)).set (q + 1) (inf d q : Int)) (q + 1) = (inf d q : Int) := by
          rw [na, List.getD_eq_getElem?_getD, List.getElem?_set_self (by rw [il_length]; omega)]; rfl
        rw [e1] at d1
        have zf2 := own3.frozenAt (q + 1)
        have own4 := (own3.stored (q + 1) (.int .i64 (inf d (q + 1) : Int))).1
        rw [ns_set, il_set2 d M (q + 1) _ hlt] at own4
        have hb4 : Below w.heap.size w ((wr.setCell ⟨g, q + 1, none⟩ (.int .i64 (inf d q : Int))).setCell ⟨g, q + 1, none⟩ (.int .i64 (inf d (q + 1) : Int))) := hb3.setCell (p := ⟨g, q + 1, none⟩) hgw _
        have es : ((inf d (q + 1) : Nat) : Int) = (inf d q : Int) + (inf d r : Int) := by rw [hsum]; push_cast; rfl
        have hrb := Hb.out r (by omega)
        rw [es] at own4 hb4
        obtain ⟨A, hA⟩ : ∃ A, inf d q = A := ⟨_, rfl⟩
        obtain ⟨B, hB⟩ : ∃ B, inf d r = B := ⟨_, rfl⟩
        rw [hA] at c0 own3 d1 own4 hb3 hb4 hbq
        rw [hB] at d0 d2 own4 hb4 hrb
        have hsw : IntKind.i64.wrap ((A : Int) + (B : Int)) = (A : Int) + (B : Int) := IntWalk.i64_in _ (by omega)
        have hr0 : (0 : Int) ≤ (r : Int) := by omega
        have hr1 : (r : Int) < ((M + 1 : Nat) : Int) := by omega
        obtain ⟨w3, hw3⟩ : ∃ w3, wr.setCell ⟨g, q + 1, none⟩ (.int .i64 (A : Int)) = w3 := ⟨_, rfl⟩
        have D0 := d0
        have D1 := d1
        have Own4 := Lib.hid own4
        have Bel4 := Lib.hid hb4
        clear own3 own4 hb3 hb4 hbq hbq1 hor hbel e0 e1 hsum es hA hB hw3
        subst hr
        go_wp2_with fail
        go_region
        all_goals
          go_wp2_with fail
          go_roundw
          case rel => exact ⟨q + 1 + 1, by omega, by omega, by go_num, Own4.out.drew, Bel4.out.drew⟩
          case measure => simp [intOf]; omega
    · obtain rfl : q = M := by omega
      have c0 := hor.cellAt q (by omega)
      rw [ns_get _ q (by rw [il_length]; omega), il_get d q (q + 1) q (by omega), if_pos (by omega)] at c0
      have hle : decide (((q + 1 : Nat) : Int) ≤ (q : Int)) = false := by simp only [decide_eq_false_iff_not]; omega
      have hp0 : (0 : Int) ≤ (q : Int) := by omega
      have hp1 : (q : Int) < ((q + 1 : Nat) : Int) := by omega
      have Hbel := Lib.hid hbel
      clear hor hbel
      go_wp2_with fail
      go_ret
      exact ⟨rfl, Hbel.out⟩

end Go.Proofs.Ytghfkgbmmkcjhaa
