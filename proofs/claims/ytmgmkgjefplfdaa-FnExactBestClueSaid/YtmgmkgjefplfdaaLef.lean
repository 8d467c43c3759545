/- How many lists fit the first clues: by the program. -/
import Derived.Test.YtmgmkgjefplfdaaCu
namespace Go.Proofs.Ytmgmkgjefplfdaa
open Go.ChangeShapes Go.WideShapes Go.ChangeAt Go.RowKit
set_option linter.unusedVariables false


/-- How many lists fit the first clues, for each number of them. -/
def lefS (F M : Nat) (l : List Clu) : List Int := (List.range (l.length + 1)).map fun k => ((sol F M (l.take k)).length : Int)
def lefL (f n : Int) (l : List Clu) : List Int := if goodB f n l then lefS f.toNat n.toNat l else []
theorem lefS_len (F M : Nat) (l : List Clu) : (lefS F M l).length = l.length + 1 := by simp [lefS]
theorem lefS_at (F M : Nat) (l : List Clu) (k : Nat) (h : k < l.length + 1) : na (lefS F M l) k = ((sol F M (l.take k)).length : Int) := by
  simp [na, lefS, List.getD_eq_getElem?_getD, h]
theorem lefL_len (f n : Int) (l : List Clu) : (lefL f n l).length ≤ 1048576 := by
  unfold lefL
  cases hg : goodB f n l
  · simp
  · obtain ⟨F, M, rfl, rfl, hF, hM, h6, _⟩ := good_parts hg
    simp [lefS_len]; omega
theorem lefL_good {F M : Nat} {l : List Clu} (hg : goodB (F : Int) (M : Int) l = true) : lefL (F : Int) (M : Int) l = lefS F M l := by simp [lefL, hg]
set_option maxHeartbeats 1600000 in
set_option maxRecDepth 20000 in
theorem implLef_any (w : World) (f n : Int) (gb : Nat) (cap : Nat) (l : List Clu) (N : Nat) (HN : Hid (N = l.length)) (hN : N ≤ 1048576) (hc : N ≤ cap) (Hc : CluesAt w (some ⟨gb, 0, none⟩) l) :
    Calls Try.prog 58 #[.agg #[.int .i64 f, .int .i64 n, .slice (some ⟨gb, 0, none⟩) N cap]] w fun e w' => ∃ v, e = .returned (.tuple #[v, .bool (goodB f n l)]) ∧ w'.ownsRow w.heap.size 3 1 v (lefL f n l).length (ns (lefL f n l)) ∧ Below w.heap.size w w' := by
  obtain ⟨W0, hW, hbW, hsW, rX⟩ := box1 w #[.int .i64 f, .int .i64 n, .slice (some ⟨gb, 0, none⟩) N cap] 35
  have HW := Lib.hid hW
  have HX := Lib.hid rX
  have HbW := Lib.hid hbW
  have Hc0 := Lib.hid (Hc.kept hbW)
  have c0 : W0.cell? ⟨w.heap.size, 0, none⟩ = some (.int .i64 f) := cell_of_row _ _ _ _ _ _ rX
  have c1 : W0.cell? ⟨w.heap.size, 1, none⟩ = some (.int .i64 n) := cell_of_row _ _ _ _ _ _ rX
  have c2 : W0.cell? ⟨w.heap.size, 2, none⟩ = some (.slice (some ⟨gb, 0, none⟩) N cap) := cell_of_row _ _ _ _ _ _ rX
  clear hW rX hbW Hc
  cases hg : goodB f n l
  · have HG := Lib.hid hg
    rw [show lefL f n l = [] by simp [lefL, hg]]
    clear hg
    go_enter Try.func58, Try.ntmps58
    go_wp2_with fail
    rw [HW.out]
    refine (implIsPuzzle_any W0 f n (some ⟨gb, 0, none⟩) cap l N HN hN hc Hc0.out).mono ?_
    rintro e w1 ⟨rfl, hb1⟩
    have HB := Lib.hid (HbW.out.trans (hb1.mono HbW.out.size))
    rw [HG.out]
    clear hb1 c0 c1 c2
    go_wp2_with fail
    go_ret2
    exact ⟨_, rfl, World.ownsRow_nil _ _ _ _, HB.out⟩
  · have HG := Lib.hid hg
    obtain ⟨F, M, rfl, rfl, hF, hM, h6, hm⟩ := good_parts hg
    have hN6 : N ≤ 6 := by rw [HN.out]; exact h6
    rw [lefL_good hg]
    have hlen : (lefS F M l).length = N + 1 := by rw [lefS_len, ← HN.out]
    have HAt := Lib.hid (fun k (h : k < N + 1) => lefS_at F M l k (by rw [← HN.out]; exact h))
    obtain ⟨Lf, hLf⟩ : ∃ Lf, lefS F M l = Lf := ⟨_, rfl⟩
    rw [hLf] at hlen HAt ⊢
    rw [hlen]
    have HL : Hid (N + 1 = Lf.length) := hlen.symm
    obtain ⟨i0, hi, hz0, hz1, hz2⟩ := info_parts info3
    have Hz := Lib.hid (And.intro hz0 (And.intro hz1 hz2))
    have Hm := Lib.hid hm
    clear hz0 hz1 hz2 hg hLf hlen hm h6
    obtain ⟨N1, hN1⟩ : ∃ N1, N + 1 = N1 := ⟨_, rfl⟩
    rw [hN1] at HL HAt ⊢
    have HN1 := Lib.hid hN1
    have hN17 : N1 ≤ 7 := by omega
    have hw1 : IntKind.i64.wrap ((N : Int) + 1) = (N1 : Int) := by rw [show ((N : Int) + 1) = (N1 : Int) by omega]; exact IntWalk.i64_in _ (by omega)
    clear hN1
    go_enter Try.func58, Try.ntmps58
    go_wp2_with fail
    rw [HW.out]
    refine (implIsPuzzle_any W0 (F : Int) (M : Int) (some ⟨gb, 0, none⟩) cap l N HN hN hc Hc0.out).mono ?_
    rintro e w1 ⟨rfl, hb1⟩
    have HB1 := Lib.hid (HbW.out.trans (hb1.mono HbW.out.size))
    have Hc1 := Lib.hid (Hc0.out.kept hb1)
    have HX1 := Lib.hid (row_later HX.out hb1)
    have c0 := cell_old hb1 c0
    have c1 := cell_old hb1 c1
    have c2 := cell_old hb1 c2
    have hs1 : w.heap.size ≤ w1.heap.size := HB1.out.size
    rw [HG.out]
    clear hb1
    go_wp2_with (refine wpList_make_full _ rfl _ _ 61 rfl w1.heap.size 3 i0 (.int .i64 0) 1 Try.underlying61 hi Hz.out.1 Hz.out.2.1 .i64 .i64 _ _ N1 rfl rfl rfl rfl ?_ ?_ ?_ ?_)
    · rw [Hz.out.2.2]; omega
    · unfold maxLen; omega
    · exact Nat.le_refl _
    intro w2 hown hgr
    have hown2 : w2.ownsRow w1.heap.size 3 1 (.slice (some ⟨w1.heap.size, 0, none⟩) N1 N1) N1 (ns (List.replicate N1 0)) := by rw [← zero_nums, Nat.mul_one]; simpa using hown
    have Hown0 := Lib.hid hown2
    have HB2 := Lib.hid ((Below.refl w1.heap.size w1).grown hgr (Nat.le_refl _) (fun _ h => by cases h))
    clear hown hgr hown2 c0 c1 c2
    go_wp2_with fail
    go_loopw [16] (fun i wr => ∃ q : Nat, q ≤ N1 ∧ i = .int .i64 q ∧ wr.ownsRow w1.heap.size 3 1 (.slice (some ⟨w1.heap.size, 0, none⟩) N1 N1) N1 (ns (npart Lf q)) ∧ Below w1.heap.size w1 wr) (fun i _ => N1 - (intOf i).toNat)
    case atStart => exact ⟨0, Nat.zero_le _, rfl, by rw [npart_zero, ← HL.out]; exact Hown0.out, HB2.out⟩
    case round =>
      obtain ⟨q, hq, rfl, hor, hbel⟩ := hrel
      by_cases hlt : q < N1
      · have hqN : q ≤ N := by have := HN1.out; omega
        have hat := HAt.out q hlt
        have hsz := hbel.size
        have rXr := row_later HX1.out hbel
        have x0 : wr.cell? ⟨w.heap.size, 0, none⟩ = some (.int .i64 (F : Int)) := cell_of_row _ _ _ _ _ _ rXr
        have x1 : wr.cell? ⟨w.heap.size, 1, none⟩ = some (.int .i64 (M : Int)) := cell_of_row _ _ _ _ _ _ rXr
        have x2 : wr.cell? ⟨w.heap.size, 2, none⟩ = some (.slice (some ⟨gb, 0, none⟩) N cap) := cell_of_row _ _ _ _ _ _ rXr
        have Hcr := Lib.hid (Hc1.out.kept hbel)
        have Hor := Lib.hid hor
        have Hbel := Lib.hid hbel
        have HSo := Lib.hid (fun (w3 : World) (h : CluesAt w3 (some ⟨gb, 0, none⟩) l) => solOf_any w3 F M (some ⟨gb, 0, none⟩) q q (l.take q) hF hM (Lib.hid (by rw [List.length_take, ← HN.out]; omega)) (by omega) (Lib.hid (clues_take h q)) (all_take Hm.out q))
        obtain ⟨V, hV⟩ : ∃ V, (sol F M (l.take q)).length = V := ⟨_, rfl⟩
        rw [hV] at hat
        have HV := Lib.hid hV
        have Hat := Lib.hid hat
        clear hor hbel rXr hV hat
        go_wp2_with fail
        refine (cut_first (F : Int) (M : Int) gb l N cap q wr HN hqN hc Hcr.out).mono ?_
        rintro e w3 ⟨rfl, hb3⟩
        have s3 := hb3.size
        have Hc3 := Lib.hid (Hcr.out.kept hb3)
        have Ho3 := Lib.hid (own_later Hor.out hb3)
        have Hb3 := Lib.hid (Hbel.out.trans (hb3.mono hsz))
        clear hb3
        go_wp2_with fail
        refine (HSo.out w3 Hc3.out).mono ?_
        rintro e w4 ⟨v4, X4, rfl, hO4, hb4⟩
        obtain ⟨a4, c4, hv4, _⟩ := hO4.reads
        rw [HV.out] at hv4
        subst hv4
        have ho4 := own_later Ho3.out hb4
        have Hb4 := Lib.hid (Hb3.out.trans (hb4.mono Hb3.out.size))
        obtain ⟨u0, z0⟩ := own_some ho4 q (by omega)
        have zf0 := ho4.frozenAt q
        have hor3 := (ho4.stored q (.int .i64 (V : Int))).1
        rw [ns_set, ← Hat.out, npart_set Lf q (by rw [← HL.out]; exact hlt)] at hor3
        have Hor3 := Lib.hid hor3
        have hatV := Hat.out
        rw [hatV] at Hor3
        clear hor3 ho4 hO4 hb4 hatV x0 x1 x2
        go_wp2_with fail
        go_roundw
        case rel => exact ⟨q + 1, by omega, by go_num, Hor3.out, Hb4.out.setCell (Nat.le_refl _) _⟩
        case measure => simp [intOf]; omega
      · obtain rfl : q = N1 := by omega
        have hp : npart Lf q = Lf := by rw [HL.out, npart_all]
        rw [hp] at hor
        have Hor := Lib.hid (own_base hs1 hor)
        have HB := Lib.hid (HB1.out.trans (hbel.mono hs1))
        clear hor hp
        go_wp2_with fail
        go_ret2
        exact ⟨_, rfl, Hor.out, HB.out⟩

end Go.Proofs.Ytmgmkgjefplfdaa
