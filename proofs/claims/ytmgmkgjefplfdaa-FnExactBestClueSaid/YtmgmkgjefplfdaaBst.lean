/- BestClue: by the program. -/
import Derived.Test.YtmgmkgjefplfdaaLef
import Derived.Test.YtmgmkgjefplfdaaVi2
namespace Go.Proofs.Ytmgmkgjefplfdaa
open Go.ChangeShapes Go.WideShapes Go.ChangeAt Go.RowKit
set_option linter.unusedVariables false


def op2 (mx : Bool) (a b : Int) : Int := if mx then max a b else min a b
def foF (mx : Bool) (F : Int → Int) : Nat → Int
  | 0 => F 0
  | k + 1 => op2 mx (foF mx F k) (F ((k + 1 : Nat) : Int))
/-- Where the least of the first numbers first comes. -/
def ixF (F : Int → Int) : Nat → Nat
  | 0 => 0
  | k + 1 => if F ((k + 1 : Nat) : Int) < foF false F k then k + 1 else ixF F k
theorem ixF_all (F : Int → Int) : ∀ k, ixF F k ≤ k ∧ F ((ixF F k : Nat) : Int) = foF false F k ∧ (∀ j : Nat, j ≤ k → foF false F k ≤ F (j : Int)) ∧ ∀ j : Nat, j < ixF F k → foF false F k < F (j : Int)
  | 0 => by
    refine ⟨Nat.le_refl _, rfl, fun j hj => ?_, fun j hj => absurd hj (Nat.not_lt_zero _)⟩
    obtain rfl : j = 0 := by omega
    exact Int.le_refl _
  | k + 1 => by
    obtain ⟨h1, h2, h3, h4⟩ := ixF_all F k
    have hm : foF false F (k + 1) = min (foF false F k) (F ((k + 1 : Nat) : Int)) := rfl
    obtain ⟨x, hx⟩ : ∃ x, F ((k + 1 : Nat) : Int) = x := ⟨_, rfl⟩
    by_cases h : F ((k + 1 : Nat) : Int) < foF false F k
    · have hi : ixF F (k + 1) = k + 1 := by show (if _ then _ else _) = _; rw [if_pos h]
      rw [hi, hm, hx]
      rw [hx] at h
      refine ⟨Nat.le_refl _, by omega, fun j hj => ?_, fun j hj => ?_⟩
      · by_cases e : j = k + 1
        · subst e; rw [hx]; omega
        · have := h3 j (by omega); omega
      · have := h3 j (by omega); omega
    · have hi : ixF F (k + 1) = ixF F k := by show (if _ then _ else _) = _; rw [if_neg h]
      rw [hi, hm, hx]
      rw [hx] at h
      refine ⟨by omega, by rw [h2]; omega, fun j hj => ?_, fun j hj => ?_⟩
      · by_cases e : j = k + 1
        · subst e; rw [hx]; omega
        · have := h3 j (by omega); omega
      · have := h4 j hj; omega
/-- How many lists fit each clue alone, for each of them. -/
def onS (F M : Nat) (l : List Clu) : List Int := (List.range l.length).map fun k => ((sol F M ((l.drop k).take 1)).length : Int)
def naF (L : List Int) (z : Int) : Int := na L z.toNat
theorem naF_nat (L : List Int) (k : Nat) : naF L (k : Int) = na L k := rfl
theorem onS_len (F M : Nat) (l : List Clu) : (onS F M l).length = l.length := by simp [onS]
theorem onS_at (F M : Nat) (l : List Clu) (k : Nat) (h : k < l.length) : na (onS F M l) k = ((sol F M ((l.drop k).take 1)).length : Int) := by
  simp [na, onS, List.getD_eq_getElem?_getD, h]
def bstB (f n : Int) (l : List Clu) : Bool := goodB f n l && !(l.length == 0)
def bstV (f n : Int) (l : List Clu) : Int := if bstB f n l then ((ixF (naF (onS f.toNat n.toNat l)) (l.length - 1) : Nat) : Int) else 0
theorem fi_ix (L : List Int) (k : Nat) (h : L.length = k + 1) : fi L (foF false (naF L) k) = ((ixF (naF L) k : Nat) : Int) := by
  obtain ⟨h1, h2, _, h4⟩ := ixF_all (naF L) k
  refine fi_found (by omega) (fun j hj e => ?_) (by rw [naF_nat] at h2; exact h2)
  have := h4 j hj
  rw [naF_nat] at this
  omega
theorem clues_one {w : World} {b : Nat} {l : List Clu} (h : CluesAt w (some ⟨b, 0, none⟩) l) (q : Nat) (hq : q < l.length) : CluesAt w (some ⟨b, q * 4, none⟩) ((l.drop q).take 1) := by
  rcases h with h | ⟨b', off, e, hs⟩
  · subst h; simp at hq
  · cases e
    refine .inr ⟨b, q * 4, rfl, fun i hi => ?_⟩
    have h1 := clues_sub rfl hs (i := q) (j := q + 1) (by omega) (by omega) i (by rw [List.length_take] at hi; omega)
    rw [show q + 1 - q = 1 by omega] at h1
    simpa using h1
theorem one_len {l : List Clu} (q : Nat) (hq : q < l.length) : 1 = ((l.drop q).take 1).length := by rw [List.length_take, List.length_drop]; omega
theorem all_one {l : List Clu} {p : Clu → Bool} (h : l.all p = true) (q : Nat) : ((l.drop q).take 1).all p = true := by
  rw [List.all_eq_true] at h ⊢
  exact fun c hc => h c (List.mem_of_mem_drop (List.mem_of_mem_take hc))
/-- One clue of a puzzle. -/
theorem cut_one (f n : Int) (b : Nat) (N cap q : Nat) (w : World) (hj : q < N) (hc : N ≤ cap) :
    Calls Try.prog 91 #[.agg #[.int .i64 f, .int .i64 n, .slice (some ⟨b, 0, none⟩) N cap], .int .i64 (q : Int), .int .i64 ((q : Int) + 1)] w fun e w' => e = .returned (.agg #[.int .i64 f, .int .i64 n, .slice (some ⟨b, q * 4, none⟩) 1 1]) ∧ Below w.heap.size w w' := by
  have h := cut_pos f n b 0 N cap q (q + 1) (q * 4) w (by omega) (by omega) hc (by simp)
  rw [show q + 1 - q = 1 by omega, show ((q + 1 : Nat) : Int) = (q : Int) + 1 by omega] at h
  exact h

theorem min_pos (g cap : Nat) (F : Int → Int) (n : Nat) (w : World) (hn0 : 1 ≤ n) (hn : n ≤ 1048576) (Hc : Hid (∀ i : Nat, i < n → w.cell? ⟨g, i, none⟩ = some (.int .i64 (F i)))) :
    Calls Try.prog 94 #[.slice (some ⟨g, 0, none⟩) n cap] w fun e w' => e = .returned (.int .i64 (foF false F (n - 1))) ∧ w = w' := by
  have c0 := Hc.out 0 (by omega)
  have hlt : decide ((n : Int) < 1) = false := by simp; omega
  have hp0 : (0 : Int) < (n : Int) := by omega
  go_enter Try.func94, Try.ntmps94
  go_wp2_with fail
  go_loop [3, 4] (fun m i => ∃ k : Nat, 1 ≤ k ∧ k ≤ n ∧ i = .int .i64 k ∧ m = .int .i64 (foF false F (k - 1))) (fun _ i => n - (intOf i).toNat)
  case atStart => exact ⟨1, Nat.le_refl _, hn0, rfl, rfl⟩
  case round =>
    obtain ⟨k, hk1, hk, rfl, rfl⟩ := hrel
    clear c0 hp0
    by_cases h : k < n
    · have hc := Hc.out k h
      have hp0 : (0 : Int) ≤ (k : Int) := by omega
      have hp1 : (k : Int) < (n : Int) := by omega
      obtain ⟨q, rfl⟩ : ∃ q, k = q + 1 := ⟨k - 1, by omega⟩
      have hmx : foF false F (q + 1) = op2 false (foF false F q) (F ((q + 1 : Nat) : Int)) := rfl
      rw [Nat.add_sub_cancel]
      obtain ⟨x, hx⟩ : ∃ x, F ((q + 1 : Nat) : Int) = x := ⟨_, rfl⟩
      obtain ⟨y, hy⟩ : ∃ y, foF false F q = y := ⟨_, rfl⟩
      rw [hx] at hc hmx
      rw [hy] at hmx
      rw [hy]
      by_cases hle : y ≤ x
      · have hm : op2 false y x = y := by unfold op2; simp; omega
        rw [hm] at hmx
        have Hmx := Lib.hid hmx
        clear hmx
        go_wp2_with fail
        go_round
        case rel => exact ⟨q + 1 + 1, by omega, by omega, by go_num, by rw [Nat.add_sub_cancel, Hmx.out] <;> (congr 1 <;> omega)⟩
        case measure => simp [intOf]; omega
      · have hm : op2 false y x = x := by unfold op2; simp; omega
        rw [hm] at hmx
        have Hmx := Lib.hid hmx
        clear hmx
        go_wp2_with fail
        go_round
        case rel => exact ⟨q + 1 + 1, by omega, by omega, by go_num, by rw [Nat.add_sub_cancel, Hmx.out] <;> (congr 1 <;> omega)⟩
        case measure => simp [intOf]; omega
    · obtain rfl : k = n := by omega
      go_wp2_with fail
      go_ret
      exact ⟨rfl, rfl⟩
set_option maxHeartbeats 1000000 in
set_option maxRecDepth 20000 in
theorem implBst_any (w : World) (f n : Int) (gb : Nat) (cap : Nat) (l : List Clu) (N : Nat) (HN : Hid (N = l.length)) (hN : N ≤ 1048576) (hc : N ≤ cap) (Hc : CluesAt w (some ⟨gb, 0, none⟩) l) :
    Calls Try.prog 60 #[.agg #[.int .i64 f, .int .i64 n, .slice (some ⟨gb, 0, none⟩) N cap]] w fun e w' => e = .returned (.tuple #[.int .i64 (bstV f n l), .bool (bstB f n l)]) ∧ Below w.heap.size w w' := by
  obtain ⟨W0, hW, hbW, hsW, rX⟩ := box1 w #[.int .i64 f, .int .i64 n, .slice (some ⟨gb, 0, none⟩) N cap] 35
  have HW := Lib.hid hW
  have HX := Lib.hid rX
  have HbW := Lib.hid hbW
  have Hc0 := Lib.hid (Hc.kept hbW)
  have c0 : W0.cell? ⟨w.heap.size, 0, none⟩ = some (.int .i64 f) := cell_of_row _ _ _ _ _ _ rX
  have c1 : W0.cell? ⟨w.heap.size, 1, none⟩ = some (.int .i64 n) := cell_of_row _ _ _ _ _ _ rX
  have c2 : W0.cell? ⟨w.heap.size, 2, none⟩ = some (.slice (some ⟨gb, 0, none⟩) N cap) := cell_of_row _ _ _ _ _ _ rX
  clear hW rX hbW Hc
  by_cases hb : bstB f n l = true
  case neg =>
    have hbf : bstB f n l = false := by simpa using hb
    have HV : Hid (bstV f n l = 0) := by show _ = _; unfold bstV; rw [hbf]; rfl
    have HG := Lib.hid hbf
    have hN0 : goodB f n l = true → N = 0 := by
      intro hg
      have := hbf
      unfold bstB at this
      rw [hg, ← HN.out] at this
      simpa using this
    go_enter Try.func60, Try.ntmps60
    go_wp2_with fail
    rw [HW.out]
    refine (implIsPuzzle_any W0 f n (some ⟨gb, 0, none⟩) cap l N HN hN hc Hc0.out).mono ?_
    rintro e w1 ⟨rfl, hb1⟩
    have HB := Lib.hid (HbW.out.trans (hb1.mono HbW.out.size))
    have c2 := cell_old hb1 c2
    cases hg : goodB f n l
    · clear hb1 c0 c1 hb hbf hN0
      go_wp2_with fail
      go_ret2
      exact ⟨by rw [HV.out, HG.out] <;> rfl, HB.out⟩
    · obtain rfl : N = 0 := hN0 hg
      clear hb1 c0 c1 hb hbf hN0
      go_wp2_with fail
      go_ret2
      exact ⟨by rw [HV.out, HG.out] <;> rfl, HB.out⟩
  case pos =>
    have hg : goodB f n l = true := by unfold bstB at hb; simp at hb; exact hb.1
    have hN1 : 1 ≤ N := by
      unfold bstB at hb
      rw [hg, ← HN.out] at hb
      have : ¬ N = 0 := by simpa using hb
      omega
    have HG := Lib.hid hg
    have HbB := Lib.hid hb
    obtain ⟨F, M, rfl, rfl, hF, hM, h6, hm⟩ := good_parts hg
    have hN6 : N ≤ 6 := by rw [HN.out]; exact h6
    have hlen : (onS F M l).length = N := by rw [onS_len, ← HN.out]
    have HAt := Lib.hid (fun k (h : k < N) => onS_at F M l k (by rw [← HN.out]; exact h))
    have HV : Hid (bstV (F : Int) (M : Int) l = ((ixF (naF (onS F M l)) (N - 1) : Nat) : Int)) := by show _ = _; unfold bstV; rw [if_pos hb, ← HN.out]; rfl
    obtain ⟨Lf, hLf⟩ : ∃ Lf, onS F M l = Lf := ⟨_, rfl⟩
    rw [hLf] at hlen HAt HV
    have HL : Hid (N = Lf.length) := hlen.symm
    obtain ⟨i0, hi, hz0, hz1, hz2⟩ := info_parts info3
    have Hz := Lib.hid (And.intro hz0 (And.intro hz1 hz2))
    have Hm := Lib.hid hm
    clear hz0 hz1 hz2 hg hLf hlen hm h6 hb
    go_enter Try.func60, Try.ntmps60
    go_wp2_with fail
    rw [HW.out]
    refine (implIsPuzzle_any W0 (F : Int) (M : Int) (some ⟨gb, 0, none⟩) cap l N HN hN hc Hc0.out).mono ?_
    rintro e w1 ⟨rfl, hb1⟩
    have HB1 := Lib.hid (HbW.out.trans (hb1.mono HbW.out.size))
    have Hc1 := Lib.hid (Hc0.out.kept hb1)
    have HX1 := Lib.hid (row_later HX.out hb1)
    have c0 := cell_old hb1 c0
    have c1 := cell_old hb1 c1
    have c2 := cell_old hb1 c2
    have hs1 : w.heap.size ≤ w1.heap.size := HB1.out.size
    rw [HG.out]
    clear hb1
    have hne : ((N : Int) == 0) = false := by simp; omega
    go_wp2_with (refine wpList_make_full _ rfl _ _ 61 rfl w1.heap.size 3 i0 (.int .i64 0) 1 Try.underlying61 hi Hz.out.1 Hz.out.2.1 .i64 .i64 _ _ N rfl rfl rfl rfl ?_ ?_ ?_ ?_)
    · rw [Hz.out.2.2]; omega
    · unfold maxLen; omega
    · exact Nat.le_refl _
    intro w2 hown hgr
    have hown2 : w2.ownsRow w1.heap.size 3 1 (.slice (some ⟨w1.heap.size, 0, none⟩) N N) N (ns (List.replicate N 0)) := by rw [← zero_nums, Nat.mul_one]; simpa using hown
    have Hown0 := Lib.hid hown2
    have HB2 := Lib.hid ((Below.refl w1.heap.size w1).grown hgr (Nat.le_refl _) (fun _ h => by cases h))
    clear hown hgr hown2 c0 c1 c2 hne
    go_wp2_with fail
    go_loopw [21] (fun i wr => ∃ q : Nat, q ≤ N ∧ i = .int .i64 q ∧ wr.ownsRow w1.heap.size 3 1 (.slice (some ⟨w1.heap.size, 0, none⟩) N N) N (ns (npart Lf q)) ∧ Below w1.heap.size w1 wr) (fun i _ => N - (intOf i).toNat)
    case atStart => exact ⟨0, Nat.zero_le _, rfl, by rw [npart_zero, ← HL.out]; exact Hown0.out, HB2.out⟩
    case round =>
      obtain ⟨q, hq, rfl, hor, hbel⟩ := hrel
      by_cases hlt : q < N
      · have hat := HAt.out q hlt
        have hsz := hbel.size
        have rXr := row_later HX1.out hbel
        have x0 : wr.cell? ⟨w.heap.size, 0, none⟩ = some (.int .i64 (F : Int)) := cell_of_row _ _ _ _ _ _ rXr
        have x1 : wr.cell? ⟨w.heap.size, 1, none⟩ = some (.int .i64 (M : Int)) := cell_of_row _ _ _ _ _ _ rXr
        have x2 : wr.cell? ⟨w.heap.size, 2, none⟩ = some (.slice (some ⟨gb, 0, none⟩) N cap) := cell_of_row _ _ _ _ _ _ rXr
        have Hcr := Lib.hid (Hc1.out.kept hbel)
        have Hor := Lib.hid hor
        have Hbel := Lib.hid hbel
        have hqL : q < l.length := by rw [← HN.out]; exact hlt
        have HSo := Lib.hid (fun (w3 : World) (h : CluesAt w3 (some ⟨gb, 0, none⟩) l) => solOf_any w3 F M (some ⟨gb, q * 4, none⟩) 1 1 ((l.drop q).take 1) hF hM (Lib.hid (one_len q hqL)) (by omega) (Lib.hid (clues_one h q hqL)) (all_one Hm.out q))
        obtain ⟨V, hV⟩ : ∃ V, (sol F M ((l.drop q).take 1)).length = V := ⟨_, rfl⟩
        rw [hV] at hat
        have HV2 := Lib.hid hV
        have Hat := Lib.hid hat
        clear hor hbel rXr hV hat
        go_wp2_with fail
        refine (cut_one (F : Int) (M : Int) gb N cap q wr hlt hc).mono ?_
        rintro e w3 ⟨rfl, hb3⟩
        have s3 := hb3.size
        have Hc3 := Lib.hid (Hcr.out.kept hb3)
        have Ho3 := Lib.hid (own_later Hor.out hb3)
        have Hb3 := Lib.hid (Hbel.out.trans (hb3.mono hsz))
        clear hb3
        go_wp2_with fail
        refine (HSo.out w3 Hc3.out).mono ?_
        rintro e w4 ⟨v4, X4, rfl, hO4, hb4⟩
        obtain ⟨a4, c4, hv4, _⟩ := hO4.reads
        rw [HV2.out] at hv4
        subst hv4
        have ho4 := own_later Ho3.out hb4
        have Hb4 := Lib.hid (Hb3.out.trans (hb4.mono Hb3.out.size))
        obtain ⟨u0, z0⟩ := own_some ho4 q (by omega)
        have zf0 := ho4.frozenAt q
        have hor3 := (ho4.stored q (.int .i64 (V : Int))).1
        rw [ns_set, ← Hat.out, npart_set Lf q (by rw [← HL.out]; exact hlt)] at hor3
        have Hor3 := Lib.hid hor3
        have hatV := Hat.out
        rw [hatV] at Hor3
        clear hor3 ho4 hO4 hb4 hatV x0 x1 x2
        go_wp2_with fail
        go_roundw
        case rel => exact ⟨q + 1, by omega, by go_num, Hor3.out, Hb4.out.setCell (Nat.le_refl _) _⟩
        case measure => simp [intOf]; omega
      · obtain rfl : q = N := by omega
        have hp : npart Lf q = Lf := by rw [HL.out, npart_all]
        rw [hp] at hor
        have HB := Lib.hid (HB1.out.trans (hbel.mono hs1))
        have HC := Lib.hid (fun i (hi : i < q) => (show wr.cell? ⟨w1.heap.size, i, none⟩ = some (.int .i64 (na Lf i)) by have h1 := hor.cellAt i (by omega); rw [ns_get Lf i (by rw [← HL.out]; exact hi)] at h1; exact h1))
        have HC0 : Hid (∀ i, i < q → wr.cell? ⟨w1.heap.size, 0 + i, none⟩ = some (.int .i64 (na Lf i))) := fun i hi => by rw [Nat.zero_add]; exact HC.out i hi
        have HF : Hid (∀ i : Nat, i < q → wr.cell? ⟨w1.heap.size, i, none⟩ = some (.int .i64 (naF Lf (i : Int)))) := fun i hi => HC.out i hi
        have hfi : fi Lf (foF false (naF Lf) (q - 1)) = ((ixF (naF Lf) (q - 1) : Nat) : Int) := fi_ix Lf (q - 1) (by have := HL.out; omega)
        have Hfi := Lib.hid hfi
        clear hor hp hfi hbel
        go_wp2_with fail
        refine (min_pos w1.heap.size q (naF Lf) q wr hN1 (by omega) HF).mono ?_
        rintro e w5 ⟨rfl, rfl⟩
        go_wp2_with fail
        refine (index_pos w1.heap.size 0 q Lf q _ wr HL (by omega) HC0).mono ?_
        rintro e w5 ⟨rfl, rfl⟩
        rw [Hfi.out]
        go_wp2_with fail
        go_ret2
        exact ⟨by rw [HV.out, HbB.out]; rfl, HB.out⟩

end Go.Proofs.Ytmgmkgjefplfdaa
