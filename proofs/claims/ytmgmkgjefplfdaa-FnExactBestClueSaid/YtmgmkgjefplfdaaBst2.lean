/- BestClue: by the model. -/
import Derived.Test.YtmgmkgjefplfdaaBst
namespace Go.Proofs.Ytmgmkgjefplfdaa
open Go.ChangeShapes Go.WideShapes Go.ChangeAt Go.RowKit
set_option linter.unusedVariables false


/-- The best clue of the first ones, and how many lists fit it. -/
def BR (L : List Int) (q : Nat) (b m : Int) : Prop := (q = 0 ∧ b = 0) ∨ ∃ k, q = k + 1 ∧ b = ((ixF (naF L) k : Nat) : Int) ∧ m = foF false (naF L) k
theorem BR.take {L : List Int} {q : Nat} {b m v : Int} (h : BR L q b m) (hv : na L q = v) (hc : q = 0 ∨ v < m) : BR L (q + 1) (q : Int) v := by
  refine .inr ⟨q, rfl, ?_, ?_⟩
  · rcases h with ⟨rfl, _⟩ | ⟨k, rfl, _, rfl⟩
    · rfl
    · have h1 : v < foF false (naF L) k := by rcases hc with h | h; exact absurd h (by omega); exact h
      have : ixF (naF L) (k + 1) = k + 1 := by show (if _ then _ else _) = _; rw [if_pos (by rw [naF_nat, hv]; exact h1)]
      rw [this]
  · rcases h with ⟨rfl, _⟩ | ⟨k, rfl, _, rfl⟩
    · exact hv.symm
    · have h1 : v < foF false (naF L) k := by rcases hc with h | h; exact absurd h (by omega); exact h
      show v = min (foF false (naF L) k) (naF L ((k + 1 : Nat) : Int))
      rw [naF_nat, hv]; omega
theorem BR.leave {L : List Int} {q : Nat} {b m v : Int} (h : BR L q b m) (hv : na L q = v) (h0 : ¬ q = 0) (hc : ¬ v < m) : BR L (q + 1) b m := by
  rcases h with ⟨rfl, _⟩ | ⟨k, rfl, rfl, rfl⟩
  · exact absurd rfl h0
  · refine .inr ⟨k + 1, rfl, ?_, ?_⟩
    · have : ixF (naF L) (k + 1) = ixF (naF L) k := by show (if _ then _ else _) = _; rw [if_neg (by rw [naF_nat, hv]; exact hc)]
      rw [this]
    · show _ = min (foF false (naF L) k) (naF L ((k + 1 : Nat) : Int))
      rw [naF_nat, hv]; omega
set_option maxHeartbeats 1000000 in
set_option maxRecDepth 20000 in
theorem specBst_any (w : World) (f n : Int) (gb : Nat) (cap : Nat) (l : List Clu) (N : Nat) (HN : Hid (N = l.length)) (hN : N ≤ 1048576) (hc : N ≤ cap) (Hc : CluesAt w (some ⟨gb, 0, none⟩) l) :
    Calls Try.prog 59 #[.agg #[.int .i64 f, .int .i64 n, .slice (some ⟨gb, 0, none⟩) N cap]] w fun e w' => e = .returned (.tuple #[.int .i64 (bstV f n l), .bool (bstB f n l)]) ∧ Below w.heap.size w w' := by
  obtain ⟨W0, hW, hbW, hsW, rX⟩ := box1 w #[.int .i64 f, .int .i64 n, .slice (some ⟨gb, 0, none⟩) N cap] 35
  have HW := Lib.hid hW
  have HX := Lib.hid rX
  have HbW := Lib.hid hbW
  have Hc0 := Lib.hid (Hc.kept hbW)
  have c0 : W0.cell? ⟨w.heap.size, 0, none⟩ = some (.int .i64 f) := cell_of_row _ _ _ _ _ _ rX
  have c1 : W0.cell? ⟨w.heap.size, 1, none⟩ = some (.int .i64 n) := cell_of_row _ _ _ _ _ _ rX
  have c2 : W0.cell? ⟨w.heap.size, 2, none⟩ = some (.slice (some ⟨gb, 0, none⟩) N cap) := cell_of_row _ _ _ _ _ _ rX
  clear hW rX hbW Hc
  by_cases hb : bstB f n l = true
  case neg =>
    have hbf : bstB f n l = false := by simpa using hb
    have HV : Hid (bstV f n l = 0) := by show _ = _; unfold bstV; rw [hbf]; rfl
    have HG := Lib.hid hbf
    have hN0 : goodB f n l = true → N = 0 := by
      intro hg
      have := hbf
      unfold bstB at this
      rw [hg, ← HN.out] at this
      simpa using this
    go_enter Try.func59, Try.ntmps59
    go_wp2_with fail
    rw [HW.out]
    refine (pzGood_any f n (some ⟨gb, 0, none⟩) cap l N W0 HN hN Hc0).mono ?_
    rintro e w1 ⟨rfl, hb1⟩
    have HB := Lib.hid (HbW.out.trans (hb1.mono HbW.out.size))
    have c2 := cell_old hb1 c2
    cases hg : goodB f n l
    · clear hb1 c0 c1 hb hbf hN0
      go_wp2_with fail
      go_ret2
      exact ⟨by rw [HV.out, HG.out] <;> rfl, HB.out⟩
    · obtain rfl : N = 0 := hN0 hg
      clear hb1 c0 c1 hb hbf hN0
      go_wp2_with fail
      go_ret2
      exact ⟨by rw [HV.out, HG.out] <;> rfl, HB.out⟩
  case pos =>
    have hg : goodB f n l = true := by unfold bstB at hb; simp at hb; exact hb.1
    have hN1 : 1 ≤ N := by
      unfold bstB at hb
      rw [hg, ← HN.out] at hb
      have : ¬ N = 0 := by simpa using hb
      omega
    have HG := Lib.hid hg
    have HbB := Lib.hid hb
    obtain ⟨F, M, rfl, rfl, hF, hM, h6, hm⟩ := good_parts hg
    have hN6 : N ≤ 6 := by rw [HN.out]; exact h6
    have hlen : (onS F M l).length = N := by rw [onS_len, ← HN.out]
    have HAt := Lib.hid (fun k (h : k < N) => onS_at F M l k (by rw [← HN.out]; exact h))
    have HV : Hid (bstV (F : Int) (M : Int) l = ((ixF (naF (onS F M l)) (N - 1) : Nat) : Int)) := by show _ = _; unfold bstV; rw [if_pos hb, ← HN.out]; rfl
    obtain ⟨Lf, hLf⟩ : ∃ Lf, onS F M l = Lf := ⟨_, rfl⟩
    rw [hLf] at hlen HAt HV
    have HL : Hid (N = Lf.length) := hlen.symm
    obtain ⟨i0, hi, hz0, hz1, hz2⟩ := info_parts info3
    have Hz := Lib.hid (And.intro hz0 (And.intro hz1 hz2))
    have Hm := Lib.hid hm
    clear hz0 hz1 hz2 hg hLf hlen hm h6 hb
    go_enter Try.func59, Try.ntmps59
    go_wp2_with fail
    rw [HW.out]
    refine (pzGood_any (F : Int) (M : Int) (some ⟨gb, 0, none⟩) cap l N W0 HN hN Hc0).mono ?_
    rintro e w1 ⟨rfl, hb1⟩
    have HB1 := Lib.hid (HbW.out.trans (hb1.mono HbW.out.size))
    have Hc1 := Lib.hid (Hc0.out.kept hb1)
    have HX1 := Lib.hid (row_later HX.out hb1)
    have c0 := cell_old hb1 c0
    have c1 := cell_old hb1 c1
    have c2 := cell_old hb1 c2
    have hs1 : w.heap.size ≤ w1.heap.size := HB1.out.size
    rw [HG.out]
    clear hb1
    have hne : ((N : Int) == 0) = false := by simp; omega
    go_wp2_with fail
    clear c0 c1 c2 hne
    go_loopw [4, 5, 20] (fun b m i wr => ∃ q : Nat, q ≤ N ∧ ∃ bb mm : Int, b = .int .i64 bb ∧ m = .int .i64 mm ∧ i = .int .i64 q ∧ BR Lf q bb mm ∧ Below w1.heap.size w1 wr) (fun _ _ i _ => N - (intOf i).toNat)
    case atStart => exact ⟨0, Nat.zero_le _, 0, 0, rfl, rfl, rfl, .inl ⟨rfl, rfl⟩, Below.refl _ _⟩
    case round =>
      obtain ⟨q, hq, bb, mm, rfl, rfl, rfl, hbr, hbel⟩ := hrel
      by_cases hlt : q < N
      · have hat := HAt.out q hlt
        have hsz := hbel.size
        obtain ⟨q1, hq1⟩ : ∃ q1, q1 = q + 1 := ⟨_, rfl⟩
        have hw1 : IntKind.i64.wrap ((q : Int) + 1) = (q1 : Int) := by rw [show ((q : Int) + 1) = (q1 : Int) by omega]; exact IntWalk.i64_in _ (by omega)
        have rXr := row_later HX1.out hbel
        have x0 : wr.cell? ⟨w.heap.size, 0, none⟩ = some (.int .i64 (F : Int)) := cell_of_row _ _ _ _ _ _ rXr
        have x1 : wr.cell? ⟨w.heap.size, 1, none⟩ = some (.int .i64 (M : Int)) := cell_of_row _ _ _ _ _ _ rXr
        have x2 : wr.cell? ⟨w.heap.size, 2, none⟩ = some (.slice (some ⟨gb, 0, none⟩) N cap) := cell_of_row _ _ _ _ _ _ rXr
        have Hcr := Lib.hid (Hc1.out.kept hbel)
        have Hbel := Lib.hid hbel
        have hqL : q < l.length := by rw [← HN.out]; exact hlt
        have HA := Lib.hid (fun (w3 : World) (cc : Nat) (hcc : 1 ≤ cc) (h : CluesAt w3 (some ⟨gb, 0, none⟩) l) => pzAll_any w3 F M (some ⟨gb, 0, none⟩) N cap (some ⟨gb, q * 4, none⟩) cc 1 ((l.drop q).take 1) (pf F) hF hM (Lib.hid (one_len q hqL)) (by omega) (Lib.hid (clues_one h q hqL)) (Lib.hid (fitOk_any w3 F M ((l.drop q).take 1) hF hM (all_one Hm.out q))))
        obtain ⟨V, hV⟩ : ∃ V, (sol F M ((l.drop q).take 1)).length = V := ⟨_, rfl⟩
        rw [hV] at hat
        have HV2 : Hid ((lk (fitsB (pf F) ((l.drop q).take 1)) (chs F) M []).length = V) := hV
        have Hat := Lib.hid hat
        have Hbr := Lib.hid hbr
        have hq0 : (0 : Int) ≤ (q : Int) := by omega
        have hqi : (q : Int) ≤ (q1 : Int) := by omega
        have hqc : (q1 : Int) ≤ (cap : Int) := by omega
        have hcq : ¬ cap = q := by omega
        obtain ⟨wa, hwa⟩ : ∃ x, x = wr := ⟨_, rfl⟩
        subst hwa
        clear hbel rXr hV hat hbr
        go_wp2_with fail
        go_region_with (first
          | (go_at_call 72; refine (HA.out wa.drew (cap - q) (by omega) (Hcr.out.kept (Below.refl _ _).drew)).mono ?_; rintro e w5 ⟨v5, X5, rfl, hO5, hb2⟩; obtain ⟨a5, c5, hv5, _⟩ := hO5.reads; rw [HV2.out] at hv5; subst hv5)
          | fail)
        all_goals (
        have HbN := Lib.hid (Hbel.out.trans ((Below.refl _ _).drew.trans hb2 |>.mono hsz))
        clear hb2 hO5 x0 x1 x2
        by_cases hz : q = 0
        · have hz1 : ((q : Int) == 0) = true := by simp; omega
          have HBr2 : BR Lf (q + 1) (q : Int) (V : Int) := Hbr.out.take Hat.out (.inl hz)
          have Hb9 := Lib.hid HbN.out
          go_wp2_with fail
          go_roundw
          case rel => exact ⟨q1, by omega, _, _, rfl, rfl, by first | rfl | go_num, by rw [hq1]; first | exact HBr2 | (have h := HBr2; rw [show ((q : Nat) : Int) = 0 by omega] at h; exact h), Hb9.out⟩
          case measure => simp [intOf]; omega
        · have hz1 : ((q : Int) == 0) = false := by simp; omega
          by_cases hv : (V : Int) < mm
          · have hd : decide ((V : Int) < mm) = true := by simpa using hv
            have HBr2 : BR Lf (q + 1) (q : Int) (V : Int) := Hbr.out.take Hat.out (.inr hv)
            have Hb9 := Lib.hid HbN.out
            go_wp2_with fail
            go_roundw
            case rel => exact ⟨q1, by omega, _, _, rfl, rfl, by first | rfl | go_num, by rw [hq1]; first | exact HBr2 | (have h := HBr2; rw [show ((q : Nat) : Int) = 0 by omega] at h; exact h), Hb9.out⟩
            case measure => simp [intOf]; omega
  
          · have hd : decide ((V : Int) < mm) = false := by simpa using hv
            have HBr2 : BR Lf (q + 1) bb mm := Hbr.out.leave Hat.out hz hv
            have Hb9 := Lib.hid HbN.out
            go_wp2_with fail
            go_roundw
            case rel => exact ⟨q1, by omega, _, _, rfl, rfl, by first | rfl | go_num, by rw [hq1]; first | exact HBr2 | (have h := HBr2; rw [show ((q : Nat) : Int) = 0 by omega] at h; exact h), Hb9.out⟩
            case measure => simp [intOf]; omega
  )
      · obtain rfl : q = N := by omega
        have hbV : bb = ((ixF (naF Lf) (q - 1) : Nat) : Int) := by
          rcases hbr with ⟨h, _⟩ | ⟨k, rfl, h, _⟩
          · omega
          · rw [h, Nat.add_sub_cancel]
        have HB := Lib.hid (HB1.out.trans (hbel.mono hs1))
        have Hbv := Lib.hid hbV
        clear hbr hbel hbV
        go_wp2_with fail
        go_ret2
        exact ⟨by rw [HV.out, HbB.out, ← Hbv.out]; rfl, HB.out⟩

end Go.Proofs.Ytmgmkgjefplfdaa
